/- Print. -/
import Derived.Test.YthmpnhjlblcgdaaPWrite
import Derived.Test.YthmpnhjlblcgdaaPMeas
namespace Go.Proofs.Ythmpnhjlblcgdaa
open Go.RowKit Go.Shelf

set_option maxHeartbeats 4000000 in
set_option maxRecDepth 100000 in
theorem print_any {A : Nat → Prop} (n : Nat) (t : Nd) (v : Value) (w : World) (h : TAt A n t v w) (hc : cntN t ≤ 5000) (hlen : (printN t).length + 1000 ≤ 140737488355328) :
    Calls Try.prog 17 #[v] w fun e w' => e = .returned (.string ⟨(printN t).toArray⟩) ∧ Below w.heap.size w w' := by
  have hen := fun W (hb : Below w.heap.size w W) => ends_any n t v W (h.next hb) hc
  have HWR : Hid (∀ (B b : Nat) (l : List UInt8) (W : World), Below w.heap.size w W → w.heap.size ≤ B → BAt B b l W → l.length + (printN t).length + 1000 ≤ 140737488355328 → B ≤ W.heap.size → Calls Try.prog 38 #[.pointer (some ⟨b, 0, none⟩), v] W fun e w' => e = .returned (.tuple #[]) ∧ BAt B b (l ++ printN t) w' ∧ BStep B b W w') := fun B b l W q1 q2 q3 q4 q5 => writes_all n t v B b l w W h q1 q2 q3 q4 q5
  obtain ⟨ba, bc, rfl, _⟩ := h.val
  clear h hc
  generalize printN t = PT at *
  generalize t.h = hd at *
  generalize t.kids.length = kl at *
  obtain ⟨zk, zn, zf, zr, zt, zb⟩ := hd
  unfold ndV at *
  simp only at *
  have hB0 : Below w.heap.size w (w.alloc (Obj.cells #[Value.string zk, Value.bool zn, Value.string zf, Value.int IntKind.i64 zr, Value.int IntKind.i64 zt, Value.int IntKind.i64 zb, Value.slice ba kl bc] 24)) := (Below.refl _ _).alloc (Nat.le_refl _) _
  have hz : w.heap.size < (w.alloc (Obj.cells #[Value.string zk, Value.bool zn, Value.string zf, Value.int IntKind.i64 zr, Value.int IntKind.i64 zt, Value.int IntKind.i64 zb, Value.slice ba kl bc] 24)).heap.size := by simp
  have r7 : Row7 w.heap.size 0 ⟨zk, zn, zf, zr, zt, zb⟩ (.slice ba kl bc) (w.alloc (Obj.cells #[Value.string zk, Value.bool zn, Value.string zf, Value.int IntKind.i64 zr, Value.int IntKind.i64 zt, Value.int IntKind.i64 zb, Value.slice ba kl bc] 24)) := by refine ⟨?_, ?_, ?_, ?_, ?_, ?_, ?_⟩ <;> simp
  have hen1 := hen _ hB0
  clear hen
  go_enter Try.func17, Try.ntmps17
  go_wp2_with fail
  refine hen1.mono ?_
  rintro e w1 ⟨rfl, hb1⟩
  obtain ⟨r0, r1, r2, r3, r4, r5, r6⟩ := r7.but (D := fun _ => False) (But.of_next hb1) hz (fun h => h)
  simp only [Nat.zero_add] at r1 r2 r3 r4 r5 r6
  have hz1 : w.heap.size < w1.heap.size := Nat.lt_of_lt_of_le hz hb1.size
  have hBB1 : Below w.heap.size w w1 := below_next hB0 hb1
  have hB1 : Below w1.heap.size w1 (w1.alloc (.cells #[.pointer none, .slice none 0 0] 55)) := (Below.refl _ _).alloc (Nat.le_refl _) _
  have hcw := HWR.out w1.heap.size w1.heap.size [] (w1.alloc (.cells #[.pointer none, .slice none 0 0] 55)) (below_next hBB1 hB1) (Nat.le_of_lt hz1) (bat_new w1) (by simpa using hlen) (by simp)
  clear HWR hen1 hlen
  go_wp2_with fail
  refine hcw.mono ?_
  rintro e w2 ⟨rfl, h2, hs2⟩
  have hst := string_any w1.heap.size w1.heap.size PT w2 (by simpa using h2) (Nat.le_trans (by simp) hs2.size)
  clear hcw h2
  go_wp2_with fail
  refine hst.mono ?_
  rintro e w3 ⟨rfl, hb3⟩
  go_wp2_with fail
  go_ret
  exact ⟨rfl, below_next hBB1 ((hB1.trans hs2.below).trans hb3)⟩
end Go.Proofs.Ythmpnhjlblcgdaa
