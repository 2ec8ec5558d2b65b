/- Same, Move, Find of the program. -/
import Derived.Test.YthmpnhjlblcgdaaPSame
import Derived.Test.YthmpnhjlblcgdaaPMoved
namespace Go.Proofs.Ythmpnhjlblcgdaa
open Go.RowKit Go.Shelf

set_option maxHeartbeats 4000000 in
set_option maxRecDepth 100000 in
theorem pSame_any {A A' : Nat → Prop} (n n' : Nat) (t t' : Nd) (v v' : Value) (w : World) (h : TAt A n t v w) (h' : TAt A' n' t' v' w) (hc : cntN t ≤ 5000) :
    Calls Try.prog 15 #[v, v'] w fun e w' => e = .returned (.bool (eqN t t')) ∧ Below w.heap.size w w' := by
  have hen := fun W (hb : Below w.heap.size w W) => ends_any n t v W (h.next hb) hc
  have HSM : Hid (∀ W, Below w.heap.size w W → Calls Try.prog 37 #[v, v'] W fun e w' => e = .returned (.bool (eqN t t')) ∧ Below W.heap.size W w') := fun W hb => psame_any n n' t t' v v' W (h.next hb) (h'.next hb)
  obtain ⟨ba, bc, rfl, _⟩ := h.val
  obtain ⟨ba', bc', rfl, _⟩ := h'.val
  clear h h' hc
  generalize eqN t t' = V at *
  generalize t.h = hd at *
  generalize t.kids.length = kl at *
  generalize t'.h = hd' at *
  generalize t'.kids.length = kl' at *
  obtain ⟨zk, zn, zf, zr, zt, zb⟩ := hd
  obtain ⟨yk, yn, yf, yr, yt, yb⟩ := hd'
  unfold ndV at *
  simp only at *
  have hB0 : Below w.heap.size w ((w.alloc (Obj.cells #[Value.string zk, Value.bool zn, Value.string zf, Value.int IntKind.i64 zr, Value.int IntKind.i64 zt, Value.int IntKind.i64 zb, Value.slice ba kl bc] 24)).alloc (Obj.cells #[Value.string yk, Value.bool yn, Value.string yf, Value.int IntKind.i64 yr, Value.int IntKind.i64 yt, Value.int IntKind.i64 yb, Value.slice ba' kl' bc'] 24)) := ((Below.refl _ _).alloc (Nat.le_refl _) _).alloc (by simp) _
  have hz : w.heap.size + 1 < ((w.alloc (Obj.cells #[Value.string zk, Value.bool zn, Value.string zf, Value.int IntKind.i64 zr, Value.int IntKind.i64 zt, Value.int IntKind.i64 zb, Value.slice ba kl bc] 24)).alloc (Obj.cells #[Value.string yk, Value.bool yn, Value.string yf, Value.int IntKind.i64 yr, Value.int IntKind.i64 yt, Value.int IntKind.i64 yb, Value.slice ba' kl' bc'] 24)).heap.size := by simp
  have r7 : Row7 w.heap.size 0 ⟨zk, zn, zf, zr, zt, zb⟩ (.slice ba kl bc) ((w.alloc (Obj.cells #[Value.string zk, Value.bool zn, Value.string zf, Value.int IntKind.i64 zr, Value.int IntKind.i64 zt, Value.int IntKind.i64 zb, Value.slice ba kl bc] 24)).alloc (Obj.cells #[Value.string yk, Value.bool yn, Value.string yf, Value.int IntKind.i64 yr, Value.int IntKind.i64 yt, Value.int IntKind.i64 yb, Value.slice ba' kl' bc'] 24)) := by refine ⟨?_, ?_, ?_, ?_, ?_, ?_, ?_⟩ <;> simp
  have s7 : Row7 (w.heap.size + 1) 0 ⟨yk, yn, yf, yr, yt, yb⟩ (.slice ba' kl' bc') ((w.alloc (Obj.cells #[Value.string zk, Value.bool zn, Value.string zf, Value.int IntKind.i64 zr, Value.int IntKind.i64 zt, Value.int IntKind.i64 zb, Value.slice ba kl bc] 24)).alloc (Obj.cells #[Value.string yk, Value.bool yn, Value.string yf, Value.int IntKind.i64 yr, Value.int IntKind.i64 yt, Value.int IntKind.i64 yb, Value.slice ba' kl' bc'] 24)) := by refine ⟨?_, ?_, ?_, ?_, ?_, ?_, ?_⟩ <;> simp
  have hen1 := hen _ hB0
  clear hen
  go_enter Try.func15, Try.ntmps15
  go_wp2_with fail
  refine hen1.mono ?_
  rintro e w1 ⟨rfl, hb1⟩
  obtain ⟨r0, r1, r2, r3, r4, r5, r6⟩ := r7.but (D := fun _ => False) (But.of_next hb1) (by omega) (fun h => h)
  obtain ⟨s0, s1, s2, s3, s4, s5, s6⟩ := s7.but (D := fun _ => False) (But.of_next hb1) hz (fun h => h)
  simp only [Nat.zero_add] at r1 r2 r3 r4 r5 r6 s1 s2 s3 s4 s5 s6
  have hBB1 : Below w.heap.size w w1 := below_next hB0 hb1
  have hsm := HSM.out w1 hBB1
  clear HSM hen1
  go_wp2_with fail
  refine hsm.mono ?_
  rintro e w2 ⟨rfl, hb2⟩
  clear hsm
  go_wp2_with fail
  all_goals
    go_ret
    exact ⟨rfl, below_next hBB1 hb2⟩
set_option maxHeartbeats 4000000 in
set_option maxRecDepth 100000 in
theorem move_any {A : Nat → Prop} (n : Nat) (t : Nd) (v : Value) (d : Int) (w : World) (h : TAt A n t v w) (hc : cntN t ≤ 5000) :
    Calls Try.prog 29 #[v, .int .i64 d] w fun e w' => ∃ m v', e = .returned v' ∧ TAt (fun k => w.heap.size ≤ k) m (moveN t d) v' w' ∧ Below w.heap.size w w' := by
  have hen := fun W (hb : Below w.heap.size w W) => ends_any n t v W (h.next hb) hc
  have HMV : Hid (∀ W, Below w.heap.size w W → Calls Try.prog 40 #[v, .int .i64 d] W fun e w' => ∃ m v', e = .returned v' ∧ TAt (fun k => W.heap.size ≤ k) m (moveN t d) v' w' ∧ Below W.heap.size W w') := fun W hb => moved_any n t v d W (h.next hb) (by omega)
  obtain ⟨ba, bc, rfl, _⟩ := h.val
  clear h hc
  generalize moveN t d = mt at *
  generalize t.h = hd at *
  generalize t.kids.length = kl at *
  obtain ⟨zk, zn, zf, zr, zt, zb⟩ := hd
  unfold ndV at *
  simp only at *
  obtain ⟨W0, hW0⟩ : ∃ W0, W0 = (w.alloc (Obj.cells #[Value.string zk, Value.bool zn, Value.string zf, Value.int IntKind.i64 zr, Value.int IntKind.i64 zt, Value.int IntKind.i64 zb, Value.slice ba kl bc] 24)).alloc (Obj.cells #[.string ⟨#[]⟩, .bool false, .string ⟨#[]⟩, .int .i64 0, .int .i64 0, .int .i64 0, .slice none 0 0] 24) := ⟨_, rfl⟩
  have hB0 : Below w.heap.size w W0 := by rw [hW0]; exact ((Below.refl _ _).alloc (Nat.le_refl _) _).alloc (by simp) _
  have hz : W0.heap.size = w.heap.size + 1 + 1 := by rw [hW0]; simp
  have r7 : Row7 w.heap.size 0 ⟨zk, zn, zf, zr, zt, zb⟩ (.slice ba kl bc) W0 := by rw [hW0]; refine ⟨?_, ?_, ?_, ?_, ?_, ?_, ?_⟩ <;> simp
  have b1 : W0.heap[w.heap.size + 1]? = some (.cells #[.string ⟨#[]⟩, .bool false, .string ⟨#[]⟩, .int .i64 0, .int .i64 0, .int .i64 0, .slice none 0 0] 24 (0, 0)) := by
    have := World.alloc_heap_new (w.alloc (Obj.cells #[Value.string zk, Value.bool zn, Value.string zf, Value.int IntKind.i64 zr, Value.int IntKind.i64 zt, Value.int IntKind.i64 zb, Value.slice ba kl bc] 24)) (Obj.cells #[.string ⟨#[]⟩, .bool false, .string ⟨#[]⟩, .int .i64 0, .int .i64 0, .int .i64 0, .slice none 0 0] 24)
    rw [World.size_alloc] at this
    rw [hW0]; exact this
  have hen1 := hen _ hB0
  rw [hW0] at hen1
  clear hen
  go_enter Try.func29, Try.ntmps29
  go_wp2_with fail
  refine hen1.mono ?_
  rw [← hW0]
  rintro e w1 ⟨rfl, hb1⟩
  have HZ : Hid (W0.heap.size = w.heap.size + 1 + 1) := hz
  have b11 := (hb1.block (w.heap.size + 1) (by omega)).trans b1
  obtain ⟨r0, r1, r2, r3, r4, r5, r6⟩ := r7.but (D := fun _ => False) (But.of_next hb1) (by omega) (fun h => h)
  simp only [Nat.zero_add] at r1 r2 r3 r4 r5 r6
  have hBB1 : Below w.heap.size w w1 := below_next hB0 hb1
  have hmv := HMV.out w1 hBB1
  have hs1 := hb1.size
  clear HMV hen1 hz r7 b1 hW0
  go_wp2_with fail
  refine hmv.mono ?_
  rintro e w2 ⟨m, v2, rfl, hT2, hb2⟩
  obtain ⟨xa, xc, rfl, hxl⟩ := hT2.val
  have HT2 : Hid (TAt (fun k => w1.heap.size ≤ k) m mt (ndV mt.h (.slice xa mt.kids.length xc)) w2) := hT2
  have b12 := (hb2.block (w.heap.size + 1) (by have := HZ.out; omega)).trans b11
  have f1 : ∀ o, w2.frozen? ⟨w.heap.size + 1, o, none⟩ = false := fun o => by simp [World.frozen?, b12]
  have q0 : w2.cell? ⟨w.heap.size + 1, 0, none⟩ = some (.string ⟨#[]⟩) := by simp [World.cell?, b12]
  have q1 : w2.cell? ⟨w.heap.size + 1, 1, none⟩ = some (.bool false) := by simp [World.cell?, b12]
  have q2 : w2.cell? ⟨w.heap.size + 1, 2, none⟩ = some (.string ⟨#[]⟩) := by simp [World.cell?, b12]
  have q3 : w2.cell? ⟨w.heap.size + 1, 3, none⟩ = some (.int .i64 0) := by simp [World.cell?, b12]
  have q4 : w2.cell? ⟨w.heap.size + 1, 4, none⟩ = some (.int .i64 0) := by simp [World.cell?, b12]
  have q5 : w2.cell? ⟨w.heap.size + 1, 5, none⟩ = some (.int .i64 0) := by simp [World.cell?, b12]
  have q6 : w2.cell? ⟨w.heap.size + 1, 6, none⟩ = some (.slice none 0 0) := by simp [World.cell?, b12]
  have HB12 : Hid (w2.heap[w.heap.size + 1]? = some (.cells #[.string ⟨#[]⟩, .bool false, .string ⟨#[]⟩, .int .i64 0, .int .i64 0, .int .i64 0, .slice none 0 0] 24 (0, 0))) := b12
  clear hmv hT2 b11 b12 r0 r1 r2 r3 r4 r5 r6
  generalize mt.h = mh at *
  generalize mt.kids.length = ml at *
  obtain ⟨xk, xn, xf, xr, xt, xb⟩ := mh
  unfold ndV at *
  simp only at *
  go_wp2_with fail
  have hh := heap_set (o := 6) (.slice xa ml xc) (heap_set (o := 5) (.int .i64 xb) (heap_set (o := 4) (.int .i64 xt) (heap_set (o := 3) (.int .i64 xr) (heap_set (o := 2) (.string xf) (heap_set (o := 1) (.bool xn) (heap_set (o := 0) (.string xk) HB12.out))))))
  have hBt : But (fun k => k = w.heap.size + 1) w2 (((((((w2.setCell ⟨w.heap.size + 1, 0, none⟩ (.string xk)).setCell ⟨w.heap.size + 1, 1, none⟩ (.bool xn)).setCell ⟨w.heap.size + 1, 2, none⟩ (.string xf)).setCell ⟨w.heap.size + 1, 3, none⟩ (.int .i64 xr)).setCell ⟨w.heap.size + 1, 4, none⟩ (.int .i64 xt)).setCell ⟨w.heap.size + 1, 5, none⟩ (.int .i64 xb)).setCell ⟨w.heap.size + 1, 6, none⟩ (.slice xa ml xc)) :=
    (((((((But.refl (fun k => k = w.heap.size + 1) w2).setCell _ 0 _ rfl).setCell _ 1 _ rfl).setCell _ 2 _ rfl).setCell _ 3 _ rfl).setCell _ 4 _ rfl).setCell _ 5 _ rfl).setCell _ 6 _ rfl
  refine bodyPost_ret (results_cell_row rfl _ _ (w.heap.size + 1) 24 #[.string xk, .bool xn, .string xf, .int .i64 xr, .int .i64 xt, .int .i64 xb, .slice xa ml xc] (0, 0) _ rfl hh Try.underlying24 rfl (by kernel_rfl)) rfl ?_
  have hZ := HZ.out
  have hs2 := hb2.size
  refine ⟨m, _, rfl, (HT2.out.but (D := fun k => k = w.heap.size + 1) (fun k hk e => by omega) hBt).imp (fun k _ hk => by omega), (below_next hBB1 hb2).trans (hBt.below (by omega) (fun k _ e => by omega))⟩
end Go.Proofs.Ythmpnhjlblcgdaa
