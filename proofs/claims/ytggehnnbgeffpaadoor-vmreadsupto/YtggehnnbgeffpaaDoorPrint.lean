/- Print of the program: its text, for every fit program. -/
import Derived.Test.YtggehnnbgeffpaaDoorWritten
import Derived.RangeFuncBox
namespace Go.Proofs.YtggehnnbgeffpaaDoor
open Go.Shelf Go.RowKit Go.Lib Go.Proofs

theorem info9 : (Tryd.prog.info? 9).map (fun i => (i.zero, i.size, i.bytes)) = some (some (.string ⟨#[]⟩), 1, 16) := by kernel_rfl
def printN (p : List Ins) : List UInt8 := Lib.join (p.map writtenN) [59, 32]
abbrev strB (l : List UInt8) : ByteArray := ⟨l.toArray⟩
theorem own_next {W W' : World} {base : Nat} {e : TypeId} {size : Nat} {v : Value} {n : Nat} {xs : List Value} (h : W.ownsRow base e size v n xs) (hb : Below W.heap.size W W') : W'.ownsRow base e size v n xs :=
  h.kept (row := none) ⟨hb.os, hb.tape, hb.output, hb.size, fun k hk _ => hb.block k hk⟩ (by cases v.ownBlock <;> simp)
theorem cells1 (v : Value) (W : World) (t : TypeId) : ∀ (j : Nat) (u : Value), [v][j]? = some u → (W.alloc (.cells #[v] t)).cell? ((⟨W.heap.size, 0, none⟩ : Addr).add j) = some u := by
  intro j u hj
  have hadd : (⟨W.heap.size, 0, none⟩ : Addr).add j = ⟨W.heap.size, j, none⟩ := by unfold Addr.add; split <;> simp_all
  rw [hadd]
  match j, hj with
  | 0, hj => simpa using hj
  | j + 1, hj => simp at hj
theorem writtenN_le (i : Ins) (hi : InsOk i) : (writtenN i).length ≤ 100 := by
  have hp : ∀ (u : Bool) (n : Int), -9223372036854775808 ≤ n ∧ n ≤ 9223372036854775807 → (partN u n).length ≤ 22 := fun u n hn => by
    have := Lib.itoa_length_le n hn.1 hn.2
    unfold partN
    split <;> simp <;> omega
  have h1 := hp (useX i.op.toNat) i.x hi.2.1
  have h2 := hp (useY i.op.toNat) i.y hi.2.2.1
  have h3 := hp (useZ i.op.toNat) i.z hi.2.2.2
  have hw : (wordL i.op.toNat).length ≤ 4 := by
    unfold wordL
    split <;> decide
  simp only [writtenN, List.length_append]
  omega
theorem join_le (l : List (List UInt8)) (h : ∀ x ∈ l, x.length ≤ 100) : (Lib.join l [59, 32]).length ≤ l.length * 102 := by
  unfold Lib.join
  induction l with
  | nil => simp
  | cons x t ih =>
    cases t with
    | nil => have := h x (by simp); simp [List.intercalate]; omega
    | cons y r =>
      have h1 := h x (by simp)
      have h2 := ih (fun z hz => h z (by simp [hz]))
      have : List.intercalate [59, 32] (x :: y :: r) = x ++ [59, 32] ++ List.intercalate [59, 32] (y :: r) := by simp [List.intercalate]
      rw [this]
      simp only [List.length_append, List.length_cons, List.length_nil] at *
      omega

theorem join_own (p : List Ins) (n0 : Nat) (v : Value) (W : World) (hO : W.ownsRow n0 9 1 v p.length (p.map fun i => .string (strB (writtenN i)))) (hlen : 1 ≤ p.length ∧ p.length ≤ 64) (ho : ∀ i ∈ p, InsOk i) :
    Calls Tryd.prog 28 #[v, .string ⟨#[59, 32]⟩] W fun e w' => e = .returned (.string (strB (printN p))) ∧ Below W.heap.size W w' := by
  rcases hO.2 with ⟨_, h0⟩ | ⟨g, cp, cur, rfl, hg0, hg1, hcp, _⟩
  · omega
  have hcells := World.ownsRow.cells hO (g := g) rfl
  have e : (p.map fun i => strB (writtenN i)).map (·.data.toList) = p.map writtenN := by
    rw [List.map_map]
    congr 1
  have hcon := join_any g 0 cp (p.map fun i => strB (writtenN i)) ⟨#[59, 32]⟩ W (fun jj x hx => by
    have := hcells jj (.string x) (by rw [List.getElem?_map] at hx ⊢; cases h : p[jj]? <;> simp_all)
    have hadd : (⟨g, 0, none⟩ : Addr).add jj = ⟨g, 0 + jj, none⟩ := by unfold Addr.add; split <;> simp_all
    rw [hadd] at this
    exact this) (Array.getElem?_eq_some_iff.1 hg1).1 (by simp; omega) (by simp; omega) (by
      have := join_le (p.map writtenN) (fun x hx => by
        obtain ⟨i, hi, rfl⟩ := List.mem_map.1 hx
        exact writtenN_le i (ho i hi))
      rw [e]
      simp only [List.length_map] at this
      exact Nat.le_trans this (by omega))
  rw [e, List.length_map] at hcon
  exact hcon

set_option maxRecDepth 100000 in
set_option maxHeartbeats 2000000 in
theorem print_any (p : List Ins) (ao : Option Addr) (cap : Nat) (w : World) (hV : Vars w) (hc : InsAt p ao w) (hf : fitP p = true) (ho : ∀ i ∈ p, InsOk i) :
    Calls Tryd.prog 11 #[.slice ao p.length cap] w fun e w' => e = .returned (.string (strB (printN p))) ∧ Below w.heap.size w w' := by
  have hlen : 1 ≤ p.length ∧ p.length ≤ 64 := by simp only [fitP, Bool.and_eq_true, decide_eq_true_eq] at hf; exact hf.1
  obtain ⟨i0, hi, hz0, hz1, hz2⟩ := info_parts info9
  have hfit := fit_any p ao cap w hV.forms hc (by omega)
  rw [hf] at hfit
  go_enter Tryd.func11, Tryd.ntmps11
  go_wp2_with (go_at_call 14; refine hfit.mono ?_; rintro e w0 ⟨rfl, hb0⟩)
  go_loopw [3, 11] (fun l c wr => ∃ j : Nat, c = .int .i64 j ∧ j ≤ p.length ∧ wr.ownsRow w.heap.size 9 1 l j ((p.take j).map fun i => .string (strB (writtenN i))) ∧ Below w.heap.size w wr) (fun _ c _ => p.length - (intOf c).toNat)
  case atStart => exact ⟨0, rfl, Nat.zero_le _, World.ownsRow_nil _ _ _ _, hb0⟩
  case round =>
    obtain ⟨j, rfl, hj, hO, B1⟩ := hrel
    by_cases hlt : j < p.length
    · obtain ⟨b, off, rfl, hb, c0, c1, c2, c3⟩ := hc.at B1 hlt
      have hop := ho _ (List.getElem_mem hlt)
      have hfo : 1 ≤ p[j].op ∧ p[j].op ≤ 7 := by
        simp only [fitP, Bool.and_eq_true, List.all_eq_true] at hf
        have := hf.2 _ (List.getElem_mem hlt)
        simp only [fitB, Bool.and_eq_true, decide_eq_true_eq] at this
        exact this.1.1.1.1
      have HT : Hid (((p.take (j + 1)).map fun i => Value.string (strB (writtenN i))) = ((p.take j).map fun i => .string (strB (writtenN i))) ++ [.string (strB (writtenN p[j]))]) := by
        show _ = _
        rw [List.take_succ_eq_append_getElem hlt, List.map_append, List.map_cons, List.map_nil]
      have hcon := fun W (h : Below w.heap.size w W) => written_any p[j] W (hV.next h) hfo hop
      generalize p[j] = i at *
      obtain ⟨o, x, y, z⟩ := i
      simp only at c0 c1 c2 c3
      have k1 : (j : Int) < p.length := by omega
      have hbr : b < wr.heap.size := Nat.lt_of_lt_of_le hb B1.size
      generalize writtenN ⟨o, x, y, z⟩ = tx at *
      clear hc hfit hV hf ho
      go_wp2_with fail
      refine (hcon _ (B1.alloc B1.size _)).mono ?_
      rintro e w1 ⟨rfl, hb1⟩
      have hO1 := own_next (World.ownsRow.alloc hO (.cells #[.int .i64 o, .int .i64 x, .int .i64 y, .int .i64 z] 39)) hb1
      have B2 : Below w.heap.size w w1 := (B1.alloc B1.size _).trans (hb1.mono (by have := B1.size; simp; omega))
      have hsz := B2.size
      clear hO hb1 hcon B1
      go_wp2_with (at_builtin; refine wpList_append_own _ rfl _ _ 62 rfl w.heap.size 9 i0 _ 1 16 Tryd.underlying62 hi hz0 hz1 hz2 rfl (by decide) _ _ _ rfl (World.ownsRow.alloc hO1 _) ⟨w1.heap.size, 0, none⟩ 1 1 [.string (strB tx)] rfl rfl (cells1 _ _ _) (fun u hu => by simp at hu; subst hu; rfl) (by unfold maxLen; omega) (by omega) (by simp; omega) ?_)
      intro v' w2 hown' hgrow _
      have B3 : Below w.heap.size w w2 := (B2.alloc B2.size _).grown hgrow (by simp; omega) (fun k e => (World.ownsRow.lt hO1 k e).1)
      rw [← List.map_take, ← HT.out] at hown'
      go_wp2_with fail
      exact ⟨⟨j + 1, by go_num, by omega, hown', B3⟩, by simp [intOf]; omega⟩
    · have k1 : ¬ (j : Int) < p.length := by omega
      have hjp : j = p.length := by omega
      subst hjp
      rw [List.take_length] at hO
      have hcon := join_own p _ _ wr hO hlen ho
      clear hc hfit hV hf ho hO
      have HP : Hid (printN p = printN p) := rfl
      generalize hpp : printN p = tx at hcon HP
      have HP2 : Hid (printN p = tx) := hpp
      clear hpp HP
      go_wp2_with (go_at_call 28; refine hcon.mono ?_; rintro e w1 ⟨rfl, hb1⟩)
      go_ret
      exact ⟨by rw [HP2.out]; rfl, below_next B1 hb1⟩
end Go.Proofs.YtggehnnbgeffpaaDoor
