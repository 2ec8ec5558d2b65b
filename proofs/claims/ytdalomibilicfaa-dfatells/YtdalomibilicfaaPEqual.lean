/- slices.Equal at numbers. -/
import Derived.Test.YtdalomibilicfaaPRefined
namespace Go.Proofs.Ytdalomibilicfaa
open Go.RowKit

theorem ext_le {α : Type} {l m : List α} (hlen : l.length = m.length) (h : ∀ k : Nat, k < l.length → l[k]? = m[k]?) : l = m := by
  apply List.ext_getElem?
  intro k
  rcases Nat.lt_or_ge k l.length with hk | hk
  · exact h k hk
  · rw [List.getElem?_eq_none hk, List.getElem?_eq_none (by omega)]

set_option maxRecDepth 100000 in
set_option maxHeartbeats 1600000 in
theorem equalI_any (l m : List Int) (u v : Value) (w : World) (hl : SlI l u w) (hm : SlI m v w) (hb : l.length ≤ 140737488351232) :
    Calls Try.prog 46 #[u, v] w fun e w' => e = .returned (.bool (decide (l = m))) ∧ ∃ n, w' = w.drewN n := by
  have HL : Hid (∀ n, SlI l u (w.drewN n) ∧ SlI m v (w.drewN n)) := fun n => ⟨hl.next (below_drewN (Below.refl _ _) n), hm.next (below_drewN (Below.refl _ _) n)⟩
  obtain ⟨la, lc, rfl, _⟩ := hl
  obtain ⟨ma, mc, rfl, _⟩ := hm
  go_enter Try.func46, Try.ntmps46
  by_cases e2 : l.length = m.length
  case neg =>
    have HE : Hid (decide (l = m) = false) := decide_eq_false (fun h => e2 (by rw [h]))
    have e2' : ((l.length : Int) != (m.length : Int)) = true := by simp; omega
    have e2'' : ¬ (l.length : Int) = (m.length : Int) := by omega
    go_wp2_with fail
    go_ret
    exact ⟨by rw [HE.out]; rfl, 0, rfl⟩
  have HEQ : Hid ((∀ k : Nat, k < l.length → l[k]? = m[k]?) → decide (l = m) = true) := fun h => decide_eq_true (ext_le e2 h)
  have HNE : Hid (∀ k : Nat, l[k]? ≠ m[k]? → decide (l = m) = false) := fun k h => decide_eq_false (fun e => h (by rw [e]))
  have e2' : ((l.length : Int) != (m.length : Int)) = false := by simp; omega
  have e2'' : (l.length : Int) = (m.length : Int) := by omega
  have HLE : Hid (l.length = m.length) := e2
  go_wp2_with fail
  clear e2' e2'' e2
  go_loopw [13] (fun iv wr => ∃ (i n : Nat), iv = .int .i64 i ∧ i ≤ l.length ∧ (∀ k : Nat, k < i → l[k]? = m[k]?) ∧ wr = w.drewN n) (fun i _ => l.length - (intOf i).toNat)
  case atStart => exact ⟨0, 0, rfl, Nat.zero_le _, fun k hk => by omega, rfl⟩
  case round =>
  obtain ⟨i, n, rfl, hi, hall, rfl⟩ := hrel
  have HAL : Hid (∀ k : Nat, k < i → l[k]? = m[k]?) := hall
  clear hall
  by_cases hlt : i < l.length
  case neg =>
    have hlt' : ¬ (i : Int) < m.length := by have := HLE.out; omega
    obtain rfl : i = l.length := by omega
    have HE : Hid (decide (l = m) = true) := HEQ.out HAL.out
    clear HEQ HNE HAL
    go_wp2_with fail
    go_ret
    exact ⟨by rw [HE.out]; rfl, n, rfl⟩
  have hlt2 : i < m.length := by have := HLE.out; omega
  obtain ⟨⟨_, _, e0, hrl, _⟩, ⟨_, _, e1, hrm, _⟩⟩ := HL.out n
  cases e0
  cases e1
  obtain ⟨b2, o2, rfl, hb2, p0⟩ := hrl.at (Below.refl _ (w.drewN n)).drew hlt
  obtain ⟨b3, o3, rfl, hb3, q0⟩ := hrm.at (Below.refl _ (w.drewN n)).drew hlt2
  unfold encI at p0 q0
  have HX1 : Hid (l[i]? = some l[i] ∧ m[i]? = some m[i]) := by constructor <;> simp
  generalize l[i] = p at *
  generalize m[i] = q at *
  have hS0 : (fun W : World => (W.cell? ⟨b2, o2 + i, none⟩ = some (.int .i64 p) ∧ W.cell? ⟨b3, o3 + i, none⟩ = some (.int .i64 q))) (w.drewN n).drew := ⟨p0, q0⟩
  have HDR : Hid (∃ k, (w.drewN n).drew = w.drewN k) := ⟨n + 1, by rw [← World.drewN_drewN]; rfl⟩
  clear hrl hrm HL p0 q0
  by_cases hpq : p = q
  · subst hpq
    have HA2 : Hid (∀ k : Nat, k < i + 1 → l[k]? = m[k]?) := fun k hk => by
      rcases Nat.lt_or_ge k i with h | h
      · exact HAL.out k h
      · obtain rfl : k = i := by omega
        rw [HX1.out.1, HX1.out.2]
    clear HX1 HAL HEQ HNE
    go_wp2_with fail
    refine wp_region_L (fun W => W.cell? ⟨b2, o2 + i, none⟩ = some (.int .i64 p) ∧ W.cell? ⟨b3, o3 + i, none⟩ = some (.int .i64 p)) 9 (by kernel_rfl) 9 rfl ?_
    refine wpAnyL_take' (i := 0) (v := ?_) (oi := { dst := some 16, op := Op.move (Operand.tmp 0), type := 57, pos := "slices.go:25", after := #[], guard := none }) rfl (by kernel_rfl) (by kernel_rfl) (by kernel_rfl) (by kernel_rfl) rfl (fun _ _ _ h => h) (Or.inl ⟨by rfl, ?_⟩) hS0 ?_
    rotate_left
    · intro W hSW
      go_simp
      try with_reducible rfl
    simp only [Act.put, List.setIfInBounds_toArray, List.set_cons_zero, List.set_cons_succ]
    refine wpAnyL_take' (i := 1) (v := ?_) (oi := { dst := some 17, op := Op.move (Operand.tmp 5), type := 3, pos := "slices.go:25", after := #[], guard := none }) rfl (by kernel_rfl) (by kernel_rfl) (by kernel_rfl) (by kernel_rfl) rfl (fun _ _ _ h => h) (Or.inl ⟨by rfl, ?_⟩) hS0 ?_
    rotate_left
    · intro W hSW
      go_simp
      try with_reducible rfl
    simp only [Act.put, List.setIfInBounds_toArray, List.set_cons_zero, List.set_cons_succ]
    refine wpAnyL_take' (i := 2) (v := ?_) (oi := { dst := some 18, op := Op.indexAddr 57 (Operand.tmp 16) (Operand.tmp 17), type := 0, pos := "slices.go:25", after := #[{ on := 0, ground := Ground.data }, { on := 1, ground := Ground.data }], guard := none }) rfl (by kernel_rfl) (by kernel_rfl) (by kernel_rfl) (by kernel_rfl) rfl (fun _ _ _ h => h) (Or.inl ⟨by rfl, ?_⟩) hS0 ?_
    rotate_left
    · intro W hSW
      go_simp
      try with_reducible rfl
    simp only [Act.put, List.setIfInBounds_toArray, List.set_cons_zero, List.set_cons_succ]
    refine wpAnyL_take' (i := 3) (v := ?_) (oi := { dst := some 19, op := Op.load 3 (Operand.tmp 18), type := 3, pos := "slices.go:25", after := #[{ on := 2, ground := Ground.data }], guard := none }) rfl (by kernel_rfl) (by kernel_rfl) (by kernel_rfl) (by kernel_rfl) rfl (fun _ _ _ h => h) (Or.inl ⟨by rfl, ?_⟩) hS0 ?_
    rotate_left
    · intro W hSW
      go_simp
      try with_reducible rfl
    simp only [Act.put, List.setIfInBounds_toArray, List.set_cons_zero, List.set_cons_succ]
    refine wpAnyL_take' (i := 4) (v := ?_) (oi := { dst := some 20, op := Op.move (Operand.tmp 1), type := 57, pos := "slices.go:25", after := #[], guard := none }) rfl (by kernel_rfl) (by kernel_rfl) (by kernel_rfl) (by kernel_rfl) rfl (fun _ _ _ h => h) (Or.inl ⟨by rfl, ?_⟩) hS0 ?_
    rotate_left
    · intro W hSW
      go_simp
      try with_reducible rfl
    simp only [Act.put, List.setIfInBounds_toArray, List.set_cons_zero, List.set_cons_succ]
    refine wpAnyL_take' (i := 5) (v := ?_) (oi := { dst := some 21, op := Op.move (Operand.tmp 5), type := 3, pos := "slices.go:25", after := #[], guard := none }) rfl (by kernel_rfl) (by kernel_rfl) (by kernel_rfl) (by kernel_rfl) rfl (fun _ _ _ h => h) (Or.inl ⟨by rfl, ?_⟩) hS0 ?_
    rotate_left
    · intro W hSW
      go_simp
      try with_reducible rfl
    simp only [Act.put, List.setIfInBounds_toArray, List.set_cons_zero, List.set_cons_succ]
    refine wpAnyL_take' (i := 6) (v := ?_) (oi := { dst := some 22, op := Op.indexAddr 57 (Operand.tmp 20) (Operand.tmp 21), type := 0, pos := "slices.go:25", after := #[{ on := 4, ground := Ground.data }, { on := 5, ground := Ground.data }], guard := none }) rfl (by kernel_rfl) (by kernel_rfl) (by kernel_rfl) (by kernel_rfl) rfl (fun _ _ _ h => h) (Or.inl ⟨by rfl, ?_⟩) hS0 ?_
    rotate_left
    · intro W hSW
      go_simp
      try with_reducible rfl
    simp only [Act.put, List.setIfInBounds_toArray, List.set_cons_zero, List.set_cons_succ]
    refine wpAnyL_take' (i := 7) (v := ?_) (oi := { dst := some 23, op := Op.load 3 (Operand.tmp 22), type := 3, pos := "slices.go:25", after := #[{ on := 6, ground := Ground.data }], guard := none }) rfl (by kernel_rfl) (by kernel_rfl) (by kernel_rfl) (by kernel_rfl) rfl (fun _ _ _ h => h) (Or.inl ⟨by rfl, ?_⟩) hS0 ?_
    rotate_left
    · intro W hSW
      go_simp
      try with_reducible rfl
    simp only [Act.put, List.setIfInBounds_toArray, List.set_cons_zero, List.set_cons_succ]
    refine wpAnyL_take' (i := 8) (v := ?_) (oi := { dst := some 24, op := Op.binOp BinOp.neq 3 (Operand.tmp 19) (Operand.tmp 23) 3, type := 4, pos := "slices.go:25", after := #[{ on := 3, ground := Ground.data }, { on := 7, ground := Ground.data }], guard := none }) rfl (by kernel_rfl) (by kernel_rfl) (by kernel_rfl) (by kernel_rfl) rfl (fun _ _ _ h => h) (Or.inl ⟨by rfl, ?_⟩) hS0 ?_
    rotate_left
    · intro W hSW
      go_simp
      try with_reducible rfl
    simp only [Act.put, List.setIfInBounds_toArray, List.set_cons_zero, List.set_cons_succ]
    refine wpAnyL_done (by kernel_rfl) ?_ _
    clear hS0
    go_wp2_with fail
    exact ⟨⟨i + 1, _, by go_num, by omega, HA2.out, HDR.out.choose_spec⟩, by simp [intOf]; omega⟩
  · have hpq' : (p != q) = true := by simpa using hpq
    have HE : Hid (decide (l = m) = false) := HNE.out i (by rw [HX1.out.1, HX1.out.2]; simpa using hpq)
    clear HX1 HAL HEQ HNE
    go_wp2_with fail
    refine wp_region_L (fun W => W.cell? ⟨b2, o2 + i, none⟩ = some (.int .i64 p) ∧ W.cell? ⟨b3, o3 + i, none⟩ = some (.int .i64 q)) 9 (by kernel_rfl) 9 rfl ?_
    refine wpAnyL_take' (i := 0) (v := ?_) (oi := { dst := some 16, op := Op.move (Operand.tmp 0), type := 57, pos := "slices.go:25", after := #[], guard := none }) rfl (by kernel_rfl) (by kernel_rfl) (by kernel_rfl) (by kernel_rfl) rfl (fun _ _ _ h => h) (Or.inl ⟨by rfl, ?_⟩) hS0 ?_
    rotate_left
    · intro W hSW
      go_simp
      try with_reducible rfl
    simp only [Act.put, List.setIfInBounds_toArray, List.set_cons_zero, List.set_cons_succ]
    refine wpAnyL_take' (i := 1) (v := ?_) (oi := { dst := some 17, op := Op.move (Operand.tmp 5), type := 3, pos := "slices.go:25", after := #[], guard := none }) rfl (by kernel_rfl) (by kernel_rfl) (by kernel_rfl) (by kernel_rfl) rfl (fun _ _ _ h => h) (Or.inl ⟨by rfl, ?_⟩) hS0 ?_
    rotate_left
    · intro W hSW
      go_simp
      try with_reducible rfl
    simp only [Act.put, List.setIfInBounds_toArray, List.set_cons_zero, List.set_cons_succ]
    refine wpAnyL_take' (i := 2) (v := ?_) (oi := { dst := some 18, op := Op.indexAddr 57 (Operand.tmp 16) (Operand.tmp 17), type := 0, pos := "slices.go:25", after := #[{ on := 0, ground := Ground.data }, { on := 1, ground := Ground.data }], guard := none }) rfl (by kernel_rfl) (by kernel_rfl) (by kernel_rfl) (by kernel_rfl) rfl (fun _ _ _ h => h) (Or.inl ⟨by rfl, ?_⟩) hS0 ?_
    rotate_left
    · intro W hSW
      go_simp
      try with_reducible rfl
    simp only [Act.put, List.setIfInBounds_toArray, List.set_cons_zero, List.set_cons_succ]
    refine wpAnyL_take' (i := 3) (v := ?_) (oi := { dst := some 19, op := Op.load 3 (Operand.tmp 18), type := 3, pos := "slices.go:25", after := #[{ on := 2, ground := Ground.data }], guard := none }) rfl (by kernel_rfl) (by kernel_rfl) (by kernel_rfl) (by kernel_rfl) rfl (fun _ _ _ h => h) (Or.inl ⟨by rfl, ?_⟩) hS0 ?_
    rotate_left
    · intro W hSW
      go_simp
      try with_reducible rfl
    simp only [Act.put, List.setIfInBounds_toArray, List.set_cons_zero, List.set_cons_succ]
    refine wpAnyL_take' (i := 4) (v := ?_) (oi := { dst := some 20, op := Op.move (Operand.tmp 1), type := 57, pos := "slices.go:25", after := #[], guard := none }) rfl (by kernel_rfl) (by kernel_rfl) (by kernel_rfl) (by kernel_rfl) rfl (fun _ _ _ h => h) (Or.inl ⟨by rfl, ?_⟩) hS0 ?_
    rotate_left
    · intro W hSW
      go_simp
      try with_reducible rfl
    simp only [Act.put, List.setIfInBounds_toArray, List.set_cons_zero, List.set_cons_succ]
    refine wpAnyL_take' (i := 5) (v := ?_) (oi := { dst := some 21, op := Op.move (Operand.tmp 5), type := 3, pos := "slices.go:25", after := #[], guard := none }) rfl (by kernel_rfl) (by kernel_rfl) (by kernel_rfl) (by kernel_rfl) rfl (fun _ _ _ h => h) (Or.inl ⟨by rfl, ?_⟩) hS0 ?_
    rotate_left
    · intro W hSW
      go_simp
      try with_reducible rfl
    simp only [Act.put, List.setIfInBounds_toArray, List.set_cons_zero, List.set_cons_succ]
    refine wpAnyL_take' (i := 6) (v := ?_) (oi := { dst := some 22, op := Op.indexAddr 57 (Operand.tmp 20) (Operand.tmp 21), type := 0, pos := "slices.go:25", after := #[{ on := 4, ground := Ground.data }, { on := 5, ground := Ground.data }], guard := none }) rfl (by kernel_rfl) (by kernel_rfl) (by kernel_rfl) (by kernel_rfl) rfl (fun _ _ _ h => h) (Or.inl ⟨by rfl, ?_⟩) hS0 ?_
    rotate_left
    · intro W hSW
      go_simp
      try with_reducible rfl
    simp only [Act.put, List.setIfInBounds_toArray, List.set_cons_zero, List.set_cons_succ]
    refine wpAnyL_take' (i := 7) (v := ?_) (oi := { dst := some 23, op := Op.load 3 (Operand.tmp 22), type := 3, pos := "slices.go:25", after := #[{ on := 6, ground := Ground.data }], guard := none }) rfl (by kernel_rfl) (by kernel_rfl) (by kernel_rfl) (by kernel_rfl) rfl (fun _ _ _ h => h) (Or.inl ⟨by rfl, ?_⟩) hS0 ?_
    rotate_left
    · intro W hSW
      go_simp
      try with_reducible rfl
    simp only [Act.put, List.setIfInBounds_toArray, List.set_cons_zero, List.set_cons_succ]
    refine wpAnyL_take' (i := 8) (v := ?_) (oi := { dst := some 24, op := Op.binOp BinOp.neq 3 (Operand.tmp 19) (Operand.tmp 23) 3, type := 4, pos := "slices.go:25", after := #[{ on := 3, ground := Ground.data }, { on := 7, ground := Ground.data }], guard := none }) rfl (by kernel_rfl) (by kernel_rfl) (by kernel_rfl) (by kernel_rfl) rfl (fun _ _ _ h => h) (Or.inl ⟨by rfl, ?_⟩) hS0 ?_
    rotate_left
    · intro W hSW
      go_simp
      try with_reducible rfl
    simp only [Act.put, List.setIfInBounds_toArray, List.set_cons_zero, List.set_cons_succ]
    refine wpAnyL_done (by kernel_rfl) ?_ _
    clear hS0
    go_wp2_with fail
    go_ret
    exact ⟨by rw [HE.out]; rfl, HDR.out⟩
end Go.Proofs.Ytdalomibilicfaa
