/- Rows of one's own: slices.Insert of one element, at numbers and at nodes. -/
import Derived.Test.YtjpbfckdiojghaaPSeg
import Derived.Test.YtjpbfckdiojghaaPCopy
import Derived.Test.YtjpbfckdiojghaaHeld
import Derived.Test.YtjpbfckdiojghaaHeldTwo
namespace Go.Proofs.Ytjpbfckdiojghaa
open Go.RowKit Go.Lib

set_option maxRecDepth 100000 in
set_option maxHeartbeats 4000000 in
theorem insI_any (B n i vb : Nat) (v : Value) (xs nw : List Value) (w : World) (hown : w.ownsRow B 3 1 v n xs) (hi : i ≤ n) (hnw : nw.length = 1) (hvb : w.heap[vb]? = some (.cells nw.toArray 3 (0, 0))) (hne : v.ownBlock ≠ some vb) (hn : n ≤ 1000000) (h1x : ∀ u ∈ xs, u.oneCell' = true) (h1n : ∀ u ∈ nw, u.oneCell' = true) (hB : B ≤ w.heap.size) :
    Calls Try.prog 26 #[v, .int .i64 i, .slice (some ⟨vb, 0, none⟩) 1 1] w fun e w' => ∃ v', e = .returned v' ∧ w'.ownsRow B 3 1 v' (n + 1) (xs.take (i * 1) ++ nw ++ xs.drop (i * 1)) ∧ But (fun j => v.ownBlock = some j) w w' ∧ (v'.ownBlock = v.ownBlock ∨ ∃ g, v'.ownBlock = some g ∧ w.heap.size ≤ g) := by
  obtain ⟨i0, hi0, hz0, hz1', hz2⟩ := info_parts info3
  have HV : Hid (∀ (j : Nat) (u : Value), nw[j]? = some u → w.cell? ((⟨vb, 0, none⟩ : Addr).add j) = some u) := fun j u hj => by
    rw [add_plain, Lib.cell_of_heap hvb]; simpa using hj
  have hxl : xs.length = n * 1 := hown.1
  by_cases hin : i = n
  · subst hin
    have hrow : xs.take (i * 1) ++ nw ++ xs.drop (i * 1) = xs ++ nw := by rw [List.take_of_length_le (by omega), List.drop_of_length_le (by omega), List.append_nil]
    rw [hrow]
    obtain ⟨va, vc, rfl⟩ := slice_of_ownK hown
    have HO : Hid (w.ownsRow B 3 1 (.slice va i vc) i xs) := hown
    have hic : i ≤ vc := by
      rcases hown.2 with ⟨e, h⟩ | ⟨g, cap, cur, e, _, _, h, _⟩
      · cases e; omega
      · cases e; exact h
    clear hown hvb hrow
    by_cases hcap : vc = i
    · subst hcap
      cases va with
      | none =>
        go_enter Try.func26, Try.ntmps26
        go_wp2_with (at_builtin; refine wpList_append_own_at _ rfl (.tmp 23) (.tmp 24) 33 rfl B 3 i0 _ 1 8 Try.underlying33 hi0 hz0 hz1' hz2 rfl (by decide) _ _ _ rfl HO.out ⟨vb, 0, none⟩ 1 1 nw rfl (by omega) HV.out h1n (by unfold maxLen; omega) (by omega) hB ?_)
        intro v' w' q1 q2 _ q4
        have HQ : Hid (w'.ownsRow B 3 1 v' (vc + 1) (xs ++ nw) ∧ But (fun j => (Value.slice none vc vc).ownBlock = some j) w w' ∧ (v'.ownBlock = (Value.slice none vc vc).ownBlock ∨ ∃ g, v'.ownBlock = some g ∧ w.heap.size ≤ g)) := ⟨q1, ⟨q2.os, q2.tape, q2.output, q2.size, fun k hk hD => q2.block k hk (fun e => hD e.symm)⟩, q4.imp id (fun e => ⟨_, e, Nat.le_refl _⟩)⟩
        obtain ⟨sa, sc, rfl⟩ := slice_of_ownK q1
        clear q1 q2 q4 HO HV
        go_wp2_with fail
        go_ret
        exact ⟨_, rfl, HQ.out⟩
      | some ad =>
        go_enter Try.func26, Try.ntmps26
        go_wp2_with (at_builtin; refine wpList_append_own_at _ rfl (.tmp 23) (.tmp 24) 33 rfl B 3 i0 _ 1 8 Try.underlying33 hi0 hz0 hz1' hz2 rfl (by decide) _ _ _ rfl HO.out ⟨vb, 0, none⟩ 1 1 nw rfl (by omega) HV.out h1n (by unfold maxLen; omega) (by omega) hB ?_)
        intro v' w' q1 q2 _ q4
        have HQ : Hid (w'.ownsRow B 3 1 v' (vc + 1) (xs ++ nw) ∧ But (fun j => (Value.slice (some ad) vc vc).ownBlock = some j) w w' ∧ (v'.ownBlock = (Value.slice (some ad) vc vc).ownBlock ∨ ∃ g, v'.ownBlock = some g ∧ w.heap.size ≤ g)) := ⟨q1, ⟨q2.os, q2.tape, q2.output, q2.size, fun k hk hD => q2.block k hk (fun e => hD e.symm)⟩, q4.imp id (fun e => ⟨_, e, Nat.le_refl _⟩)⟩
        obtain ⟨sa, sc, rfl⟩ := slice_of_ownK q1
        clear q1 q2 q4 HO HV
        go_wp2_with fail
        go_ret
        exact ⟨_, rfl, HQ.out⟩
    · obtain ⟨ad, rfl⟩ : ∃ ad, va = some ad := by
        rcases HO.out.2 with ⟨e, h⟩ | ⟨g, cap, cur, e, _⟩
        · cases e; omega
        · cases e; exact ⟨_, rfl⟩
      go_enter Try.func26, Try.ntmps26
      go_wp2_with (at_builtin; refine wpList_append_own_at _ rfl (.tmp 23) (.tmp 24) 33 rfl B 3 i0 _ 1 8 Try.underlying33 hi0 hz0 hz1' hz2 rfl (by decide) _ _ _ rfl HO.out ⟨vb, 0, none⟩ 1 1 nw rfl (by omega) HV.out h1n (by unfold maxLen; omega) (by omega) hB ?_)
      intro v' w' q1 q2 _ q4
      have HQ : Hid (w'.ownsRow B 3 1 v' (i + 1) (xs ++ nw) ∧ But (fun j => (Value.slice (some ad) i vc).ownBlock = some j) w w' ∧ (v'.ownBlock = (Value.slice (some ad) i vc).ownBlock ∨ ∃ g, v'.ownBlock = some g ∧ w.heap.size ≤ g)) := ⟨q1, ⟨q2.os, q2.tape, q2.output, q2.size, fun k hk hD => q2.block k hk (fun e => hD e.symm)⟩, q4.imp id (fun e => ⟨_, e, Nat.le_refl _⟩)⟩
      obtain ⟨sa, sc, rfl⟩ := slice_of_ownK q1
      clear q1 q2 q4 HO HV
      go_wp2_with fail
      go_ret
      exact ⟨_, rfl, HQ.out⟩
  have hlt : i < n := by omega
  rcases hown.2 with ⟨_, h0⟩ | ⟨g, c, cur, rfl, hBg, hg, hnc, hcm, hcs, htk⟩
  · omega
  have hvg : vb ≠ g := fun e => hne (by rw [e]; rfl)
  have hc63 : c ≤ 9223372036854775807 := by unfold maxLen at hcm; exact hcm
  clear hne hcm
  have hz1 : ¬ ((i : Int) = (n : Int)) := by omega
  have hsa : w.shape? vb = some (3, nw.toArray.size) := by simp [World.shape?, hvb]
  have hsb : w.shape? g = some (3, cur.size) := by simp [World.shape?, hg]
  have hkB : cur.size ≠ 0 := by rw [hcs]; omega
  have hfa : w.frozen? ⟨vb, 0, none⟩ = false := Lib.frozen_of_heap hvb _
  have hfe : w.frozen? ⟨vb, nw.toArray.size, none⟩ = false := Lib.frozen_of_heap hvb _
  have hov : ∀ o lb cb, (callFunc 46 #[.slice (some ⟨vb, 0, none⟩) 1 1, .slice (some ⟨g, o, none⟩) lb cb]).run Try.prog w = .ok (.value (.bool false)) w := fun o lb cb => by
    rw [run_callFunc_extern Try.func46 (by kernel_rfl) (by kernel_rfl) (by kernel_rfl) (e := Extern.SlicesOverlaps.overlaps #[33, 33] #[4]) (by kernel_rfl),
      Lib.run_overlaps_apart w 33 4 3 Try.underlying33 1 Try.sizeOf3 ⟨vb, 0, none⟩ ⟨g, o, none⟩ 1 1 lb cb hvg _ _ _ _ hsa hsb hkB hfa hfe]
    rfl
  have hsz : (Try.prog.info? 3).map (·.size) = some 1 := by rw [hi0]; simp [hz1']
  have mixed : Try.prog.follows .mixedOrders = true := by kernel_rfl
  have hw1 : IntKind.i64.wrap ((i : Int) + 1) = (i : Int) + 1 := by rw [IntKind.wrap_i64]; omega
  have hq1 : (0 : Int) ≤ (i : Int) + 1 := by omega
  have hq2 : (i : Int) + 1 ≤ (n : Int) + 1 := by omega
  have hq3 : ((i : Int) + 1).toNat = i + 1 := by omega
  have hq4 : (i : Int) ≤ (n : Int) + 1 := by omega
  have hq5 : (i : Int) ≤ (n : Int) := by omega
  by_cases hroom : n + 1 ≤ c
  · have hci : ¬ c = i := by omega
    have hci1 : ¬ c = i + 1 := by omega
    have hcl : ∀ j, j < cur.size → (w.drew.cell? ⟨g, j, none⟩).isSome = true := fun j hj => by
      show (w.cell? ⟨g, j, none⟩).isSome = true
      rw [Lib.cell_of_heap hg]; simp [hj]
    have hfz : ∀ j, w.frozen? ⟨g, j, none⟩ = false := fun j => Lib.frozen_of_heap hg _
    have hdl : (xs.drop (i * 1)).length = (n - i) * 1 := by rw [List.length_drop, hxl, Nat.sub_mul]
    have hxc : ∀ j u, xs[j]? = some u → w.cell? ⟨g, j, none⟩ = some u := fun j u hj => by
      rw [Lib.cell_of_heap hg]
      rw [← htk, List.getElem?_take] at hj
      split at hj
      · simpa using hj
      · cases hj
    have hspace : (i + 1) * 1 + (n - i) * 1 ≤ cur.size := by rw [hcs, ← Nat.add_mul]; exact Nat.mul_le_mul_right _ (by omega)
    have hcp1 : ∀ ty dc sc, (Builtin.copy_ #[33, 33] ty #[.slice (some ⟨g, i + 1, none⟩) (n - i) dc, .slice (some ⟨g, i, none⟩) (n + 1 - i) sc]).run Try.prog w.drew = .ok (goInt ((n - i : Nat) : Int)) (w.drew.setCells g (i + 1) (xs.drop (i * 1))) := fun ty dc sc =>
      run_copy_cellsK w.drew _ _ ty 3 1 g (i + 1) (n - i) dc ⟨g, i, none⟩ (n + 1 - i) sc (xs.drop (i * 1)) (n - i) Try.underlying33 hsz (by simp only [Nat.min_def]; split <;> omega) hdl
        (fun j u hj => by rw [add_plain]; exact hxc (i + j) u (by rw [List.getElem?_drop] at hj; simpa using hj))
        (fun j hj => hcl _ (by rw [hdl] at hj; omega)) (fun j hj => hfz _) (fun u hu => h1x u (List.mem_of_mem_drop hu))
    have hb1 : (w.drew.setCells g (i + 1) (xs.drop (i * 1))).heap[g]? = some (.cells (segL cur.toList (i + 1) (xs.drop (i * 1))).toArray 3 (0, 0)) := setCells_blk _ _ w.drew cur hg (by rw [hdl]; omega)
    have hl1 : (segL cur.toList (i + 1) (xs.drop (i * 1))).length = cur.size := by rw [segL_len (by rw [hdl]; simp; omega)]; simp
    have BU1 := setCells_but (g := g) (xs.drop (i * 1)) (i + 1) w.drew
    obtain ⟨W1, hW1⟩ : ∃ W1, W1 = w.drew.setCells g (i + 1) (xs.drop (i * 1)) := ⟨_, rfl⟩
    rw [← hW1] at hcp1 hb1 BU1
    have hv1 : W1.heap[vb]? = some (.cells nw.toArray 3 (0, 0)) := (BU1.block vb (blk_lt hvb) hvg).trans hvb
    have hcp2 : ∀ ty dc, (Builtin.copy_ #[33, 33] ty #[.slice (some ⟨g, i, none⟩) (n + 1 - i) dc, .slice (some ⟨vb, 0, none⟩) 1 1]).run Try.prog W1 = .ok (goInt 1) (W1.setCells g (i) nw) := fun ty dc =>
      run_copy_cellsK W1 _ _ ty 3 1 g (i) (n + 1 - i) dc ⟨vb, 0, none⟩ 1 1 nw 1 Try.underlying33 hsz (by simp only [Nat.min_def]; split <;> omega) (by omega)
        (fun j u hj => by rw [add_plain, Lib.cell_of_heap hv1]; simpa using hj)
        (fun j hj => by rw [Lib.cell_of_heap hb1, Array.getElem?_eq_getElem (by simp only [List.size_toArray]; rw [hl1]; omega)]; rfl) (fun j hj => Lib.frozen_of_heap hb1 _) h1n
    have hb2 : (W1.setCells g (i) nw).heap[g]? = some (.cells (segL (segL cur.toList (i + 1) (xs.drop (i * 1))) (i) nw).toArray 3 (0, 0)) := by
      have := setCells_blk nw (i) W1 _ hb1 (by simp only [List.size_toArray]; rw [hl1]; omega)
      exact this
    have BU2 := (BU1.trans (setCells_but (g := g) nw (i) W1))
    have HQ : Hid ((W1.setCells g (i) nw).ownsRow B 3 1 (.slice (some ⟨g, 0, none⟩) (n + 1) c) (n + 1) (xs.take (i * 1) ++ nw ++ xs.drop (i * 1)) ∧ But (fun j => (Value.slice (some ⟨g, 0, none⟩) n c).ownBlock = some j) w (W1.setCells g (i) nw)) := by
      refine ⟨⟨by simp [hxl, hnw]; omega, .inr ⟨g, c, _, rfl, hBg, hb2, hroom, by unfold maxLen; omega, ?_, ?_⟩⟩, ?_⟩
      · simp only [List.size_toArray]
        rw [segL_len (by rw [hl1]; omega), hl1, hcs]
      · have := seg_two (C := cur.toList) (xs := xs) (nw := nw) (a := i * 1) (k := 1) (N := (n + 1) * 1) (by rw [← htk, List.take_take, Nat.min_eq_left (by omega)]) (by omega) hnw (by omega) (by simp [hcs]; omega)
        rw [show i * 1 + 1 = (i + 1) * 1 by omega] at this
        simpa using this
      · exact ⟨BU2.os, BU2.tape, BU2.output, BU2.size, fun k hk hD => BU2.block k hk (fun e => hD (by rw [e]; rfl))⟩
    clear hb1 hb2 BU1 BU2 hv1 hl1 hcl hfz hxc hspace htk hg hcs hsa hsb hkB hfa hfe HV hown hW1
    go_enter Try.func26, Try.ntmps26
    go_wp2_with (simp only [hov])
    refine wp_region_L (fun W => True) 9 (by kernel_rfl) 9 rfl ?_
    refine wpAnyL_take' (i := 0) (v := ?_) (oi := { dst := some 69, op := Op.move (Operand.tmp 0), type := 33, pos := "slices.go:178", after := #[], guard := none }) rfl (by kernel_rfl) (by kernel_rfl) (by kernel_rfl) (by kernel_rfl) rfl (fun _ _ _ h => h) (Or.inl ⟨by rfl, ?_⟩) trivial ?_
    rotate_left
    · intro W hSW
      go_simp
      try with_reducible rfl
    simp only [Act.put, List.setIfInBounds_toArray, List.set_cons_zero, List.set_cons_succ]
    refine wpAnyL_take' (i := 1) (v := ?_) (oi := { dst := some 70, op := Op.move (Operand.tmp 1), type := 3, pos := "slices.go:178", after := #[], guard := none }) rfl (by kernel_rfl) (by kernel_rfl) (by kernel_rfl) (by kernel_rfl) rfl (fun _ _ _ h => h) (Or.inl ⟨by rfl, ?_⟩) trivial ?_
    rotate_left
    · intro W hSW
      go_simp
      try with_reducible rfl
    simp only [Act.put, List.setIfInBounds_toArray, List.set_cons_zero, List.set_cons_succ]
    refine wpAnyL_take' (i := 2) (v := ?_) (oi := { dst := some 71, op := Op.move (Operand.tmp 7), type := 3, pos := "slices.go:178", after := #[], guard := none }) rfl (by kernel_rfl) (by kernel_rfl) (by kernel_rfl) (by kernel_rfl) rfl (fun _ _ _ h => h) (Or.inl ⟨by rfl, ?_⟩) trivial ?_
    rotate_left
    · intro W hSW
      go_simp
      try with_reducible rfl
    simp only [Act.put, List.setIfInBounds_toArray, List.set_cons_zero, List.set_cons_succ]
    refine wpAnyL_take' (i := 3) (v := ?_) (oi := { dst := some 72, op := Op.binOp BinOp.add 3 (Operand.tmp 70) (Operand.tmp 71) 3, type := 3, pos := "slices.go:178", after := #[{ on := 1, ground := Ground.data }, { on := 2, ground := Ground.data }], guard := none }) rfl (by kernel_rfl) (by kernel_rfl) (by kernel_rfl) (by kernel_rfl) rfl (fun _ _ _ h => h) (Or.inl ⟨by rfl, ?_⟩) trivial ?_
    rotate_left
    · intro W hSW
      go_simp
      try with_reducible rfl
    simp only [Act.put, List.setIfInBounds_toArray, List.set_cons_zero, List.set_cons_succ]
    refine wpAnyL_take' (i := 4) (v := ?_) (oi := { dst := some 73, op := Op.slice 33 (Operand.tmp 69) (some (Operand.tmp 72)) none none, type := 33, pos := "slices.go:178", after := #[{ on := 0, ground := Ground.data }, { on := 3, ground := Ground.data }], guard := none }) rfl (by kernel_rfl) (by kernel_rfl) (by kernel_rfl) (by kernel_rfl) rfl (fun _ _ _ h => h) (Or.inl ⟨by rfl, ?_⟩) trivial ?_
    rotate_left
    · intro W hSW
      go_simp
      try with_reducible rfl
    simp only [Act.put, List.setIfInBounds_toArray, List.set_cons_zero, List.set_cons_succ]
    refine wpAnyL_take' (i := 5) (v := ?_) (oi := { dst := some 74, op := Op.move (Operand.tmp 0), type := 33, pos := "slices.go:178", after := #[], guard := none }) rfl (by kernel_rfl) (by kernel_rfl) (by kernel_rfl) (by kernel_rfl) rfl (fun _ _ _ h => h) (Or.inl ⟨by rfl, ?_⟩) trivial ?_
    rotate_left
    · intro W hSW
      go_simp
      try with_reducible rfl
    simp only [Act.put, List.setIfInBounds_toArray, List.set_cons_zero, List.set_cons_succ]
    refine wpAnyL_take' (i := 6) (v := ?_) (oi := { dst := some 75, op := Op.move (Operand.tmp 1), type := 3, pos := "slices.go:178", after := #[], guard := none }) rfl (by kernel_rfl) (by kernel_rfl) (by kernel_rfl) (by kernel_rfl) rfl (fun _ _ _ h => h) (Or.inl ⟨by rfl, ?_⟩) trivial ?_
    rotate_left
    · intro W hSW
      go_simp
      try with_reducible rfl
    simp only [Act.put, List.setIfInBounds_toArray, List.set_cons_zero, List.set_cons_succ]
    refine wpAnyL_take' (i := 7) (v := ?_) (oi := { dst := some 76, op := Op.slice 33 (Operand.tmp 74) (some (Operand.tmp 75)) none none, type := 33, pos := "slices.go:178", after := #[{ on := 5, ground := Ground.data }, { on := 6, ground := Ground.data }], guard := none }) rfl (by kernel_rfl) (by kernel_rfl) (by kernel_rfl) (by kernel_rfl) rfl (fun _ _ _ h => h) (Or.inl ⟨by rfl, ?_⟩) trivial ?_
    rotate_left
    · intro W hSW
      go_simp
      try with_reducible rfl
    simp only [Act.put, List.setIfInBounds_toArray, List.set_cons_zero, List.set_cons_succ]
    refine wpAnyL_one' (i := 8) (o := { dst := some 77, op := Op.call { callee := Callee.builtin Builtin.copy, args := #[Operand.tmp 73, Operand.tmp 76], argTypes := #[33, 33] }, type := 3, pos := "slices.go:178", after := #[{ on := 4, ground := Ground.data }, { on := 7, ground := Ground.data }], guard := none }) (by kernel_rfl) rfl rfl (fun K hK => ?_)
    refine step_copy_runI rfl _ _ 33 33 rfl _ _ rfl rfl (hcp1 _ _ _) ?_
    refine hK.out _ _ (fun _ => trivial) ?_
    clear hK
    simp only [Act.put, List.setIfInBounds_toArray, List.set_cons_zero, List.set_cons_succ]
    refine wpAnyL_done (by kernel_rfl) ?_ _
    go_wp2_with (at_builtin; refine wpList_copy_runI _ rfl _ _ 33 33 rfl _ _ rfl rfl (hcp2 _ _) ?_)
    go_ret
    exact ⟨_, rfl, HQ.out.1, HQ.out.2, .inl rfl⟩
  · obtain rfl : c = n := by omega
    have hci : ¬ c = i := by omega
    have hkk : (c : Int) + 1 - (i : Int) = ((c + 1 - i : Nat) : Int) := by omega
    have hik : i + (c + 1 - i) = c + 1 := by omega
    have hxc : ∀ j u, xs[j]? = some u → w.cell? ⟨g, j, none⟩ = some u := fun j u hj => by
      rw [Lib.cell_of_heap hg]
      rw [← htk, List.getElem?_take] at hj
      split at hj
      · simpa using hj
      · cases hj
    have hdl : (xs.drop (i * 1)).length = (c - i) * 1 := by rw [List.length_drop, hxl, Nat.sub_mul]
    have hold : (Builtin.firstCells i0.size i (.slice (some ⟨g, 0, none⟩) i c)).run Try.prog w.drew = .ok (xs.take (i * 1)).toArray w.drew := by
      rw [hz1']
      exact run_firstCells_some w.drew 1 i ⟨g, 0, none⟩ i c (xs.take (i * 1)) (by rw [List.length_take]; omega) (fun j u hj => by
        rw [add_plain, Nat.zero_add]
        rw [List.getElem?_take] at hj
        split at hj
        · exact hxc j u hj
        · cases hj)
    obtain ⟨G, hG⟩ : ∃ G, G = grownCap w (c + 1) c 3 := ⟨_, rfl⟩
    obtain ⟨ROW, hROW⟩ : ∃ ROW : Array Value, ROW = (xs.take (i * 1)).toArray ++ Builtin.zeroCells (.int .i64 0 : Value).cells (c + 1 - i) ++ Builtin.zeroCells (.int .i64 0 : Value).cells (G - (c + 1)) := ⟨_, rfl⟩
    have hrz : ∀ ty, (Builtin.append_ #[33, 3] ty #[.slice (some ⟨g, 0, none⟩) i c, .int .i64 ((c : Int) + 1 - (i : Int))]).run Try.prog w = .ok (.slice (some ⟨w.heap.size, 0, none⟩) (c + 1) G) (w.drew.alloc (.cells ROW 3)) := fun ty => by
      have h := Lib.run_append_grow_zeros w 33 3 ty 3 i0 _ .i64 .i64 Try.underlying33 Try.underlying3 hi0 hz0 (some ⟨g, 0, none⟩) i c (xs.take (i * 1)) hold (c + 1 - i) (by omega) (by omega) (by omega) (by omega) (by rw [hz2]; omega) (by rw [hz2, hik]; exact growslice_fits (by omega) (by omega))
      rw [hik, ← hG, ← hROW] at h
      rw [hkk]
      exact h
    have hGn : c + 1 ≤ G := by rw [hG]; exact grownCap_ge w _ _ _
    have hG63 : G ≤ maxLen := by rw [hG]; exact grownCap_le_maxLen w (c + 1) c 3 (by unfold maxLen; omega)
    have hRs : ROW.size = G * 1 := by
      rw [hROW]
      simp [Builtin.zeroCells, Value.cells]
      omega
    have hRt : ROW.toList.take (i * 1) = xs.take (i * 1) := by
      rw [hROW]
      simp only [Array.toList_append, List.append_assoc]
      rw [List.take_append_of_le_length (by simp; omega), List.take_of_length_le (by simp; omega)]
    have hb0 : (w.drew.alloc (.cells ROW 3)).heap[w.heap.size]? = some (.cells ROW 3 (0, 0)) := heap_alloc_new w.drew _
    have BU0 : But (fun _ => False) w (w.drew.alloc (.cells ROW 3)) := But.of_next (below_drewN ((Below.refl _ w).alloc (Nat.le_refl _) (.cells ROW 3)) 1)
    obtain ⟨W1, hW1⟩ : ∃ W1, W1 = w.drew.alloc (.cells ROW 3) := ⟨_, rfl⟩
    rw [← hW1] at hrz hb0 BU0
    obtain ⟨r, hr⟩ : ∃ r, r = w.heap.size := ⟨_, rfl⟩
    rw [← hr] at hrz hb0
    have hgr : g ≠ r := by have := blk_lt hg; omega
    have hvr : vb ≠ r := by have := blk_lt hvb; omega
    have hv1 : W1.heap[vb]? = some (.cells nw.toArray 3 (0, 0)) := but_blk BU0 hvb (fun h => h)
    have hg1 : W1.heap[g]? = some (.cells cur 3 (0, 0)) := but_blk BU0 hg (fun h => h)
    have hbig : (i + 1) * 1 + (c - i) * 1 ≤ ROW.size := by rw [hRs, ← Nat.add_mul]; exact Nat.mul_le_mul_right _ (by omega)
    have hcpA : ∀ ty dc, (Builtin.copy_ #[33, 33] ty #[.slice (some ⟨r, i, none⟩) (c + 1 - i) dc, .slice (some ⟨vb, 0, none⟩) 1 1]).run Try.prog W1 = .ok (goInt 1) (W1.setCells r (i) nw) := fun ty dc =>
      run_copy_cellsK W1 _ _ ty 3 1 r (i) (c + 1 - i) dc ⟨vb, 0, none⟩ 1 1 nw 1 Try.underlying33 hsz (by simp only [Nat.min_def]; split <;> omega) (by omega)
        (fun j u hj => by rw [add_plain, Lib.cell_of_heap hv1]; simpa using hj)
        (fun j hj => by rw [Lib.cell_of_heap hb0]; rw [Array.getElem?_eq_getElem (by omega)]; rfl) (fun j hj => Lib.frozen_of_heap hb0 _) h1n
    have hb1 : (W1.setCells r (i) nw).heap[r]? = some (.cells (segL ROW.toList (i) nw).toArray 3 (0, 0)) := setCells_blk _ _ W1 ROW hb0 (by omega)
    have hl1 : (segL ROW.toList (i) nw).length = ROW.size := by rw [segL_len (by simp; omega)]; simp
    have BU1 := setCells_but (g := r) nw (i) W1
    obtain ⟨W2, hW2⟩ : ∃ W2, W2 = W1.setCells r (i) nw := ⟨_, rfl⟩
    rw [← hW2] at hcpA hb1 BU1
    have hg2 : W2.heap[g]? = some (.cells cur 3 (0, 0)) := but_blk BU1 hg1 hgr
    have hcpB : ∀ ty dc sc, (Builtin.copy_ #[33, 33] ty #[.slice (some ⟨r, i + 1, none⟩) (c - i) dc, .slice (some ⟨g, i, none⟩) (c - i) sc]).run Try.prog W2.drew = .ok (goInt ((c - i : Nat) : Int)) (W2.drew.setCells r (i + 1) (xs.drop (i * 1))) := fun ty dc sc =>
      run_copy_cellsK W2.drew _ _ ty 3 1 r (i + 1) (c - i) dc ⟨g, i, none⟩ (c - i) sc (xs.drop (i * 1)) (c - i) Try.underlying33 hsz (by simp only [Nat.min_def]; split <;> omega) hdl
        (fun j u hj => by
          rw [add_plain]
          show W2.cell? _ = _
          rw [Lib.cell_of_heap hg2, ← Lib.cell_of_heap hg]
          exact hxc (i + j) u (by rw [List.getElem?_drop] at hj; simpa using hj))
        (fun j hj => by
          show (W2.cell? _).isSome = true
          rw [Lib.cell_of_heap hb1]; rw [hdl] at hj; rw [Array.getElem?_eq_getElem (by simp only [List.size_toArray]; rw [hl1]; omega)]; rfl) (fun j hj => Lib.frozen_of_heap (w := W2) hb1 _) (fun u hu => h1x u (List.mem_of_mem_drop hu))
    have hb2 : (W2.drew.setCells r (i + 1) (xs.drop (i * 1))).heap[r]? = some (.cells (segL (segL ROW.toList (i) nw) (i + 1) (xs.drop (i * 1))).toArray 3 (0, 0)) := by
      have := setCells_blk (xs.drop (i * 1)) (i + 1) W2.drew _ hb1 (by simp only [List.size_toArray]; rw [hl1, hdl]; omega)
      simpa using this
    have BU2 := setCells_but (g := r) (xs.drop (i * 1)) (i + 1) W2.drew
    have HQ : Hid ((W2.drew.setCells r (i + 1) (xs.drop (i * 1))).ownsRow B 3 1 (.slice (some ⟨r, 0, none⟩) (c + 1) G) (c + 1) (xs.take (i * 1) ++ nw ++ xs.drop (i * 1)) ∧ But (fun j => (Value.slice (some ⟨g, 0, none⟩) c c).ownBlock = some j) w (W2.drew.setCells r (i + 1) (xs.drop (i * 1))) ∧ w.heap.size ≤ r) := by
      refine ⟨⟨by simp [hxl, hnw]; omega, .inr ⟨r, G, _, rfl, by omega, hb2, hGn, hG63, ?_, ?_⟩⟩, ?_, by omega⟩
      · simp only [List.size_toArray]
        rw [segL_len (by rw [hl1, hdl]; omega), hl1, hRs]
      · have := seg_two' (C := ROW.toList) (xs := xs) (nw := nw) (a := i * 1) (k := 1) (N := (c + 1) * 1) hRt (by omega) hnw (by omega) (by simp [hRs]; omega)
        rw [show i * 1 + 1 = (i + 1) * 1 by omega] at this
        simpa using this
      · refine ⟨BU2.os.trans (BU1.os.trans BU0.os), BU2.tape.trans (BU1.tape.trans BU0.tape), BU2.output.trans (BU1.output.trans BU0.output), Nat.le_trans BU0.size (Nat.le_trans BU1.size BU2.size), fun k hk hD => ?_⟩
        have h1 := BU0.block k hk (fun h => h)
        have h2 := BU1.block k (Nat.lt_of_lt_of_le hk BU0.size) (by omega)
        have h3 := BU2.block k (Nat.lt_of_lt_of_le hk (Nat.le_trans BU0.size BU1.size)) (by omega)
        exact h3.trans (h2.trans h1)
    have hGi : ¬ G = i := by omega
    have hGi1 : ¬ G = i + 1 := by omega
    have hG64 : G ≤ 9223372036854775807 := by unfold maxLen at hG63; exact hG63
    clear hb0 hb1 hb2 BU0 BU1 BU2 hv1 hg1 hg2 hl1 hxc hbig htk hg hcs hsa hsb hkB hfa hfe HV hown hold hov hRs hRt hROW hG hW1 hW2 hr hG63 hvr hgr hkk hik
    go_enter Try.func26, Try.ntmps26
    go_wp2_with (at_builtin; refine Lib.wpList_append_run _ rfl _ _ _ _ rfl _ _ rfl rfl _ _ (hrz _) ?_)
    go_wp2_with (at_builtin; refine wpList_copy_runI _ rfl _ _ 33 33 rfl _ _ rfl rfl (hcpA _ _) ?_)
    refine wp_region_L (fun W => True) 9 (by kernel_rfl) 9 rfl ?_
    refine wpAnyL_take' (i := 0) (v := ?_) (oi := { dst := some 46, op := Op.move (Operand.tmp 9), type := 33, pos := "slices.go:154", after := #[], guard := none }) rfl (by kernel_rfl) (by kernel_rfl) (by kernel_rfl) (by kernel_rfl) rfl (fun _ _ _ h => h) (Or.inl ⟨by rfl, ?_⟩) trivial ?_
    rotate_left
    · intro W hSW
      go_simp
      try with_reducible rfl
    simp only [Act.put, List.setIfInBounds_toArray, List.set_cons_zero, List.set_cons_succ]
    refine wpAnyL_take' (i := 1) (v := ?_) (oi := { dst := some 47, op := Op.move (Operand.tmp 1), type := 3, pos := "slices.go:154", after := #[], guard := none }) rfl (by kernel_rfl) (by kernel_rfl) (by kernel_rfl) (by kernel_rfl) rfl (fun _ _ _ h => h) (Or.inl ⟨by rfl, ?_⟩) trivial ?_
    rotate_left
    · intro W hSW
      go_simp
      try with_reducible rfl
    simp only [Act.put, List.setIfInBounds_toArray, List.set_cons_zero, List.set_cons_succ]
    refine wpAnyL_take' (i := 2) (v := ?_) (oi := { dst := some 48, op := Op.move (Operand.tmp 7), type := 3, pos := "slices.go:154", after := #[], guard := none }) rfl (by kernel_rfl) (by kernel_rfl) (by kernel_rfl) (by kernel_rfl) rfl (fun _ _ _ h => h) (Or.inl ⟨by rfl, ?_⟩) trivial ?_
    rotate_left
    · intro W hSW
      go_simp
      try with_reducible rfl
    simp only [Act.put, List.setIfInBounds_toArray, List.set_cons_zero, List.set_cons_succ]
    refine wpAnyL_take' (i := 3) (v := ?_) (oi := { dst := some 49, op := Op.binOp BinOp.add 3 (Operand.tmp 47) (Operand.tmp 48) 3, type := 3, pos := "slices.go:154", after := #[{ on := 1, ground := Ground.data }, { on := 2, ground := Ground.data }], guard := none }) rfl (by kernel_rfl) (by kernel_rfl) (by kernel_rfl) (by kernel_rfl) rfl (fun _ _ _ h => h) (Or.inl ⟨by rfl, ?_⟩) trivial ?_
    rotate_left
    · intro W hSW
      go_simp
      try with_reducible rfl
    simp only [Act.put, List.setIfInBounds_toArray, List.set_cons_zero, List.set_cons_succ]
    refine wpAnyL_take' (i := 4) (v := ?_) (oi := { dst := some 50, op := Op.slice 33 (Operand.tmp 46) (some (Operand.tmp 49)) none none, type := 33, pos := "slices.go:154", after := #[{ on := 0, ground := Ground.data }, { on := 3, ground := Ground.data }], guard := none }) rfl (by kernel_rfl) (by kernel_rfl) (by kernel_rfl) (by kernel_rfl) rfl (fun _ _ _ h => h) (Or.inl ⟨by rfl, ?_⟩) trivial ?_
    rotate_left
    · intro W hSW
      go_simp
      try with_reducible rfl
    simp only [Act.put, List.setIfInBounds_toArray, List.set_cons_zero, List.set_cons_succ]
    refine wpAnyL_take' (i := 5) (v := ?_) (oi := { dst := some 51, op := Op.move (Operand.tmp 0), type := 33, pos := "slices.go:154", after := #[], guard := none }) rfl (by kernel_rfl) (by kernel_rfl) (by kernel_rfl) (by kernel_rfl) rfl (fun _ _ _ h => h) (Or.inl ⟨by rfl, ?_⟩) trivial ?_
    rotate_left
    · intro W hSW
      go_simp
      try with_reducible rfl
    simp only [Act.put, List.setIfInBounds_toArray, List.set_cons_zero, List.set_cons_succ]
    refine wpAnyL_take' (i := 6) (v := ?_) (oi := { dst := some 52, op := Op.move (Operand.tmp 1), type := 3, pos := "slices.go:154", after := #[], guard := none }) rfl (by kernel_rfl) (by kernel_rfl) (by kernel_rfl) (by kernel_rfl) rfl (fun _ _ _ h => h) (Or.inl ⟨by rfl, ?_⟩) trivial ?_
    rotate_left
    · intro W hSW
      go_simp
      try with_reducible rfl
    simp only [Act.put, List.setIfInBounds_toArray, List.set_cons_zero, List.set_cons_succ]
    refine wpAnyL_take' (i := 7) (v := ?_) (oi := { dst := some 53, op := Op.slice 33 (Operand.tmp 51) (some (Operand.tmp 52)) none none, type := 33, pos := "slices.go:154", after := #[{ on := 5, ground := Ground.data }, { on := 6, ground := Ground.data }], guard := none }) rfl (by kernel_rfl) (by kernel_rfl) (by kernel_rfl) (by kernel_rfl) rfl (fun _ _ _ h => h) (Or.inl ⟨by rfl, ?_⟩) trivial ?_
    rotate_left
    · intro W hSW
      go_simp
      try with_reducible rfl
    simp only [Act.put, List.setIfInBounds_toArray, List.set_cons_zero, List.set_cons_succ]
    refine wpAnyL_one' (i := 8) (o := { dst := some 54, op := Op.call { callee := Callee.builtin Builtin.copy, args := #[Operand.tmp 50, Operand.tmp 53], argTypes := #[33, 33] }, type := 3, pos := "slices.go:154", after := #[{ on := 4, ground := Ground.data }, { on := 7, ground := Ground.data }], guard := none }) (by kernel_rfl) rfl rfl (fun K hK => ?_)
    refine step_copy_runI rfl _ _ 33 33 rfl _ _ rfl rfl (hcpB _ _ _) ?_
    refine hK.out _ _ (fun _ => trivial) ?_
    clear hK
    simp only [Act.put, List.setIfInBounds_toArray, List.set_cons_zero, List.set_cons_succ]
    refine wpAnyL_done (by kernel_rfl) ?_ _
    go_wp2_with fail
    go_ret
    exact ⟨_, rfl, HQ.out.1, HQ.out.2.1, .inr ⟨_, rfl, HQ.out.2.2⟩⟩

set_option maxRecDepth 100000 in
set_option maxHeartbeats 4000000 in
theorem insG_any (B n i vb : Nat) (v : Value) (xs nw : List Value) (w : World) (hown : w.ownsRow B 35 3 v n xs) (hi : i ≤ n) (hnw : nw.length = 3) (hvb : w.heap[vb]? = some (.cells nw.toArray 35 (0, 0))) (hne : v.ownBlock ≠ some vb) (hn : n ≤ 1000000) (h1x : ∀ u ∈ xs, u.oneCell' = true) (h1n : ∀ u ∈ nw, u.oneCell' = true) (hB : B ≤ w.heap.size) :
    Calls Try.prog 43 #[v, .int .i64 i, .slice (some ⟨vb, 0, none⟩) 1 1] w fun e w' => ∃ v', e = .returned v' ∧ w'.ownsRow B 35 3 v' (n + 1) (xs.take (i * 3) ++ nw ++ xs.drop (i * 3)) ∧ But (fun j => v.ownBlock = some j) w w' ∧ (v'.ownBlock = v.ownBlock ∨ ∃ g, v'.ownBlock = some g ∧ w.heap.size ≤ g) := by
  obtain ⟨i0, hi0, hz0, hz1', hz2⟩ := info_parts infoG
  have HV : Hid (∀ (j : Nat) (u : Value), nw[j]? = some u → w.cell? ((⟨vb, 0, none⟩ : Addr).add j) = some u) := fun j u hj => by
    rw [add_plain, Lib.cell_of_heap hvb]; simpa using hj
  have hxl : xs.length = n * 3 := hown.1
  by_cases hin : i = n
  · subst hin
    have hrow : xs.take (i * 3) ++ nw ++ xs.drop (i * 3) = xs ++ nw := by rw [List.take_of_length_le (by omega), List.drop_of_length_le (by omega), List.append_nil]
    rw [hrow]
    obtain ⟨va, vc, rfl⟩ := slice_of_ownK hown
    have HO : Hid (w.ownsRow B 35 3 (.slice va i vc) i xs) := hown
    have hic : i ≤ vc := by
      rcases hown.2 with ⟨e, h⟩ | ⟨g, cap, cur, e, _, _, h, _⟩
      · cases e; omega
      · cases e; exact h
    clear hown hvb hrow
    by_cases hcap : vc = i
    · subst hcap
      cases va with
      | none =>
        go_enter Try.func43, Try.ntmps43
        go_wp2_with (at_builtin; refine wpList_append_own_at _ rfl (.tmp 23) (.tmp 24) 22 rfl B 35 i0 _ 3 40 Try.underlying22 hi0 hz0 hz1' hz2 rfl (by decide) _ _ _ rfl HO.out ⟨vb, 0, none⟩ 1 1 nw rfl (by omega) HV.out h1n (by unfold maxLen; omega) (by omega) hB ?_)
        intro v' w' q1 q2 _ q4
        have HQ : Hid (w'.ownsRow B 35 3 v' (vc + 1) (xs ++ nw) ∧ But (fun j => (Value.slice none vc vc).ownBlock = some j) w w' ∧ (v'.ownBlock = (Value.slice none vc vc).ownBlock ∨ ∃ g, v'.ownBlock = some g ∧ w.heap.size ≤ g)) := ⟨q1, ⟨q2.os, q2.tape, q2.output, q2.size, fun k hk hD => q2.block k hk (fun e => hD e.symm)⟩, q4.imp id (fun e => ⟨_, e, Nat.le_refl _⟩)⟩
        obtain ⟨sa, sc, rfl⟩ := slice_of_ownK q1
        clear q1 q2 q4 HO HV
        go_wp2_with fail
        go_ret
        exact ⟨_, rfl, HQ.out⟩
      | some ad =>
        go_enter Try.func43, Try.ntmps43
        go_wp2_with (at_builtin; refine wpList_append_own_at _ rfl (.tmp 23) (.tmp 24) 22 rfl B 35 i0 _ 3 40 Try.underlying22 hi0 hz0 hz1' hz2 rfl (by decide) _ _ _ rfl HO.out ⟨vb, 0, none⟩ 1 1 nw rfl (by omega) HV.out h1n (by unfold maxLen; omega) (by omega) hB ?_)
        intro v' w' q1 q2 _ q4
        have HQ : Hid (w'.ownsRow B 35 3 v' (vc + 1) (xs ++ nw) ∧ But (fun j => (Value.slice (some ad) vc vc).ownBlock = some j) w w' ∧ (v'.ownBlock = (Value.slice (some ad) vc vc).ownBlock ∨ ∃ g, v'.ownBlock = some g ∧ w.heap.size ≤ g)) := ⟨q1, ⟨q2.os, q2.tape, q2.output, q2.size, fun k hk hD => q2.block k hk (fun e => hD e.symm)⟩, q4.imp id (fun e => ⟨_, e, Nat.le_refl _⟩)⟩
        obtain ⟨sa, sc, rfl⟩ := slice_of_ownK q1
        clear q1 q2 q4 HO HV
        go_wp2_with fail
        go_ret
        exact ⟨_, rfl, HQ.out⟩
    · obtain ⟨ad, rfl⟩ : ∃ ad, va = some ad := by
        rcases HO.out.2 with ⟨e, h⟩ | ⟨g, cap, cur, e, _⟩
        · cases e; omega
        · cases e; exact ⟨_, rfl⟩
      go_enter Try.func43, Try.ntmps43
      go_wp2_with (at_builtin; refine wpList_append_own_at _ rfl (.tmp 23) (.tmp 24) 22 rfl B 35 i0 _ 3 40 Try.underlying22 hi0 hz0 hz1' hz2 rfl (by decide) _ _ _ rfl HO.out ⟨vb, 0, none⟩ 1 1 nw rfl (by omega) HV.out h1n (by unfold maxLen; omega) (by omega) hB ?_)
      intro v' w' q1 q2 _ q4
      have HQ : Hid (w'.ownsRow B 35 3 v' (i + 1) (xs ++ nw) ∧ But (fun j => (Value.slice (some ad) i vc).ownBlock = some j) w w' ∧ (v'.ownBlock = (Value.slice (some ad) i vc).ownBlock ∨ ∃ g, v'.ownBlock = some g ∧ w.heap.size ≤ g)) := ⟨q1, ⟨q2.os, q2.tape, q2.output, q2.size, fun k hk hD => q2.block k hk (fun e => hD e.symm)⟩, q4.imp id (fun e => ⟨_, e, Nat.le_refl _⟩)⟩
      obtain ⟨sa, sc, rfl⟩ := slice_of_ownK q1
      clear q1 q2 q4 HO HV
      go_wp2_with fail
      go_ret
      exact ⟨_, rfl, HQ.out⟩
  have hlt : i < n := by omega
  rcases hown.2 with ⟨_, h0⟩ | ⟨g, c, cur, rfl, hBg, hg, hnc, hcm, hcs, htk⟩
  · omega
  have hvg : vb ≠ g := fun e => hne (by rw [e]; rfl)
  have hc63 : c ≤ 9223372036854775807 := by unfold maxLen at hcm; exact hcm
  clear hne hcm
  have hz1 : ¬ ((i : Int) = (n : Int)) := by omega
  have hsa : w.shape? vb = some (35, nw.toArray.size) := by simp [World.shape?, hvb]
  have hsb : w.shape? g = some (35, cur.size) := by simp [World.shape?, hg]
  have hkB : cur.size ≠ 0 := by rw [hcs]; omega
  have hfa : w.frozen? ⟨vb, 0, none⟩ = false := Lib.frozen_of_heap hvb _
  have hfe : w.frozen? ⟨vb, nw.toArray.size, none⟩ = false := Lib.frozen_of_heap hvb _
  have hov : ∀ o lb cb, (callFunc 59 #[.slice (some ⟨vb, 0, none⟩) 1 1, .slice (some ⟨g, o, none⟩) lb cb]).run Try.prog w = .ok (.value (.bool false)) w := fun o lb cb => by
    rw [run_callFunc_extern Try.func59 (by kernel_rfl) (by kernel_rfl) (by kernel_rfl) (e := Extern.SlicesOverlaps.overlaps #[22, 22] #[4]) (by kernel_rfl),
      Lib.run_overlaps_apart w 22 4 35 Try.underlying22 3 Try.sizeOf35 ⟨vb, 0, none⟩ ⟨g, o, none⟩ 1 1 lb cb hvg _ _ _ _ hsa hsb hkB hfa hfe]
    rfl
  have hsz : (Try.prog.info? 35).map (·.size) = some 3 := by rw [hi0]; simp [hz1']
  have mixed : Try.prog.follows .mixedOrders = true := by kernel_rfl
  have hw1 : IntKind.i64.wrap ((i : Int) + 1) = (i : Int) + 1 := by rw [IntKind.wrap_i64]; omega
  have hq1 : (0 : Int) ≤ (i : Int) + 1 := by omega
  have hq2 : (i : Int) + 1 ≤ (n : Int) + 1 := by omega
  have hq3 : ((i : Int) + 1).toNat = i + 1 := by omega
  have hq4 : (i : Int) ≤ (n : Int) + 1 := by omega
  have hq5 : (i : Int) ≤ (n : Int) := by omega
  by_cases hroom : n + 1 ≤ c
  · have hci : ¬ c = i := by omega
    have hci1 : ¬ c = i + 1 := by omega
    have hcl : ∀ j, j < cur.size → (w.drew.cell? ⟨g, j, none⟩).isSome = true := fun j hj => by
      show (w.cell? ⟨g, j, none⟩).isSome = true
      rw [Lib.cell_of_heap hg]; simp [hj]
    have hfz : ∀ j, w.frozen? ⟨g, j, none⟩ = false := fun j => Lib.frozen_of_heap hg _
    have hdl : (xs.drop (i * 3)).length = (n - i) * 3 := by rw [List.length_drop, hxl, Nat.sub_mul]
    have hxc : ∀ j u, xs[j]? = some u → w.cell? ⟨g, j, none⟩ = some u := fun j u hj => by
      rw [Lib.cell_of_heap hg]
      rw [← htk, List.getElem?_take] at hj
      split at hj
      · simpa using hj
      · cases hj
    have hspace : (i + 1) * 3 + (n - i) * 3 ≤ cur.size := by rw [hcs, ← Nat.add_mul]; exact Nat.mul_le_mul_right _ (by omega)
    have hcp1 : ∀ ty dc sc, (Builtin.copy_ #[22, 22] ty #[.slice (some ⟨g, (i + 1) * 3, none⟩) (n - i) dc, .slice (some ⟨g, i * 3, none⟩) (n + 1 - i) sc]).run Try.prog w.drew = .ok (goInt ((n - i : Nat) : Int)) (w.drew.setCells g ((i + 1) * 3) (xs.drop (i * 3))) := fun ty dc sc =>
      run_copy_cellsK w.drew _ _ ty 35 3 g ((i + 1) * 3) (n - i) dc ⟨g, i * 3, none⟩ (n + 1 - i) sc (xs.drop (i * 3)) (n - i) Try.underlying22 hsz (by simp only [Nat.min_def]; split <;> omega) hdl
        (fun j u hj => by rw [add_plain]; exact hxc (i * 3 + j) u (by rw [List.getElem?_drop] at hj; simpa using hj))
        (fun j hj => hcl _ (by rw [hdl] at hj; omega)) (fun j hj => hfz _) (fun u hu => h1x u (List.mem_of_mem_drop hu))
    have hb1 : (w.drew.setCells g ((i + 1) * 3) (xs.drop (i * 3))).heap[g]? = some (.cells (segL cur.toList ((i + 1) * 3) (xs.drop (i * 3))).toArray 35 (0, 0)) := setCells_blk _ _ w.drew cur hg (by rw [hdl]; omega)
    have hl1 : (segL cur.toList ((i + 1) * 3) (xs.drop (i * 3))).length = cur.size := by rw [segL_len (by rw [hdl]; simp; omega)]; simp
    have BU1 := setCells_but (g := g) (xs.drop (i * 3)) ((i + 1) * 3) w.drew
    obtain ⟨W1, hW1⟩ : ∃ W1, W1 = w.drew.setCells g ((i + 1) * 3) (xs.drop (i * 3)) := ⟨_, rfl⟩
    rw [← hW1] at hcp1 hb1 BU1
    have hv1 : W1.heap[vb]? = some (.cells nw.toArray 35 (0, 0)) := (BU1.block vb (blk_lt hvb) hvg).trans hvb
    have hcp2 : ∀ ty dc, (Builtin.copy_ #[22, 22] ty #[.slice (some ⟨g, i * 3, none⟩) (n + 1 - i) dc, .slice (some ⟨vb, 0, none⟩) 1 1]).run Try.prog W1 = .ok (goInt 1) (W1.setCells g (i * 3) nw) := fun ty dc =>
      run_copy_cellsK W1 _ _ ty 35 3 g (i * 3) (n + 1 - i) dc ⟨vb, 0, none⟩ 1 1 nw 1 Try.underlying22 hsz (by simp only [Nat.min_def]; split <;> omega) (by omega)
        (fun j u hj => by rw [add_plain, Lib.cell_of_heap hv1]; simpa using hj)
        (fun j hj => by rw [Lib.cell_of_heap hb1, Array.getElem?_eq_getElem (by simp only [List.size_toArray]; rw [hl1]; omega)]; rfl) (fun j hj => Lib.frozen_of_heap hb1 _) h1n
    have hb2 : (W1.setCells g (i * 3) nw).heap[g]? = some (.cells (segL (segL cur.toList ((i + 1) * 3) (xs.drop (i * 3))) (i * 3) nw).toArray 35 (0, 0)) := by
      have := setCells_blk nw (i * 3) W1 _ hb1 (by simp only [List.size_toArray]; rw [hl1]; omega)
      exact this
    have BU2 := (BU1.trans (setCells_but (g := g) nw (i * 3) W1))
    have HQ : Hid ((W1.setCells g (i * 3) nw).ownsRow B 35 3 (.slice (some ⟨g, 0, none⟩) (n + 1) c) (n + 1) (xs.take (i * 3) ++ nw ++ xs.drop (i * 3)) ∧ But (fun j => (Value.slice (some ⟨g, 0, none⟩) n c).ownBlock = some j) w (W1.setCells g (i * 3) nw)) := by
      refine ⟨⟨by simp [hxl, hnw]; omega, .inr ⟨g, c, _, rfl, hBg, hb2, hroom, by unfold maxLen; omega, ?_, ?_⟩⟩, ?_⟩
      · simp only [List.size_toArray]
        rw [segL_len (by rw [hl1]; omega), hl1, hcs]
      · have := seg_two (C := cur.toList) (xs := xs) (nw := nw) (a := i * 3) (k := 3) (N := (n + 1) * 3) (by rw [← htk, List.take_take, Nat.min_eq_left (by omega)]) (by omega) hnw (by omega) (by simp [hcs]; omega)
        rw [show i * 3 + 3 = (i + 1) * 3 by omega] at this
        simpa using this
      · exact ⟨BU2.os, BU2.tape, BU2.output, BU2.size, fun k hk hD => BU2.block k hk (fun e => hD (by rw [e]; rfl))⟩
    clear hb1 hb2 BU1 BU2 hv1 hl1 hcl hfz hxc hspace htk hg hcs hsa hsb hkB hfa hfe HV hown hW1
    go_enter Try.func43, Try.ntmps43
    go_wp2_with (simp only [hov])
    refine wp_region_L (fun W => True) 9 (by kernel_rfl) 9 rfl ?_
    refine wpAnyL_take' (i := 0) (v := ?_) (oi := { dst := some 69, op := Op.move (Operand.tmp 0), type := 22, pos := "slices.go:178", after := #[], guard := none }) rfl (by kernel_rfl) (by kernel_rfl) (by kernel_rfl) (by kernel_rfl) rfl (fun _ _ _ h => h) (Or.inl ⟨by rfl, ?_⟩) trivial ?_
    rotate_left
    · intro W hSW
      go_simp
      try with_reducible rfl
    simp only [Act.put, List.setIfInBounds_toArray, List.set_cons_zero, List.set_cons_succ]
    refine wpAnyL_take' (i := 1) (v := ?_) (oi := { dst := some 70, op := Op.move (Operand.tmp 1), type := 3, pos := "slices.go:178", after := #[], guard := none }) rfl (by kernel_rfl) (by kernel_rfl) (by kernel_rfl) (by kernel_rfl) rfl (fun _ _ _ h => h) (Or.inl ⟨by rfl, ?_⟩) trivial ?_
    rotate_left
    · intro W hSW
      go_simp
      try with_reducible rfl
    simp only [Act.put, List.setIfInBounds_toArray, List.set_cons_zero, List.set_cons_succ]
    refine wpAnyL_take' (i := 2) (v := ?_) (oi := { dst := some 71, op := Op.move (Operand.tmp 7), type := 3, pos := "slices.go:178", after := #[], guard := none }) rfl (by kernel_rfl) (by kernel_rfl) (by kernel_rfl) (by kernel_rfl) rfl (fun _ _ _ h => h) (Or.inl ⟨by rfl, ?_⟩) trivial ?_
    rotate_left
    · intro W hSW
      go_simp
      try with_reducible rfl
    simp only [Act.put, List.setIfInBounds_toArray, List.set_cons_zero, List.set_cons_succ]
    refine wpAnyL_take' (i := 3) (v := ?_) (oi := { dst := some 72, op := Op.binOp BinOp.add 3 (Operand.tmp 70) (Operand.tmp 71) 3, type := 3, pos := "slices.go:178", after := #[{ on := 1, ground := Ground.data }, { on := 2, ground := Ground.data }], guard := none }) rfl (by kernel_rfl) (by kernel_rfl) (by kernel_rfl) (by kernel_rfl) rfl (fun _ _ _ h => h) (Or.inl ⟨by rfl, ?_⟩) trivial ?_
    rotate_left
    · intro W hSW
      go_simp
      try with_reducible rfl
    simp only [Act.put, List.setIfInBounds_toArray, List.set_cons_zero, List.set_cons_succ]
    refine wpAnyL_take' (i := 4) (v := ?_) (oi := { dst := some 73, op := Op.slice 22 (Operand.tmp 69) (some (Operand.tmp 72)) none none, type := 22, pos := "slices.go:178", after := #[{ on := 0, ground := Ground.data }, { on := 3, ground := Ground.data }], guard := none }) rfl (by kernel_rfl) (by kernel_rfl) (by kernel_rfl) (by kernel_rfl) rfl (fun _ _ _ h => h) (Or.inl ⟨by rfl, ?_⟩) trivial ?_
    rotate_left
    · intro W hSW
      go_simp
      try with_reducible rfl
    simp only [Act.put, List.setIfInBounds_toArray, List.set_cons_zero, List.set_cons_succ]
    refine wpAnyL_take' (i := 5) (v := ?_) (oi := { dst := some 74, op := Op.move (Operand.tmp 0), type := 22, pos := "slices.go:178", after := #[], guard := none }) rfl (by kernel_rfl) (by kernel_rfl) (by kernel_rfl) (by kernel_rfl) rfl (fun _ _ _ h => h) (Or.inl ⟨by rfl, ?_⟩) trivial ?_
    rotate_left
    · intro W hSW
      go_simp
      try with_reducible rfl
    simp only [Act.put, List.setIfInBounds_toArray, List.set_cons_zero, List.set_cons_succ]
    refine wpAnyL_take' (i := 6) (v := ?_) (oi := { dst := some 75, op := Op.move (Operand.tmp 1), type := 3, pos := "slices.go:178", after := #[], guard := none }) rfl (by kernel_rfl) (by kernel_rfl) (by kernel_rfl) (by kernel_rfl) rfl (fun _ _ _ h => h) (Or.inl ⟨by rfl, ?_⟩) trivial ?_
    rotate_left
    · intro W hSW
      go_simp
      try with_reducible rfl
    simp only [Act.put, List.setIfInBounds_toArray, List.set_cons_zero, List.set_cons_succ]
    refine wpAnyL_take' (i := 7) (v := ?_) (oi := { dst := some 76, op := Op.slice 22 (Operand.tmp 74) (some (Operand.tmp 75)) none none, type := 22, pos := "slices.go:178", after := #[{ on := 5, ground := Ground.data }, { on := 6, ground := Ground.data }], guard := none }) rfl (by kernel_rfl) (by kernel_rfl) (by kernel_rfl) (by kernel_rfl) rfl (fun _ _ _ h => h) (Or.inl ⟨by rfl, ?_⟩) trivial ?_
    rotate_left
    · intro W hSW
      go_simp
      try with_reducible rfl
    simp only [Act.put, List.setIfInBounds_toArray, List.set_cons_zero, List.set_cons_succ]
    refine wpAnyL_one' (i := 8) (o := { dst := some 77, op := Op.call { callee := Callee.builtin Builtin.copy, args := #[Operand.tmp 73, Operand.tmp 76], argTypes := #[22, 22] }, type := 3, pos := "slices.go:178", after := #[{ on := 4, ground := Ground.data }, { on := 7, ground := Ground.data }], guard := none }) (by kernel_rfl) rfl rfl (fun K hK => ?_)
    refine step_copy_runI rfl _ _ 22 22 rfl _ _ rfl rfl (hcp1 _ _ _) ?_
    refine hK.out _ _ (fun _ => trivial) ?_
    clear hK
    simp only [Act.put, List.setIfInBounds_toArray, List.set_cons_zero, List.set_cons_succ]
    refine wpAnyL_done (by kernel_rfl) ?_ _
    go_wp2_with (at_builtin; refine wpList_copy_runI _ rfl _ _ 22 22 rfl _ _ rfl rfl (hcp2 _ _) ?_)
    go_ret
    exact ⟨_, rfl, HQ.out.1, HQ.out.2, .inl rfl⟩
  · obtain rfl : c = n := by omega
    have hci : ¬ c = i := by omega
    have hkk : (c : Int) + 1 - (i : Int) = ((c + 1 - i : Nat) : Int) := by omega
    have hik : i + (c + 1 - i) = c + 1 := by omega
    have hxc : ∀ j u, xs[j]? = some u → w.cell? ⟨g, j, none⟩ = some u := fun j u hj => by
      rw [Lib.cell_of_heap hg]
      rw [← htk, List.getElem?_take] at hj
      split at hj
      · simpa using hj
      · cases hj
    have hdl : (xs.drop (i * 3)).length = (c - i) * 3 := by rw [List.length_drop, hxl, Nat.sub_mul]
    have hold : (Builtin.firstCells i0.size i (.slice (some ⟨g, 0, none⟩) i c)).run Try.prog w.drew = .ok (xs.take (i * 3)).toArray w.drew := by
      rw [hz1']
      exact run_firstCells_some w.drew 3 i ⟨g, 0, none⟩ i c (xs.take (i * 3)) (by rw [List.length_take]; omega) (fun j u hj => by
        rw [add_plain, Nat.zero_add]
        rw [List.getElem?_take] at hj
        split at hj
        · exact hxc j u hj
        · cases hj)
    obtain ⟨G, hG⟩ : ∃ G, G = grownCap w (c + 1) c 35 := ⟨_, rfl⟩
    obtain ⟨ROW, hROW⟩ : ∃ ROW : Array Value, ROW = (xs.take (i * 3)).toArray ++ Builtin.zeroCells (.agg #[.int .i64 0, .int .i64 0, .slice none 0 0] : Value).cells (c + 1 - i) ++ Builtin.zeroCells (.agg #[.int .i64 0, .int .i64 0, .slice none 0 0] : Value).cells (G - (c + 1)) := ⟨_, rfl⟩
    have hrz : ∀ ty, (Builtin.append_ #[22, 3] ty #[.slice (some ⟨g, 0, none⟩) i c, .int .i64 ((c : Int) + 1 - (i : Int))]).run Try.prog w = .ok (.slice (some ⟨w.heap.size, 0, none⟩) (c + 1) G) (w.drew.alloc (.cells ROW 35)) := fun ty => by
      have h := Lib.run_append_grow_zeros w 22 3 ty 35 i0 _ .i64 .i64 Try.underlying22 Try.underlying3 hi0 hz0 (some ⟨g, 0, none⟩) i c (xs.take (i * 3)) hold (c + 1 - i) (by omega) (by omega) (by omega) (by omega) (by rw [hz2]; omega) (by rw [hz2, hik]; exact growslice_fits (by omega) (by omega))
      rw [hik, ← hG, ← hROW] at h
      rw [hkk]
      exact h
    have hGn : c + 1 ≤ G := by rw [hG]; exact grownCap_ge w _ _ _
    have hG63 : G ≤ maxLen := by rw [hG]; exact grownCap_le_maxLen w (c + 1) c 35 (by unfold maxLen; omega)
    have hRs : ROW.size = G * 3 := by
      rw [hROW]
      simp [Builtin.zeroCells, Value.cells]
      omega
    have hRt : ROW.toList.take (i * 3) = xs.take (i * 3) := by
      rw [hROW]
      simp only [Array.toList_append, List.append_assoc]
      rw [List.take_append_of_le_length (by simp; omega), List.take_of_length_le (by simp; omega)]
    have hb0 : (w.drew.alloc (.cells ROW 35)).heap[w.heap.size]? = some (.cells ROW 35 (0, 0)) := heap_alloc_new w.drew _
    have BU0 : But (fun _ => False) w (w.drew.alloc (.cells ROW 35)) := But.of_next (below_drewN ((Below.refl _ w).alloc (Nat.le_refl _) (.cells ROW 35)) 1)
    obtain ⟨W1, hW1⟩ : ∃ W1, W1 = w.drew.alloc (.cells ROW 35) := ⟨_, rfl⟩
    rw [← hW1] at hrz hb0 BU0
    obtain ⟨r, hr⟩ : ∃ r, r = w.heap.size := ⟨_, rfl⟩
    rw [← hr] at hrz hb0
    have hgr : g ≠ r := by have := blk_lt hg; omega
    have hvr : vb ≠ r := by have := blk_lt hvb; omega
    have hv1 : W1.heap[vb]? = some (.cells nw.toArray 35 (0, 0)) := but_blk BU0 hvb (fun h => h)
    have hg1 : W1.heap[g]? = some (.cells cur 35 (0, 0)) := but_blk BU0 hg (fun h => h)
    have hbig : (i + 1) * 3 + (c - i) * 3 ≤ ROW.size := by rw [hRs, ← Nat.add_mul]; exact Nat.mul_le_mul_right _ (by omega)
    have hcpA : ∀ ty dc, (Builtin.copy_ #[22, 22] ty #[.slice (some ⟨r, i * 3, none⟩) (c + 1 - i) dc, .slice (some ⟨vb, 0, none⟩) 1 1]).run Try.prog W1 = .ok (goInt 1) (W1.setCells r (i * 3) nw) := fun ty dc =>
      run_copy_cellsK W1 _ _ ty 35 3 r (i * 3) (c + 1 - i) dc ⟨vb, 0, none⟩ 1 1 nw 1 Try.underlying22 hsz (by simp only [Nat.min_def]; split <;> omega) (by omega)
        (fun j u hj => by rw [add_plain, Lib.cell_of_heap hv1]; simpa using hj)
        (fun j hj => by rw [Lib.cell_of_heap hb0]; rw [Array.getElem?_eq_getElem (by omega)]; rfl) (fun j hj => Lib.frozen_of_heap hb0 _) h1n
    have hb1 : (W1.setCells r (i * 3) nw).heap[r]? = some (.cells (segL ROW.toList (i * 3) nw).toArray 35 (0, 0)) := setCells_blk _ _ W1 ROW hb0 (by omega)
    have hl1 : (segL ROW.toList (i * 3) nw).length = ROW.size := by rw [segL_len (by simp; omega)]; simp
    have BU1 := setCells_but (g := r) nw (i * 3) W1
    obtain ⟨W2, hW2⟩ : ∃ W2, W2 = W1.setCells r (i * 3) nw := ⟨_, rfl⟩
    rw [← hW2] at hcpA hb1 BU1
    have hg2 : W2.heap[g]? = some (.cells cur 35 (0, 0)) := but_blk BU1 hg1 hgr
    have hcpB : ∀ ty dc sc, (Builtin.copy_ #[22, 22] ty #[.slice (some ⟨r, (i + 1) * 3, none⟩) (c - i) dc, .slice (some ⟨g, i * 3, none⟩) (c - i) sc]).run Try.prog W2.drew = .ok (goInt ((c - i : Nat) : Int)) (W2.drew.setCells r ((i + 1) * 3) (xs.drop (i * 3))) := fun ty dc sc =>
      run_copy_cellsK W2.drew _ _ ty 35 3 r ((i + 1) * 3) (c - i) dc ⟨g, i * 3, none⟩ (c - i) sc (xs.drop (i * 3)) (c - i) Try.underlying22 hsz (by simp only [Nat.min_def]; split <;> omega) hdl
        (fun j u hj => by
          rw [add_plain]
          show W2.cell? _ = _
          rw [Lib.cell_of_heap hg2, ← Lib.cell_of_heap hg]
          exact hxc (i * 3 + j) u (by rw [List.getElem?_drop] at hj; simpa using hj))
        (fun j hj => by
          show (W2.cell? _).isSome = true
          rw [Lib.cell_of_heap hb1]; rw [hdl] at hj; rw [Array.getElem?_eq_getElem (by simp only [List.size_toArray]; rw [hl1]; omega)]; rfl) (fun j hj => Lib.frozen_of_heap (w := W2) hb1 _) (fun u hu => h1x u (List.mem_of_mem_drop hu))
    have hb2 : (W2.drew.setCells r ((i + 1) * 3) (xs.drop (i * 3))).heap[r]? = some (.cells (segL (segL ROW.toList (i * 3) nw) ((i + 1) * 3) (xs.drop (i * 3))).toArray 35 (0, 0)) := by
      have := setCells_blk (xs.drop (i * 3)) ((i + 1) * 3) W2.drew _ hb1 (by simp only [List.size_toArray]; rw [hl1, hdl]; omega)
      simpa using this
    have BU2 := setCells_but (g := r) (xs.drop (i * 3)) ((i + 1) * 3) W2.drew
    have HQ : Hid ((W2.drew.setCells r ((i + 1) * 3) (xs.drop (i * 3))).ownsRow B 35 3 (.slice (some ⟨r, 0, none⟩) (c + 1) G) (c + 1) (xs.take (i * 3) ++ nw ++ xs.drop (i * 3)) ∧ But (fun j => (Value.slice (some ⟨g, 0, none⟩) c c).ownBlock = some j) w (W2.drew.setCells r ((i + 1) * 3) (xs.drop (i * 3))) ∧ w.heap.size ≤ r) := by
      refine ⟨⟨by simp [hxl, hnw]; omega, .inr ⟨r, G, _, rfl, by omega, hb2, hGn, hG63, ?_, ?_⟩⟩, ?_, by omega⟩
      · simp only [List.size_toArray]
        rw [segL_len (by rw [hl1, hdl]; omega), hl1, hRs]
      · have := seg_two' (C := ROW.toList) (xs := xs) (nw := nw) (a := i * 3) (k := 3) (N := (c + 1) * 3) hRt (by omega) hnw (by omega) (by simp [hRs]; omega)
        rw [show i * 3 + 3 = (i + 1) * 3 by omega] at this
        simpa using this
      · refine ⟨BU2.os.trans (BU1.os.trans BU0.os), BU2.tape.trans (BU1.tape.trans BU0.tape), BU2.output.trans (BU1.output.trans BU0.output), Nat.le_trans BU0.size (Nat.le_trans BU1.size BU2.size), fun k hk hD => ?_⟩
        have h1 := BU0.block k hk (fun h => h)
        have h2 := BU1.block k (Nat.lt_of_lt_of_le hk BU0.size) (by omega)
        have h3 := BU2.block k (Nat.lt_of_lt_of_le hk (Nat.le_trans BU0.size BU1.size)) (by omega)
        exact h3.trans (h2.trans h1)
    have hGi : ¬ G = i := by omega
    have hGi1 : ¬ G = i + 1 := by omega
    have hG64 : G ≤ 9223372036854775807 := by unfold maxLen at hG63; exact hG63
    clear hb0 hb1 hb2 BU0 BU1 BU2 hv1 hg1 hg2 hl1 hxc hbig htk hg hcs hsa hsb hkB hfa hfe HV hown hold hov hRs hRt hROW hG hW1 hW2 hr hG63 hvr hgr hkk hik
    go_enter Try.func43, Try.ntmps43
    go_wp2_with (at_builtin; refine Lib.wpList_append_run _ rfl _ _ _ _ rfl _ _ rfl rfl _ _ (hrz _) ?_)
    go_wp2_with (at_builtin; refine wpList_copy_runI _ rfl _ _ 22 22 rfl _ _ rfl rfl (hcpA _ _) ?_)
    refine wp_region_L (fun W => True) 9 (by kernel_rfl) 9 rfl ?_
    refine wpAnyL_take' (i := 0) (v := ?_) (oi := { dst := some 46, op := Op.move (Operand.tmp 9), type := 22, pos := "slices.go:154", after := #[], guard := none }) rfl (by kernel_rfl) (by kernel_rfl) (by kernel_rfl) (by kernel_rfl) rfl (fun _ _ _ h => h) (Or.inl ⟨by rfl, ?_⟩) trivial ?_
    rotate_left
    · intro W hSW
      go_simp
      try with_reducible rfl
    simp only [Act.put, List.setIfInBounds_toArray, List.set_cons_zero, List.set_cons_succ]
    refine wpAnyL_take' (i := 1) (v := ?_) (oi := { dst := some 47, op := Op.move (Operand.tmp 1), type := 3, pos := "slices.go:154", after := #[], guard := none }) rfl (by kernel_rfl) (by kernel_rfl) (by kernel_rfl) (by kernel_rfl) rfl (fun _ _ _ h => h) (Or.inl ⟨by rfl, ?_⟩) trivial ?_
    rotate_left
    · intro W hSW
      go_simp
      try with_reducible rfl
    simp only [Act.put, List.setIfInBounds_toArray, List.set_cons_zero, List.set_cons_succ]
    refine wpAnyL_take' (i := 2) (v := ?_) (oi := { dst := some 48, op := Op.move (Operand.tmp 7), type := 3, pos := "slices.go:154", after := #[], guard := none }) rfl (by kernel_rfl) (by kernel_rfl) (by kernel_rfl) (by kernel_rfl) rfl (fun _ _ _ h => h) (Or.inl ⟨by rfl, ?_⟩) trivial ?_
    rotate_left
    · intro W hSW
      go_simp
      try with_reducible rfl
    simp only [Act.put, List.setIfInBounds_toArray, List.set_cons_zero, List.set_cons_succ]
    refine wpAnyL_take' (i := 3) (v := ?_) (oi := { dst := some 49, op := Op.binOp BinOp.add 3 (Operand.tmp 47) (Operand.tmp 48) 3, type := 3, pos := "slices.go:154", after := #[{ on := 1, ground := Ground.data }, { on := 2, ground := Ground.data }], guard := none }) rfl (by kernel_rfl) (by kernel_rfl) (by kernel_rfl) (by kernel_rfl) rfl (fun _ _ _ h => h) (Or.inl ⟨by rfl, ?_⟩) trivial ?_
    rotate_left
    · intro W hSW
      go_simp
      try with_reducible rfl
    simp only [Act.put, List.setIfInBounds_toArray, List.set_cons_zero, List.set_cons_succ]
    refine wpAnyL_take' (i := 4) (v := ?_) (oi := { dst := some 50, op := Op.slice 22 (Operand.tmp 46) (some (Operand.tmp 49)) none none, type := 22, pos := "slices.go:154", after := #[{ on := 0, ground := Ground.data }, { on := 3, ground := Ground.data }], guard := none }) rfl (by kernel_rfl) (by kernel_rfl) (by kernel_rfl) (by kernel_rfl) rfl (fun _ _ _ h => h) (Or.inl ⟨by rfl, ?_⟩) trivial ?_
    rotate_left
    · intro W hSW
      go_simp
      try with_reducible rfl
    simp only [Act.put, List.setIfInBounds_toArray, List.set_cons_zero, List.set_cons_succ]
    refine wpAnyL_take' (i := 5) (v := ?_) (oi := { dst := some 51, op := Op.move (Operand.tmp 0), type := 22, pos := "slices.go:154", after := #[], guard := none }) rfl (by kernel_rfl) (by kernel_rfl) (by kernel_rfl) (by kernel_rfl) rfl (fun _ _ _ h => h) (Or.inl ⟨by rfl, ?_⟩) trivial ?_
    rotate_left
    · intro W hSW
      go_simp
      try with_reducible rfl
    simp only [Act.put, List.setIfInBounds_toArray, List.set_cons_zero, List.set_cons_succ]
    refine wpAnyL_take' (i := 6) (v := ?_) (oi := { dst := some 52, op := Op.move (Operand.tmp 1), type := 3, pos := "slices.go:154", after := #[], guard := none }) rfl (by kernel_rfl) (by kernel_rfl) (by kernel_rfl) (by kernel_rfl) rfl (fun _ _ _ h => h) (Or.inl ⟨by rfl, ?_⟩) trivial ?_
    rotate_left
    · intro W hSW
      go_simp
      try with_reducible rfl
    simp only [Act.put, List.setIfInBounds_toArray, List.set_cons_zero, List.set_cons_succ]
    refine wpAnyL_take' (i := 7) (v := ?_) (oi := { dst := some 53, op := Op.slice 22 (Operand.tmp 51) (some (Operand.tmp 52)) none none, type := 22, pos := "slices.go:154", after := #[{ on := 5, ground := Ground.data }, { on := 6, ground := Ground.data }], guard := none }) rfl (by kernel_rfl) (by kernel_rfl) (by kernel_rfl) (by kernel_rfl) rfl (fun _ _ _ h => h) (Or.inl ⟨by rfl, ?_⟩) trivial ?_
    rotate_left
    · intro W hSW
      go_simp
      try with_reducible rfl
    simp only [Act.put, List.setIfInBounds_toArray, List.set_cons_zero, List.set_cons_succ]
    refine wpAnyL_one' (i := 8) (o := { dst := some 54, op := Op.call { callee := Callee.builtin Builtin.copy, args := #[Operand.tmp 50, Operand.tmp 53], argTypes := #[22, 22] }, type := 3, pos := "slices.go:154", after := #[{ on := 4, ground := Ground.data }, { on := 7, ground := Ground.data }], guard := none }) (by kernel_rfl) rfl rfl (fun K hK => ?_)
    refine step_copy_runI rfl _ _ 22 22 rfl _ _ rfl rfl (hcpB _ _ _) ?_
    refine hK.out _ _ (fun _ => trivial) ?_
    clear hK
    simp only [Act.put, List.setIfInBounds_toArray, List.set_cons_zero, List.set_cons_succ]
    refine wpAnyL_done (by kernel_rfl) ?_ _
    go_wp2_with fail
    go_ret
    exact ⟨_, rfl, HQ.out.1, HQ.out.2.1, .inr ⟨_, rfl, HQ.out.2.2⟩⟩
end Go.Proofs.Ytjpbfckdiojghaa
