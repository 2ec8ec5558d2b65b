/- closed, Closure, Goto, First of the program. -/
import Derived.Test.YtlaplmmicccbcaaGreatDoorJ01
import Derived.Test.YtlaplmmicccbcaaGreatDoorJ05
import Derived.Test.YtlaplmmicccbcaaGreatDoorJ06
import Derived.Test.YtlaplmmicccbcaaGreatDoorJ10
import Derived.Test.YtlaplmmicccbcaaGreatDoorJ14
namespace Go.Proofs.YtlaplmmicccbcaaGreatDoor
open Go.RowKit

set_option maxRecDepth 100000 in
set_option maxHeartbeats 1600000 in
theorem closed_any (f : Fl) (a : FlA) (l : List Ir) (v : Value) (w : World) (hf : FlAt f a w) (hb : fitB f = true) (hT : Tb w) (hl : SlL l v w) (hfit : ∀ x ∈ l, fitI f x = true) (hll : l.length ≤ 50000000) :
    Calls Tryz.prog 33 #[a.val f, v] w fun e w' => Closed1 f l w e w' := by
  have hp := fit_facts hb
  have hF := fun W (hw : Below w.heap.size w W) => flatFit_any f a W (hf.next hw) hb
  have hV := fun W (hw : Below w.heap.size w W) => iview_any f a W (hf.next hw) hp (hT.next hw)
  have HC : Hid (∀ V Le R W1 W, Below w.heap.size w W1 → Below W1.heap.size W1 W → VwAt f a V Le R W1 → FE f R Le → l ≠ [] → Calls Tryz.prog 47 #[.pointer (some ⟨V, 0, none⟩), v] W fun e w' => Closed1 f l W e w') := fun V Le R W1 W h1 h2 hv hfe hne => closure_any f a V Le R l v W1 W hv (hf.next h1) hfe h2 hp (hl.next (h1.trans (h2.mono h1.size))) hfit hne hll
  obtain ⟨la, lc, rfl, hI, _, _⟩ := hl
  obtain ⟨ta, tc, na, nc, pa, pc⟩ := a
  have X0 := FBox.new f ⟨ta, tc, na, nc, pa, pc⟩ 25 w
  have B0 : Below w.heap.size w (w.alloc (fobj f ⟨ta, tc, na, nc, pa, pc⟩ 25)) := (Below.refl _ _).alloc (Nat.le_refl _) _
  unfold fobj at X0 B0
  unfold FlA.val at hF hV ⊢
  simp only at *
  have HF : Hid (∀ W, Below w.heap.size w W → Calls Tryz.prog 41 #[.agg #[.slice ta f.terms.length tc, .slice na f.nons.length nc, .slice pa f.prods.length pc]] W fun e w' => e = .returned (.bool true) ∧ Below W.heap.size W w') := hF
  have HV : Hid (∀ W, Below w.heap.size w W → Calls Tryz.prog 42 #[.agg #[.slice ta f.terms.length tc, .slice na f.nons.length nc, .slice pa f.prods.length pc]] W fun e w' => Viewed f ⟨ta, tc, na, nc, pa, pc⟩ W e w') := hV
  clear hF hV hf hI hT hfit
  go_enter Tryz.func33, Tryz.ntmps33
  by_cases h0 : l = []
  · subst h0
    simp only [List.length_nil] at *
    go_wp2_with fail
    go_ret
    exact ⟨_, [], rfl, (by have h := closF_spec hp ([] : List Ir); rw [closF_nil hp] at h; exact h), ⟨none, 0, rfl, IrsAt.nil _ _, fun _ => rfl, Nat.le_refl _⟩, Apart.none _ _ _, B0⟩
  have hpos : 0 < l.length := List.length_pos_iff.2 h0
  have hz : ((l.length : Int) == 0) = false := beq_eq_false_iff_ne.2 (by omega)
  obtain ⟨x0, x1, x2⟩ := X0.2
  have hxl := X0.1
  simp only at x0 x1 x2
  go_wp2_with fail
  generalize w.alloc (Obj.cells #[.slice ta f.terms.length tc, .slice na f.nons.length nc, .slice pa f.prods.length pc] 25) = w0 at *
  refine (HF.out _ B0).mono ?_
  rintro e w1 ⟨rfl, b1⟩
  have B1 : Below w.heap.size w w1 := B0.trans (b1.mono B0.size)
  have y0 := (b1.cell (p := ⟨w.heap.size, 0, none⟩) hxl).trans x0
  have y1 := (b1.cell (p := ⟨w.heap.size, 1, none⟩) hxl).trans x1
  have y2 := (b1.cell (p := ⟨w.heap.size, 2, none⟩) hxl).trans x2
  clear x0 x1 x2
  go_wp2_with fail
  refine (HV.out _ B1).mono ?_
  rintro e w2 ⟨V, Le, R, rfl, hvl, hgb, hgr, hvw, b2⟩
  have B2 : Below w.heap.size w w2 := B1.trans (b2.mono B1.size)
  have HCC := HC.out V Le R w2 w2 B2 (Below.refl _ _) hvw ⟨hgr, hgb⟩ h0
  clear hgb hgr hvw HC HV HF X0
  go_wp2_with fail
  refine HCC.mono ?_
  rintro e w3 ⟨v', L', rfl, k1, k2, k3, k4⟩
  have HR : Hid (ClosI f (fun x => x ∈ l) L' ∧ SlL L' v' w3 ∧ Apart w.heap.size v' ∧ Below w.heap.size w w3) := ⟨k1, k2, k3.mono B2.size, B2.trans (k4.mono B2.size)⟩
  clear k1 k2 k3 k4 HCC
  go_wp2_with fail
  go_ret
  exact ⟨v', L', rfl, HR.out⟩

set_option maxRecDepth 100000 in
set_option maxHeartbeats 1600000 in
theorem closureP_any (f : Fl) (a : FlA) (l : List Ir) (v : Value) (w : World) (hf : FlAt f a w) (hb : fitB f = true) (hT : Tb w) (hl : SlL l v w) (hll : l.length ≤ 50000000) :
    Calls Tryz.prog 15 #[a.val f, v] w fun e w' => Closed1 f l w e w' := by
  have hp := fit_facts hb
  have hn : f.n ≤ 600 := hp.size
  have h1 := fun W (hw : Below w.heap.size w W) => fitOnes_any f a l v W (hf.next hw) hn (hl.next hw) (by omega)
  have h2 := fun v1 W (hw : Below w.heap.size w W) (hs : SlL (l.filter (fitI f)) v1 W) => closed_any f a (l.filter (fitI f)) v1 W (hf.next hw) hb (hT.next hw) hs (fun x hx => (List.mem_filter.1 hx).2) (Nat.le_trans (List.length_filter_le _ _) hll)
  obtain ⟨la, lc, rfl, _⟩ := hl
  obtain ⟨ta, tc, na, nc, pa, pc⟩ := a
  have X0 := FBox.new f ⟨ta, tc, na, nc, pa, pc⟩ 25 w
  have B0 : Below w.heap.size w (w.alloc (fobj f ⟨ta, tc, na, nc, pa, pc⟩ 25)) := (Below.refl _ _).alloc (Nat.le_refl _) _
  unfold fobj at X0 B0
  unfold FlA.val at h1 h2 ⊢
  simp only at *
  have H1 : Hid (∀ W, Below w.heap.size w W → Calls Tryz.prog 34 #[.agg #[.slice ta f.terms.length tc, .slice na f.nons.length nc, .slice pa f.prods.length pc], .slice la l.length lc] W fun e w' => ∃ v', e = .returned v' ∧ SlL (l.filter (fitI f)) v' w' ∧ Below W.heap.size W w') := h1
  have H2 : Hid (∀ v1 W, Below w.heap.size w W → SlL (l.filter (fitI f)) v1 W → Calls Tryz.prog 33 #[.agg #[.slice ta f.terms.length tc, .slice na f.nons.length nc, .slice pa f.prods.length pc], v1] W fun e w' => Closed1 f (l.filter (fitI f)) W e w') := h2
  clear h1 h2 hf hT
  go_enter Tryz.func15, Tryz.ntmps15
  go_wp2_with fail
  generalize w.alloc (Obj.cells #[.slice ta f.terms.length tc, .slice na f.nons.length nc, .slice pa f.prods.length pc] 25) = w0 at *
  have HS : Hid (∀ W, Below w0.heap.size w0 W → (W.cell? ⟨w.heap.size, 0, none⟩ = some (.slice ta f.terms.length tc) ∧ W.cell? ⟨w.heap.size, 1, none⟩ = some (.slice na f.nons.length nc) ∧ W.cell? ⟨w.heap.size, 2, none⟩ = some (.slice pa f.prods.length pc))) := fun W hb => (X0.next hb).2
  have hS0 := HS.out _ (Below.refl _ w0).drew
  refine wp_region_L (fun W => W.cell? ⟨w.heap.size, 0, none⟩ = some (.slice ta f.terms.length tc) ∧ W.cell? ⟨w.heap.size, 1, none⟩ = some (.slice na f.nons.length nc) ∧ W.cell? ⟨w.heap.size, 2, none⟩ = some (.slice pa f.prods.length pc)) 6 (by kernel_rfl) 6 rfl ?_
  refine tk (i := 0) (v := ?_) (oi := ⟨some 5, .load 25 (.tmp 2), 25, "item.go:14", #[], none⟩) hS0 ?_ ?_
  rotate_left
  · intro W hSW
    go_simp
    try with_reducible rfl
  simp only [Act.put, sA, s0, sS]
  refine tk (i := 1) (v := ?_) (oi := ⟨some 6, .load 25 (.tmp 2), 25, "item.go:14", #[], none⟩) hS0 ?_ ?_
  rotate_left
  · intro W hSW
    go_simp
    try with_reducible rfl
  simp only [Act.put, sA, s0, sS]
  refine tk (i := 2) (v := ?_) (oi := ⟨some 7, .move (.tmp 1), 26, "item.go:14", #[], none⟩) hS0 ?_ ?_
  rotate_left
  · intro W hSW
    go_simp
    try with_reducible rfl
  simp only [Act.put, sA, s0, sS]
  refine wpAnyL_one' (i := 3) (o := ⟨some 8, .call ⟨.value (.func 34), #[.tmp 6, .tmp 7], #[25, 26]⟩, 26, "item.go:14", #[⟨1, .data⟩, ⟨2, .data⟩], none⟩) (by kernel_rfl) rfl rfl (fun K hK => ?_)
  go_simp
  refine (H1.out _ B0.drew).mono ?_
  rintro e W1 ⟨v1, rfl, s1, b1⟩
  have B1 : Below w0.heap.size w0 W1 := (Below.refl _ w0).drew.trans (b1.mono (Nat.le_refl _))
  have hS1 := HS.out _ B1
  have H2' := H2.out v1 W1 (B0.trans (B1.mono B0.size)) s1
  refine hK.out _ _ (fun _ => hS1) ?_
  clear hK s1
  refine wpAnyL_one' (i := 4) (o := ⟨some 9, .call ⟨.value (.func 33), #[.tmp 5, .tmp 8], #[25, 26]⟩, 26, "item.go:14", #[⟨0, .data⟩, ⟨3, .data⟩, ⟨3, .chain⟩], none⟩) (by kernel_rfl) rfl rfl (fun K hK => ?_)
  go_simp
  refine H2'.mono ?_
  rintro e W2 ⟨v2, L2, rfl, k1, k2, k3, k4⟩
  have hS2 := HS.out _ (B1.trans (k4.mono B1.size))
  have HR : Hid (ClosI f (fun x => x ∈ l) L2 ∧ SlL L2 v2 W2 ∧ Apart w.heap.size v2 ∧ Below w.heap.size w W2) := ⟨closI_congr (fun x hx => by simp [hx]) k1, k2, k3.mono (by have := B0.size; have := B1.size; omega), (B0.trans (B1.mono B0.size)).trans (k4.mono (by have := B0.size; have := B1.size; omega))⟩
  refine hK.out _ _ (fun _ => hS2) ?_
  clear hK k1 k2 k3 k4 H2'
  refine tk (i := 5) (v := ?_) (oi := ⟨some 4, .assign (.tmp 9), 26, "item.go:14", #[⟨4, .data⟩, ⟨4, .chain⟩, ⟨0, .phase⟩, ⟨1, .phase⟩, ⟨2, .phase⟩, ⟨3, .phase⟩, ⟨4, .phase⟩], none⟩) hS2 ?_ ?_
  rotate_left
  · intro W hSW
    go_simp
    try with_reducible rfl
  simp only [Act.put, sA, s0, sS]
  refine wpAnyL_done (by kernel_rfl) ?_ _
  go_wp2_with fail
  go_ret
  exact ⟨v2, L2, rfl, HR.out⟩

set_option maxRecDepth 100000 in
set_option maxHeartbeats 1600000 in
theorem gotoP_any (f : Fl) (a : FlA) (l : List Ir) (v : Value) (s : Int) (w : World) (hf : FlAt f a w) (hb : fitB f = true) (hT : Tb w) (hl : SlL l v w) (hll : l.length ≤ 50000000) :
    Calls Tryz.prog 17 #[a.val f, v, .int .i64 s] w fun e w' => Closed1 f (movedL f l s) w e w' := by
  have hp := fit_facts hb
  have hn : f.n ≤ 600 := hp.size
  have h1 := fun W (hw : Below w.heap.size w W) => moved_any f a l v s W (hf.next hw) hp (hl.next hw) (by omega)
  have h2 := fun v1 W (hw : Below w.heap.size w W) (hs : SlL (movedL f l s) v1 W) => closed_any f a (movedL f l s) v1 W (hf.next hw) hb (hT.next hw) hs movedL_fit (Nat.le_trans (movedL_len _ _ _) hll)
  obtain ⟨la, lc, rfl, _⟩ := hl
  obtain ⟨ta, tc, na, nc, pa, pc⟩ := a
  have X0 := FBox.new f ⟨ta, tc, na, nc, pa, pc⟩ 25 w
  have B0 : Below w.heap.size w (w.alloc (fobj f ⟨ta, tc, na, nc, pa, pc⟩ 25)) := (Below.refl _ _).alloc (Nat.le_refl _) _
  unfold fobj at X0 B0
  unfold FlA.val at h1 h2 ⊢
  simp only at *
  have H1 : Hid (∀ W, Below w.heap.size w W → Calls Tryz.prog 39 #[.agg #[.slice ta f.terms.length tc, .slice na f.nons.length nc, .slice pa f.prods.length pc], .slice la l.length lc, .int .i64 s] W fun e w' => ∃ v', e = .returned v' ∧ SlL (movedL f l s) v' w' ∧ Below W.heap.size W w') := h1
  have H2 : Hid (∀ v1 W, Below w.heap.size w W → SlL (movedL f l s) v1 W → Calls Tryz.prog 33 #[.agg #[.slice ta f.terms.length tc, .slice na f.nons.length nc, .slice pa f.prods.length pc], v1] W fun e w' => Closed1 f (movedL f l s) W e w') := h2
  clear h1 h2 hf hT
  go_enter Tryz.func17, Tryz.ntmps17
  go_wp2_with fail
  generalize w.alloc (Obj.cells #[.slice ta f.terms.length tc, .slice na f.nons.length nc, .slice pa f.prods.length pc] 25) = w0 at *
  have HS : Hid (∀ W, Below w0.heap.size w0 W → (W.cell? ⟨w.heap.size, 0, none⟩ = some (.slice ta f.terms.length tc) ∧ W.cell? ⟨w.heap.size, 1, none⟩ = some (.slice na f.nons.length nc) ∧ W.cell? ⟨w.heap.size, 2, none⟩ = some (.slice pa f.prods.length pc))) := fun W hb => (X0.next hb).2
  have hS0 := HS.out _ (Below.refl _ w0).drew
  refine wp_region_L (fun W => W.cell? ⟨w.heap.size, 0, none⟩ = some (.slice ta f.terms.length tc) ∧ W.cell? ⟨w.heap.size, 1, none⟩ = some (.slice na f.nons.length nc) ∧ W.cell? ⟨w.heap.size, 2, none⟩ = some (.slice pa f.prods.length pc)) 7 (by kernel_rfl) 7 rfl ?_
  refine tk (i := 0) (v := ?_) (oi := ⟨some 7, .load 25 (.tmp 3), 25, "item.go:19", #[], none⟩) hS0 ?_ ?_
  rotate_left
  · intro W hSW
    go_simp
    try with_reducible rfl
  simp only [Act.put, sA, s0, sS]
  refine tk (i := 1) (v := ?_) (oi := ⟨some 8, .load 25 (.tmp 3), 25, "item.go:19", #[], none⟩) hS0 ?_ ?_
  rotate_left
  · intro W hSW
    go_simp
    try with_reducible rfl
  simp only [Act.put, sA, s0, sS]
  refine tk (i := 2) (v := ?_) (oi := ⟨some 9, .move (.tmp 1), 26, "item.go:19", #[], none⟩) hS0 ?_ ?_
  rotate_left
  · intro W hSW
    go_simp
    try with_reducible rfl
  simp only [Act.put, sA, s0, sS]
  refine tk (i := 3) (v := ?_) (oi := ⟨some 10, .move (.tmp 2), 3, "item.go:19", #[], none⟩) hS0 ?_ ?_
  rotate_left
  · intro W hSW
    go_simp
    try with_reducible rfl
  simp only [Act.put, sA, s0, sS]
  refine wpAnyL_one' (i := 4) (o := ⟨some 11, .call ⟨.value (.func 39), #[.tmp 8, .tmp 9, .tmp 10], #[25, 26, 3]⟩, 26, "item.go:19", #[⟨1, .data⟩, ⟨2, .data⟩, ⟨3, .data⟩], none⟩) (by kernel_rfl) rfl rfl (fun K hK => ?_)
  go_simp
  refine (H1.out _ B0.drew).mono ?_
  rintro e W1 ⟨v1, rfl, s1, b1⟩
  have B1 : Below w0.heap.size w0 W1 := (Below.refl _ w0).drew.trans (b1.mono (Nat.le_refl _))
  have hS1 := HS.out _ B1
  have H2' := H2.out v1 W1 (B0.trans (B1.mono B0.size)) s1
  refine hK.out _ _ (fun _ => hS1) ?_
  clear hK s1
  refine wpAnyL_one' (i := 5) (o := ⟨some 12, .call ⟨.value (.func 33), #[.tmp 7, .tmp 11], #[25, 26]⟩, 26, "item.go:19", #[⟨0, .data⟩, ⟨4, .data⟩, ⟨4, .chain⟩], none⟩) (by kernel_rfl) rfl rfl (fun K hK => ?_)
  go_simp
  refine H2'.mono ?_
  rintro e W2 ⟨v2, L2, rfl, k1, k2, k3, k4⟩
  have hS2 := HS.out _ (B1.trans (k4.mono B1.size))
  have HR : Hid (ClosI f (fun x => x ∈ movedL f l s) L2 ∧ SlL L2 v2 W2 ∧ Apart w.heap.size v2 ∧ Below w.heap.size w W2) := ⟨k1, k2, k3.mono (by have := B0.size; have := B1.size; omega), (B0.trans (B1.mono B0.size)).trans (k4.mono (by have := B0.size; have := B1.size; omega))⟩
  refine hK.out _ _ (fun _ => hS2) ?_
  clear hK k1 k2 k3 k4 H2'
  refine tk (i := 6) (v := ?_) (oi := ⟨some 6, .assign (.tmp 12), 26, "item.go:19", #[⟨5, .data⟩, ⟨5, .chain⟩, ⟨0, .phase⟩, ⟨1, .phase⟩, ⟨2, .phase⟩, ⟨3, .phase⟩, ⟨4, .phase⟩, ⟨5, .phase⟩], none⟩) hS2 ?_ ?_
  rotate_left
  · intro W hSW
    go_simp
    try with_reducible rfl
  simp only [Act.put, sA, s0, sS]
  refine wpAnyL_done (by kernel_rfl) ?_ _
  go_wp2_with fail
  go_ret
  exact ⟨v2, L2, rfl, HR.out⟩

set_option maxRecDepth 100000 in
set_option maxHeartbeats 1600000 in
theorem firstP_any (f : Fl) (a : FlA) (w : World) (hf : FlAt f a w) (hb : fitB f = true) (hT : Tb w) :
    Calls Tryz.prog 19 #[a.val f] w fun e w' => Closed1 f (begL f) w e w' := by
  have hp := fit_facts hb
  have hn : f.n ≤ 600 := hp.size
  have h1 := fun W (_ : Below w.heap.size w W) => beginning_any f a W hn
  have h2 := fun v1 W (hw : Below w.heap.size w W) (hs : SlL (begL f) v1 W) => closureP_any f a (begL f) v1 W (hf.next hw) hb (hT.next hw) hs (by simp [begL])
  obtain ⟨ta, tc, na, nc, pa, pc⟩ := a
  have X0 := FBox.new f ⟨ta, tc, na, nc, pa, pc⟩ 25 w
  have B0 : Below w.heap.size w (w.alloc (fobj f ⟨ta, tc, na, nc, pa, pc⟩ 25)) := (Below.refl _ _).alloc (Nat.le_refl _) _
  unfold fobj at X0 B0
  unfold FlA.val at h1 h2 ⊢
  simp only at *
  have H1 : Hid (∀ W, Below w.heap.size w W → Calls Tryz.prog 40 #[.agg #[.slice ta f.terms.length tc, .slice na f.nons.length nc, .slice pa f.prods.length pc]] W fun e w' => ∃ v', e = .returned v' ∧ SlL (begL f) v' w' ∧ Below W.heap.size W w') := h1
  have H2 : Hid (∀ v1 W, Below w.heap.size w W → SlL (begL f) v1 W → Calls Tryz.prog 15 #[.agg #[.slice ta f.terms.length tc, .slice na f.nons.length nc, .slice pa f.prods.length pc], v1] W fun e w' => Closed1 f (begL f) W e w') := h2
  clear h1 h2 hf hT
  go_enter Tryz.func19, Tryz.ntmps19
  go_wp2_with fail
  generalize w.alloc (Obj.cells #[.slice ta f.terms.length tc, .slice na f.nons.length nc, .slice pa f.prods.length pc] 25) = w0 at *
  have HS : Hid (∀ W, Below w0.heap.size w0 W → (W.cell? ⟨w.heap.size, 0, none⟩ = some (.slice ta f.terms.length tc) ∧ W.cell? ⟨w.heap.size, 1, none⟩ = some (.slice na f.nons.length nc) ∧ W.cell? ⟨w.heap.size, 2, none⟩ = some (.slice pa f.prods.length pc))) := fun W hb => (X0.next hb).2
  have hS0 := HS.out _ (Below.refl _ w0).drew
  refine wp_region_L (fun W => W.cell? ⟨w.heap.size, 0, none⟩ = some (.slice ta f.terms.length tc) ∧ W.cell? ⟨w.heap.size, 1, none⟩ = some (.slice na f.nons.length nc) ∧ W.cell? ⟨w.heap.size, 2, none⟩ = some (.slice pa f.prods.length pc)) 5 (by kernel_rfl) 5 rfl ?_
  refine tk (i := 0) (v := ?_) (oi := ⟨some 3, .load 25 (.tmp 1), 25, "item.go:24", #[], none⟩) hS0 ?_ ?_
  rotate_left
  · intro W hSW
    go_simp
    try with_reducible rfl
  simp only [Act.put, sA, s0, sS]
  refine tk (i := 1) (v := ?_) (oi := ⟨some 4, .load 25 (.tmp 1), 25, "item.go:24", #[], none⟩) hS0 ?_ ?_
  rotate_left
  · intro W hSW
    go_simp
    try with_reducible rfl
  simp only [Act.put, sA, s0, sS]
  refine wpAnyL_one' (i := 2) (o := ⟨some 5, .call ⟨.value (.func 40), #[.tmp 4], #[25]⟩, 26, "item.go:24", #[⟨1, .data⟩], none⟩) (by kernel_rfl) rfl rfl (fun K hK => ?_)
  go_simp
  refine (H1.out _ B0.drew).mono ?_
  rintro e W1 ⟨v1, rfl, s1, b1⟩
  have B1 : Below w0.heap.size w0 W1 := (Below.refl _ w0).drew.trans (b1.mono (Nat.le_refl _))
  have hS1 := HS.out _ B1
  have H2' := H2.out v1 W1 (B0.trans (B1.mono B0.size)) s1
  refine hK.out _ _ (fun _ => hS1) ?_
  clear hK s1
  refine wpAnyL_one' (i := 3) (o := ⟨some 6, .call ⟨.value (.func 15), #[.tmp 3, .tmp 5], #[25, 26]⟩, 26, "item.go:24", #[⟨0, .data⟩, ⟨2, .data⟩, ⟨2, .chain⟩], none⟩) (by kernel_rfl) rfl rfl (fun K hK => ?_)
  go_simp
  refine H2'.mono ?_
  rintro e W2 ⟨v2, L2, rfl, k1, k2, k3, k4⟩
  have hS2 := HS.out _ (B1.trans (k4.mono B1.size))
  have HR : Hid (ClosI f (fun x => x ∈ begL f) L2 ∧ SlL L2 v2 W2 ∧ Apart w.heap.size v2 ∧ Below w.heap.size w W2) := ⟨k1, k2, k3.mono (by have := B0.size; have := B1.size; omega), (B0.trans (B1.mono B0.size)).trans (k4.mono (by have := B0.size; have := B1.size; omega))⟩
  refine hK.out _ _ (fun _ => hS2) ?_
  clear hK k1 k2 k3 k4 H2'
  refine tk (i := 4) (v := ?_) (oi := ⟨some 2, .assign (.tmp 6), 26, "item.go:24", #[⟨3, .data⟩, ⟨3, .chain⟩, ⟨0, .phase⟩, ⟨1, .phase⟩, ⟨2, .phase⟩, ⟨3, .phase⟩], none⟩) hS2 ?_ ?_
  rotate_left
  · intro W hSW
    go_simp
    try with_reducible rfl
  simp only [Act.put, sA, s0, sS]
  refine wpAnyL_done (by kernel_rfl) ?_ _
  go_wp2_with fail
  go_ret
  exact ⟨v2, L2, rfl, HR.out⟩
end Go.Proofs.YtlaplmmicccbcaaGreatDoor
/- all, All of the program. -/
namespace Go.Proofs.YtlaplmmicccbcaaGreatDoor
open Go.RowKit Go.Shelf
attribute [local go_sem] Oper.semAt_some

theorem results_cells2 {fn : Func} {p q : Tmp} {t u : TypeId} (h : fn.results = #[.cell p t, .cell q u]) (tmps : Array Value) (P : Program) (w : World) {a b : Addr} {x y : Value} (ha : tmps[p]?.getD undef = .pointer (some a)) (hb : tmps[q]?.getD undef = .pointer (some b)) (hx : (loadVar t a).run P w = .ok x w) (hy : (loadVar u b).run P w = .ok y w) :
    (results fn tmps).run P w = .ok (.tuple #[x, y]) w := by
  simp only [results, h]
  simp [Sem.run_bind, Result.andThen, ha, hb, hx, hy, asAddr]
theorem leaves_marks_w {F : Fence} {n : Nat} {P : Program} {fn : Func} {tmps : Array Value} {B : Nat} {Rw : World → Prop} {R : Ending → World → Prop} (hfin : ∀ W, Rw W → ∃ v, (results fn tmps).run P W = .ok v W ∧ R (.returned v) W)
    (hR : ∀ W d, B ≤ d → W.heap[d]? = some (.deferred (some [])) → Rw W → Rw (W.putObj d (.deferred none))) :
    ∀ (Ds : List Nat) (W : World), Mk B Ds W → Rw W → LeavesInM F n P fn tmps R (Ds.map mark) .returning W
  | [], W, _, h => hfin W h
  | d :: Ds, W, hM, h => by
    obtain ⟨hB, hd⟩ := hM.2 d (by simp)
    have hn := List.nodup_cons.1 hM.1
    refine ⟨by simp, .inl ⟨d, _, rfl, run_takeDeferred hd, ?_⟩⟩
    refine leaves_marks_w hfin hR Ds _ ⟨hn.2, fun e he => ?_⟩ (hR W d hB hd h)
    have := hM.2 e (by simp [he])
    exact ⟨this.1, (World.putObj_heap_other (fun h' => hn.1 (by rw [← h']; exact he))).trans this.2⟩
theorem OwnZ.cells {E : Nat → Prop} {R : List (List Ir)} {v : Value} {W : World} (h : OwnZ E R v W) {k : Nat} (hk : inB v k) : ∃ off u, W.cell? ⟨k, off, none⟩ = some u := by
  obtain ⟨hv, h0, ⟨ao, b, off, cap, rfl, hc, _⟩, _⟩ := h
  obtain ⟨o', n', c', e', hcp⟩ := hk
  cases e'
  have := hc.addr hcp
  cases this
  rcases Nat.eq_zero_or_pos R.length with hz | hz
  · have h1 := (hc.spare 0 (by rw [hz]; omega)).1
    obtain ⟨u, hu⟩ := Option.isSome_iff_exists.1 h1
    exact ⟨_, u, hu⟩
  · have hi : 0 < hv.length := by omega
    exact ⟨_, _, hc.olds 0 hv[0] (by simp [hi])⟩
theorem not_deferred {W : World} {k off : Nat} {u : Value} (h : W.cell? ⟨k, off, none⟩ = some u) (hd : W.heap[k]? = some (.deferred (some []))) : False := by
  simp [World.cell?, hd] at h
theorem SlLL.putObj {R : List (List Ir)} {v : Value} {W : World} {d : Nat} {o : Obj} (h : SlLL R v W) (hd : W.heap[d]? = some (.deferred (some []))) : SlLL R v (W.putObj d o) := by
  obtain ⟨ao, cap, h0, h1, h2⟩ := h
  have hb := But.putObj W d o
  refine ⟨ao, cap, h0, fun i l hi => ?_, h2⟩
  obtain ⟨b, off, u, e, hbl, c0, hsl⟩ := h1 i l hi
  have hne : b ≠ d := fun e => by subst e; exact not_deferred c0 hd
  exact ⟨b, off, u, e, Nat.lt_of_lt_of_le hbl hb.size, (hb.cell (p := ⟨b, off + i, none⟩) hbl hne).trans c0, hsl.putObj hd⟩

set_option maxRecDepth 100000 in
set_option maxHeartbeats 800000 in
theorem beginning2_any (f : Fl) (a : FlA) (w : World) (hn : f.n ≤ 600) :
    Calls Tryz.prog 40 #[a.val f] w fun e w' => ∃ v, e = .returned v ∧ SlL (begL f) v w' ∧ Apart w.heap.size v ∧ Below w.heap.size w w' := by
  have hE := fun W => end_any f a W
  obtain ⟨ta, tc, na, nc, pa, pc⟩ := a
  unfold FlA.val at hE ⊢
  simp only at *
  have B0 : Below w.heap.size w (w.alloc (Obj.cells #[Value.slice ta f.terms.length tc, Value.slice na f.nons.length nc, Value.slice pa f.prods.length pc] 25)) := (Below.refl _ _).alloc (Nat.le_refl _) _
  have HE : Hid (∀ W, Calls Tryz.prog 32 #[.agg #[.slice ta f.terms.length tc, .slice na f.nons.length nc, .slice pa f.prods.length pc]] W fun e w' => e = .returned (.int .i64 f.terms.length) ∧ Below W.heap.size W w') := hE
  clear hE
  go_enter Tryz.func40, Tryz.ntmps40
  go_wp2_with fail
  refine (HE.out _).mono ?_
  rintro e w1 ⟨rfl, hb1⟩
  have B1 := below_then B0 hb1 B0.size
  clear B0 hb1 HE
  have HX := RBox.new (-1, 0, (f.terms.length : Int)) 30 w1
  have HS : Hid (SlL (begL f) (.slice (some ⟨w1.heap.size, 0, none⟩) 1 1) (w1.alloc (Obj.cells #[.int .i64 (-1), .int .i64 0, .int .i64 f.terms.length] 30))) := by
    refine SlL.of (l := begL f) (fun i x hi => ?_) (fun h => by cases h) (by simp [begL])
    rcases i with _ | i
    · simp [begL] at hi; subst hi
      obtain ⟨h0, h1, h2, h3⟩ := HX
      exact ⟨_, _, rfl, h0, h1, h2, h3, by unfold okR i64B; unfold Fl.n at hn; simp only; omega⟩
    · simp [begL] at hi
  clear HX
  go_wp2_with fail
  go_ret
  exact ⟨_, rfl, HS.out, fun ad n c e => by cases e; exact B1.size, B1.alloc B1.size _⟩

def Alls (f : Fl) (w : World) (e : Ending) (W' : World) : Prop := ((∃ v' R', allF f = some R' ∧ e = .returned (.tuple #[v', .int .i64 0]) ∧ SlLL R' v' W' ∧ R'.length ≤ 600 ∧ ∀ x ∈ R', x.length ≤ maxI) ∨ (allF f = none ∧ e = .returned (.tuple #[.slice none 0 0, .int .i64 15]))) ∧ Below w.heap.size w W'
/-- The boxes, as they are laid. -/
def AW0 (w W : World) : Prop := W.heap.size = w.heap.size + 4 ∧ W.cell? ⟨w.heap.size, 0, none⟩ = some (.slice none 0 0) ∧ W.frozen? ⟨w.heap.size, 0, none⟩ = false ∧ W.cell? ⟨w.heap.size + 1, 0, none⟩ = some (.int .i64 0) ∧ W.frozen? ⟨w.heap.size + 1, 0, none⟩ = false ∧ MapSet 9 valK (w.heap.size + 1 + 1) [] W ∧ W.cell? ⟨w.heap.size + 1 + 1 + 1, 0, none⟩ = some (.map (some (w.heap.size + 1 + 1)))
theorem aw0 (w : World) (t1 t2 t3 : TypeId) : AW0 w ((((w.alloc (Obj.cells #[.slice none 0 0] t1)).alloc (Obj.cells #[.int .i64 0] t2)).alloc (.map #[] 0)).alloc (Obj.cells #[.map (some (w.heap.size + 1 + 1))] t3)) := by
  have al : ∀ (W : World) (o : Obj), But (fun _ => False) W (W.alloc o) := fun W o => But.of_next ((Below.refl _ _).alloc (Nat.le_refl _) _)
  have m := MapSet.made 9 valK ((w.alloc (Obj.cells #[.slice none 0 0] t1)).alloc (Obj.cells #[.int .i64 0] t2))
  rw [World.size_alloc, World.size_alloc] at m
  have nx : ∀ (W : World) (o : Obj), Below W.heap.size W (W.alloc o) := fun W o => (Below.refl _ _).alloc (Nat.le_refl _) _
  have st : ∀ (W W' : World) (o : Obj), Below W.heap.size W W' → Below W.heap.size W (W'.alloc o) := fun W W' o h => h.alloc h.size _
  obtain ⟨a1, a2, a3⟩ := IBox (.slice none 0 0) t1 w
  obtain ⟨b1, b2, b3⟩ := IBox (.int .i64 0) t2 (w.alloc (Obj.cells #[.slice none 0 0] t1))
  obtain ⟨c1, c2, c3⟩ := IBox (.map (some (w.heap.size + 1 + 1))) t3 (((w.alloc (Obj.cells #[.slice none 0 0] t1)).alloc (Obj.cells #[.int .i64 0] t2)).alloc (.map #[] 0))
  have f1 := st _ _ (Obj.cells #[.map (some (w.heap.size + 1 + 1))] t3) (st _ _ (.map #[] 0) (nx (w.alloc (Obj.cells #[.slice none 0 0] t1)) (Obj.cells #[.int .i64 0] t2)))
  have f2 := st _ _ (Obj.cells #[.map (some (w.heap.size + 1 + 1))] t3) (nx ((w.alloc (Obj.cells #[.slice none 0 0] t1)).alloc (Obj.cells #[.int .i64 0] t2)) (.map #[] 0))
  rw [World.size_alloc] at b1 b2
  rw [World.size_alloc, World.size_alloc, World.size_alloc] at c1
  exact ⟨by simp, (f1.cell (p := ⟨w.heap.size, 0, none⟩) a3).trans a1, (World.frozen?_of_block (f1.block _ a3)).trans a2, (f2.cell (p := ⟨w.heap.size + 1, 0, none⟩) (by simp)).trans b1, (World.frozen?_of_block (f2.block _ (by simp))).trans b2, m.but (al _ _) id, c1⟩
/-- The state ahead of a round. -/
def AI (f : Fl) (w : World) (Mm P2 P3 P5 P6 : Nat) (Ds : List Nat) (k : Nat) (T : List (List Ir)) (tv wv : Value) (E Et : Nat → Prop) (W : World) : Prop :=
  allF f = runA f (601 - k) k (setsOf f T) ∧ k ≤ T.length + 1 ∧ AW f Mm P2 P3 P5 P6 E T T wv W ∧ SepA Mm P2 P3 P6 (fun k => ZL w.heap.size P5 Ds Et tv k ∨ E k) wv W ∧ LV w.heap.size w Ds Et (((begL f :: T).take k).map (closF f)) tv W ∧ ∀ k, inB tv k → w.heap.size ≤ k ∧ k ≠ P5 ∧ ¬ E k ∧ ¬ Et k
theorem kern_facts {f : Fl} (hp : FitP f) {T : List (List Ir)} (hT : Met f T) {i : Nat} {K : List Ir} (h : (begL f :: T)[i]? = some K) : (∀ x ∈ K, fitI f x = true) ∧ K ≠ [] ∧ K.length ≤ maxI := by
  rcases i with _ | i
  · simp at h; subst h
    exact ⟨begL_fit, by simp [begL], by simp [begL, maxI]⟩
  · have hk := hT K (List.mem_of_getElem? h)
    exact ⟨hk.fit, hk.ne, items_le hp hk.rise.nodup hk.fit⟩
theorem take_map_succ {f : Fl} {T : List (List Ir)} {k : Nat} {K : List Ir} (h : (begL f :: T)[k]? = some K) : ((begL f :: T).take (k + 1)).map (closF f) = ((begL f :: T).take k).map (closF f) ++ [closF f K] := by
  rw [List.take_add_one, h, List.map_append]
  rfl
theorem take_prefix_eq {T T' : List (List Ir)} {b : List Ir} (h : T <+: T') {k : Nat} (hk : k ≤ T.length + 1) : (b :: T').take k = (b :: T).take k := by
  obtain ⟨r, rfl⟩ := h
  rw [← List.cons_append, List.take_append_of_le_length (by simpa using hk)]

set_option maxRecDepth 100000 in
set_option maxHeartbeats 4000000 in
theorem all_in (n : Nat) (hn : 6 ≤ n) (f : Fl) (a : FlA) (Le : List Bool) (R : List (List Int)) (V : Nat) (wv0 w : World) (hv : VwAt f a V Le R wv0) (hf : FlAt f a wv0) (hfe : FE f R Le) (hB : Below wv0.heap.size wv0 w) (hp : FitP f) :
    CallsIn Fence.wide n Tryz.prog 43 #[.pointer (some ⟨V, 0, none⟩)] w fun e W' => Alls f w e W' := by
  refine callsIn_of_wp_marks Tryz.func43 rfl trivial ?_ rfl
  simp only [Tryz.ntmps43, List.size_toArray, List.length_cons, List.length_nil, Nat.reduceAdd, Nat.reduceSub, Array.replicate_succ, Array.replicate_zero, List.push_toArray, List.append_toArray, List.nil_append, List.cons_append]
  obtain ⟨i0, hi0, hz0, hz1, hz2⟩ := info_parts infoSL
  have hn6 : f.n ≤ 600 := hp.size
  have HFP : Hid (FitP f) := hp
  have HBG : Hid (∀ W, Calls Tryz.prog 40 #[a.val f] W fun e w' => ∃ v, e = .returned v ∧ SlL (begL f) v w' ∧ Apart W.heap.size v ∧ Below W.heap.size W w') := fun W => beginning2_any f a W hn6
  have HCL : Hid (∀ (l : List Ir) (v : Value) (W : World), Below w.heap.size w W → SlL l v W → (∀ x ∈ l, fitI f x = true) → l ≠ [] → l.length ≤ maxI → Calls Tryz.prog 47 #[.pointer (some ⟨V, 0, none⟩), v] W fun e w' => Closed1 f l W e w') := fun l v W hb hl h1 h2 h3 => closure_any f a V Le R l v wv0 W hv hf hfe (hB.trans (hb.mono hB.size)) hp hl h1 h2 (by unfold maxI at h3; omega)
  have HRG : Hid (VwAt f a V Le R wv0 ∧ FlAt f a wv0) := ⟨hv, hf⟩
  obtain ⟨hvb, _⟩ := id hv
  obtain ⟨hVl, u0, u1, u2⟩ := hvb
  obtain ⟨ta, tc, na, nc, pa, pc⟩ := a
  unfold FlA.val at HBG
  simp only at u0 u1 u2 HBG
  have HVC : Hid (∀ W, Below w.heap.size w W → W.cell? ⟨V, 0, none⟩ = some (.slice ta f.terms.length tc) ∧ W.cell? ⟨V, 1, none⟩ = some (.slice na f.nons.length nc) ∧ W.cell? ⟨V, 2, none⟩ = some (.slice pa f.prods.length pc)) := fun W hb => by
    have hbv := hB.trans (hb.mono hB.size)
    exact ⟨(hbv.cell (p := ⟨V, 0, none⟩) hVl).trans u0, (hbv.cell (p := ⟨V, 1, none⟩) hVl).trans u1, (hbv.cell (p := ⟨V, 2, none⟩) hVl).trans u2⟩
  have HBW : Hid (Below wv0.heap.size wv0 w) := hB
  clear hv hf hfe hp u0 u1 u2 hB
  refine wpIn_calm ?_
  have B4 : Below w.heap.size w ((((w.alloc (Obj.cells #[.slice none 0 0] 39)).alloc (Obj.cells #[.int .i64 0] 40)).alloc (.map #[] 0)).alloc (Obj.cells #[.map (some (w.heap.size + 1 + 1))] 76)) := ((((Below.refl _ w).alloc (Nat.le_refl _) _).alloc (by simp) _).alloc (by simp; omega) _).alloc (by simp; omega) _
  have hv4 := HVC.out _ B4
  have HW4 : Hid (AW0 w ((((w.alloc (Obj.cells #[.slice none 0 0] 39)).alloc (Obj.cells #[.int .i64 0] 40)).alloc (.map #[] 0)).alloc (Obj.cells #[.map (some (w.heap.size + 1 + 1))] 76))) := aw0 w _ _ _
  gi_wp2_with fail
  simp only [run_makeMap, Result.andThen]
  gi_wp2_with fail
  refine ⟨trivial, fun _ => by omega, ?_⟩
  refine (callsIn_wide.2 (HBG.out _)).mono ?_
  rintro e W5 ⟨bv, rfl, hbs, hba, hb5⟩
  obtain ⟨ba, bc, rfl, _⟩ := id hbs
  have B5 : Below w.heap.size w W5 := B4.trans (hb5.mono B4.size)
  obtain ⟨e0, e1, e2, e3, e4, e5, e6⟩ := HW4.out
  have hz5 := hb5.size
  rw [e0] at hz5
  have HST : Hid (AI f w (w.heap.size + 1 + 1) w.heap.size (w.heap.size + 1) (w.heap.size + 1 + 1 + 1) (W5.heap.size + 1) [] 0 [] (.slice none 0 0) (.slice (some ⟨W5.heap.size, 0, none⟩) 1 1) (fun k => ∃ ad, ba = some ad ∧ k = ad.block) (fun _ => False) ((W5.alloc (Obj.cells #[.slice ba (begL f).length bc] 26)).alloc (Obj.cells #[.slice (some ⟨W5.heap.size, 0, none⟩) 1 1] 39))) := by
    have hx1 : Below W5.heap.size W5 (W5.alloc (Obj.cells #[.slice ba (begL f).length bc] 26)) := (Below.refl _ _).alloc (Nat.le_refl _) _
    have hx2 : Below (W5.alloc (Obj.cells #[.slice ba (begL f).length bc] 26)).heap.size (W5.alloc (Obj.cells #[.slice ba (begL f).length bc] 26)) ((W5.alloc (Obj.cells #[.slice ba (begL f).length bc] 26)).alloc (Obj.cells #[.slice (some ⟨W5.heap.size, 0, none⟩) 1 1] 39)) := (Below.refl _ _).alloc (Nat.le_refl _) _
    have hx : Below W5.heap.size W5 ((W5.alloc (Obj.cells #[.slice ba (begL f).length bc] 26)).alloc (Obj.cells #[.slice (some ⟨W5.heap.size, 0, none⟩) 1 1] 39)) := hx1.trans (hx2.mono hx1.size)
    have hy := hb5.trans (hx.mono hb5.size)
    obtain ⟨q1, q2, q3⟩ := IBox (.slice (some ⟨W5.heap.size, 0, none⟩) 1 1) 39 (W5.alloc (Obj.cells #[.slice ba (begL f).length bc] 26))
    rw [World.size_alloc] at q1 q2
    have nin : ∀ k, k ≠ W5.heap.size → ¬ inB (.slice (some ⟨W5.heap.size, 0, none⟩) 1 1) k := fun k hk h => by have := inB.of h; simp only at this; omega
    have bal : ∀ ad, ba = some ad → ad.block < W5.heap.size ∧ w.heap.size + 4 ≤ ad.block := fun ad e => by
      subst e
      exact ⟨hbs.lt (by simp [begL]), by rw [← e0]; exact hba ad _ _ rfl⟩
    have hsz : ((W5.alloc (Obj.cells #[.slice ba (begL f).length bc] 26)).alloc (Obj.cells #[.slice (some ⟨W5.heap.size, 0, none⟩) 1 1] 39)).heap.size = W5.heap.size + 2 := by simp
    refine ⟨run_start f, by simp, ⟨(by intro K hK; cases hK), List.nodup_nil, by simp, (OwnZ.one hbs (fun ad n c e _ => ⟨ad, by cases e; rfl, rfl⟩)).next hx2, e5.but (D := fun _ => False) (But.of_next hy) id, (hy.cell (p := ⟨w.heap.size + 1 + 1 + 1, 0, none⟩) (by simp only; omega)).trans e6, q1, q2, (hy.cell (p := ⟨w.heap.size, 0, none⟩) (by simp only; omega)).trans e1, (World.frozen?_of_block (hy.block _ (by simp only; omega))).trans e2, (hy.cell (p := ⟨w.heap.size + 1, 0, none⟩) (by simp only; omega)).trans e3, (World.frozen?_of_block (hy.block _ (by simp only; omega))).trans e4, nin _ (by omega), nin _ (by omega), nin _ (by omega), nin _ (by omega), nin _ (by omega)⟩, fun k hk => ?_, ⟨OwnZ.nil _ _, ⟨List.nodup_nil, by simp⟩, B5.trans (hx.mono B5.size)⟩, fun k hk => absurd hk (not_inB_nil k)⟩
    rcases hk with (hk | hk | hk | hk | hk) | ⟨ad, e, hk⟩
    · exact ⟨by omega, nin _ (by omega), by omega, by omega, by omega, by omega⟩
    · exact ⟨by omega, nin _ (by omega), by omega, by omega, by omega, by omega⟩
    · cases hk
    · exact hk.elim
    · exact absurd hk (not_inB_nil k)
    · have := bal ad e
      exact ⟨by omega, nin _ (by omega), by omega, by omega, by omega, by omega⟩
  obtain ⟨P2, hP2⟩ : ∃ P2, w.heap.size = P2 := ⟨_, rfl⟩
  obtain ⟨P6, hP6⟩ : ∃ P6, W5.heap.size + 1 = P6 := ⟨_, rfl⟩
  have hord : P2 < P2 + 1 ∧ P2 + 1 < P2 + 1 + 1 ∧ P2 + 1 + 1 < P2 + 1 + 1 + 1 ∧ P2 + 1 + 1 + 1 < P6 := by omega
  clear hbs hba hb5 B5 e0 e1 e2 e3 e4 e5 e6 HW4 hv4 B4 HBG hz5
  gi_wp2
  rw [hP2, hP6] at HST
  generalize (W5.alloc (Obj.cells #[.slice ba (begL f).length bc] 26)).alloc (Obj.cells #[.slice (some ⟨W5.heap.size, 0, none⟩) 1 1] 39) = W7 at *
  refine wpIn_loop_ghost (fun m a' W => ∃ (t8 t9 t10 t11 t12 t13 t14 t15 t16 t17 t18 t19 t20 t21 t22 t23 t24 t25 t26 t27 t28 t29 t30 t31 t32 t33 t34 t35 t36 t37 t38 t39 t40 t41 t42 t43 t44 t45 t46 t47 t48 : Value) (Ds : List Nat) (k : Nat) (T : List (List Ir)) (tv wv : Value) (E Et : Nat → Prop), a' = { tmps := #[.pointer (some ⟨V, 0, none⟩), undef, .pointer (some ⟨P2, 0, none⟩), .pointer (some ⟨P2 + 1, 0, none⟩), tv, .pointer (some ⟨P2 + 1 + 1 + 1, 0, none⟩), .pointer (some ⟨P6, 0, none⟩), .int .i64 k, t8, t9, t10, t11, t12, t13, t14, t15, t16, t17, t18, t19, t20, t21, t22, t23, t24, t25, t26, t27, t28, t29, t30, t31, t32, t33, t34, t35, t36, t37, t38, t39, t40, t41, t42, t43, t44, t45, t46, t47, t48, undef], defers := Ds.map mark } ∧ m = 601 - k ∧ AI f w (P2 + 1 + 1) P2 (P2 + 1) (P2 + 1 + 1 + 1) P6 Ds k T tv wv E Et W) 601 ?start ?round
  case start => exact ⟨_, _, _, _, _, _, _, _, _, _, _, _, _, _, _, _, _, _, _, _, _, _, _, _, _, _, _, _, _, _, _, _, _, _, _, _, _, _, _, _, _, [], 0, [], _, _, _, _, rfl, rfl, HST.out⟩
  case round =>
  clear HST
  rintro m a' W ⟨t8, t9, t10, t11, t12, t13, t14, t15, t16, t17, t18, t19, t20, t21, t22, t23, t24, t25, t26, t27, t28, t29, t30, t31, t32, t33, t34, t35, t36, t37, t38, t39, t40, t41, t42, t43, t44, t45, t46, t47, t48, Ds, k, T, tv, wv, E, Et, rfl, rfl, hrun, hk, hAW, hSep, hLV, hTV⟩
  obtain ⟨wa, wc, hwv⟩ := hAW.wo.shape
  obtain ⟨M, hM⟩ : ∃ M, T.length + 1 = M := ⟨_, rfl⟩
  have HM : Hid ((begL f :: T).length = M) := hM
  rw [HM.out] at hwv
  subst hwv
  have c6 := hAW.c6
  have hlen := hAW.len
  rw [hM] at hk hlen
  have hsz := hLV.bw.size
  have hp6 : P6 < W.heap.size := World.block_lt_of_cell? _ _ c6
  obtain ⟨Tl, hTl⟩ : ∃ Tl, ((begL f :: T).take k).map (closF f) = Tl := ⟨_, rfl⟩
  have hTll : Tl.length = k := by rw [← hTl, List.length_map, List.length_take, HM.out]; omega
  rw [hTl] at hLV
  have HTL : Hid (((begL f :: T).take k).map (closF f) = Tl) := hTl
  obtain ⟨va, vc, hvv⟩ := hLV.tl.shape
  rw [hTll] at hvv
  subst hvv
  rw [hP2] at hSep hLV hTV hsz
  by_cases hlt : k < M
  case neg =>
    obtain rfl : k = M := by omega
    have hTs : Tl = setsOf f T := by
      rw [← hTl, List.take_of_length_le (by rw [HM.out]; exact Nat.le_refl _)]; rfl
    subst hTs
    have c2 := hAW.c2
    have f2 := hAW.f2
    have c3 := hAW.c3
    have f3 := hAW.f3
    have HAL : Hid (allF f = some (setsOf f T)) := by
      show _ = _
      rw [hrun, run_end (by omega) hlen]
    have hnt : ∀ q, inB (.slice va k vc) q → q ≠ P2 ∧ q ≠ P2 + 1 := fun q hq => by
      have := hSep q (.inl (.inr (.inr (.inr (.inr hq)))))
      exact ⟨this.2.2.1, this.2.2.2.1⟩
    have c3' : (W.setCell ⟨P2, 0, none⟩ (.slice va k vc)).cell? ⟨P2 + 1, 0, none⟩ = some (.int .i64 0) := (World.cell?_setCell_other _ _ _ _ (fun e => by cases e)).trans c3
    have f3' : (W.setCell ⟨P2, 0, none⟩ (.slice va k vc)).frozen? ⟨P2 + 1, 0, none⟩ = false := by rw [World.frozen?_setCell]; exact f3
    have BS : But (fun q => q = P2 ∨ q = P2 + 1) W ((W.setCell ⟨P2, 0, none⟩ (.slice va k vc)).setCell ⟨P2 + 1, 0, none⟩ (.int .i64 0)) := ((But.refl _ _).setCell _ _ (.inr (.inl rfl))).setCell _ _ (.inr (.inr rfl))
    have HMK : Hid (Mk P2 Ds ((W.setCell ⟨P2, 0, none⟩ (.slice va k vc)).setCell ⟨P2 + 1, 0, none⟩ (.int .i64 0))) := ⟨hLV.mks.1, fun d hd => ⟨(hLV.mks.2 d hd).1, BS.same (hLV.mks.2 d hd).2 (fun e => by have := hSep d (.inl (.inr (.inr (.inl hd)))); omega)⟩⟩
    have HF : Hid ((fun W' => W'.cell? ⟨P2, 0, none⟩ = some (.slice va k vc) ∧ W'.cell? ⟨P2 + 1, 0, none⟩ = some (.int .i64 0) ∧ SlLL (setsOf f T) (.slice va k vc) W' ∧ Below P2 w W') ((W.setCell ⟨P2, 0, none⟩ (.slice va k vc)).setCell ⟨P2 + 1, 0, none⟩ (.int .i64 0))) := by
      refine ⟨(World.cell?_setCell_other _ _ _ _ (fun e => by cases e)).trans (World.cell?_setCell_same _ _ _ c2), World.cell?_setCell_same _ _ _ c3', (hLV.tl.keep BS (fun q hq e => by have := hnt q hq; omega) (fun q _ e => .inr fun he => by have := hSep q (.inl (.inr (.inr (.inr (.inl he))))); omega)).sl, hLV.bw.trans (BS.below hsz (fun q hq => by omega))⟩
    have HS6 : Hid ((setsOf f T).length = k) := hTll
    have HSL : Hid (∀ x ∈ setsOf f T, x.length ≤ maxI) := fun x hx => by
      unfold setsOf at hx
      rcases List.mem_cons.1 hx with rfl | hx
      · exact closF_len HFP.out _
      · obtain ⟨y, _, rfl⟩ := List.mem_map.1 hx
        exact closF_len HFP.out _
    clear hnt BS hAW hSep hLV hTV hrun hTl HTL
    gi_wp2
    refine leaves_marks_w (B := P2) (Rw := (fun W' => W'.cell? ⟨P2, 0, none⟩ = some (.slice va k vc) ∧ W'.cell? ⟨P2 + 1, 0, none⟩ = some (.int .i64 0) ∧ SlLL (setsOf f T) (.slice va k vc) W' ∧ Below P2 w W')) (fun W' hw => ⟨.tuple #[.slice va k vc, .int .i64 0], results_cells2 rfl _ _ _ (a := ⟨P2, 0, none⟩) (b := ⟨P2 + 1, 0, none⟩) rfl rfl (by simp [go_sem, loadVar, hw.1]) (by simp [go_sem, loadVar, hw.2.1]), ⟨.inl ⟨_, _, HAL.out, rfl, hw.2.2.1, by rw [HS6.out]; exact hlen, HSL.out⟩, by rw [hP2]; exact hw.2.2.2⟩⟩) (fun W' d hd hh hw => ?_) Ds _ HMK.out HF.out
    have hb := But.putObj W' d (.deferred none)
    exact ⟨(hb.cell (p := ⟨P2, 0, none⟩) (World.block_lt_of_cell? _ _ hw.1) (fun e => by simp only at e; subst e; exact not_deferred hw.1 hh)).trans hw.1, (hb.cell (p := ⟨P2 + 1, 0, none⟩) (World.block_lt_of_cell? _ _ hw.2.1) (fun e => by simp only at e; subst e; exact not_deferred hw.2.1 hh)).trans hw.2.1, hw.2.2.1.putObj hh, hw.2.2.2.trans (hb.below (by have := hw.2.2.2.size; omega) (fun q hq => by omega))⟩
  obtain ⟨K, hK⟩ : ∃ K, (begL f :: T)[k]? = some K := ⟨_, List.getElem?_eq_getElem (by rw [HM.out]; exact hlt)⟩
  obtain ⟨hKf, hKn, hKl⟩ := kern_facts HFP.out hAW.met hK
  obtain ⟨b, off, cap, ua, uc, ew, hcell, hsl⟩ := hAW.wo.row hK
  rw [HM.out] at ew
  cases ew
  have HCC := HCL.out K (.slice ua K.length uc) W (hP2 ▸ hLV.bw) hsl hKf hKn hKl
  have HK : Hid ((begL f :: T)[k]? = some K) := hK
  have HAW : Hid (AW f (P2 + 1 + 1) P2 (P2 + 1) (P2 + 1 + 1 + 1) P6 E T T (.slice (some ⟨b, off, none⟩) M wc) W) := hAW
  have HSep : Hid (SepA (P2 + 1 + 1) P2 (P2 + 1) P6 (fun k => ZL P2 (P2 + 1 + 1 + 1) Ds Et (.slice va Tl.length vc) k ∨ E k) (.slice (some ⟨b, off, none⟩) M wc) W) := hTll.symm ▸ hSep
  have HLV : Hid (LV P2 w Ds Et Tl (.slice va Tl.length vc) W) := hTll.symm ▸ hLV
  have HTV : Hid (∀ q, inB (.slice va Tl.length vc) q → P2 ≤ q ∧ q ≠ P2 + 1 + 1 + 1 ∧ ¬ E q ∧ ¬ Et q) := hTll.symm ▸ hTV
  have HRUN : Hid (allF f = runA f (601 - k) k (setsOf f T)) := hrun
  clear hAW hSep hLV hTV hrun hK hKf hKn hKl hsl hTl
  subst hTll
  gi_wp2_with fail
  refine ⟨trivial, fun _ => by omega, ?_⟩
  refine (callsIn_wide.2 HCC).mono ?_
  rintro e W2 ⟨v2, Lc, rfl, hcl, hsl2, hap2, hb2⟩
  have hLc : closF f K = Lc := closF_eq hcl
  have HLC : Hid (closF f K = Lc) := hLc
  have hLr : RisingI Lc := hcl.1
  have hLl : Lc.length ≤ maxI := by rw [← hLc]; exact closF_len HFP.out _
  obtain ⟨sa, sc, rfl, _⟩ := id hsl2
  have hwz := hb2.size
  have Bn : Below W2.heap.size W2 (W2.alloc (Obj.cells #[.slice sa Lc.length sc] 26)) := (Below.refl _ _).alloc (Nat.le_refl _) _
  have BWn : Below W.heap.size W (W2.alloc (Obj.cells #[.slice sa Lc.length sc] 26)) := hb2.trans (Bn.mono hwz)
  obtain ⟨hs, gq, gg⟩ := (HLV.out.tl.next BWn).grow (E' := fun q => Et q ∨ (W.heap.size ≤ q ∧ q < W2.heap.size)) (hsl2.next Bn) (fun q hq => .inl hq) (fun ad n c e hne => .inr (by cases e; exact ⟨hap2 ad _ _ rfl, hsl2.lt hne⟩)) (fun q hq => by
    have hlt2 : ∀ z, inB (.slice va Tl.length vc) z → z < W.heap.size := fun z hz => HLV.out.tl.inLt hz
    rw [World.size_alloc]
    rcases hq with hq | hq
    · have h1 := HSep.out q (.inl (.inr (.inr (.inr (.inl hq)))))
      exact ⟨fun h => (HTV.out q h).2.2.2 hq, by omega⟩
    · exact ⟨fun h => by have := hlt2 q h; omega, by omega⟩)
  simp only [World.size_alloc] at gq gg
  have HQ : Hid (QRow (fun q => inB (.slice va Tl.length vc) q ∨ W2.heap.size + 1 ≤ q) 1 (.slice va Tl.length vc) Tl.length hs (W2.alloc (Obj.cells #[.slice sa Lc.length sc] 26))) := gq
  have HD : Hid (∀ q, (W2.alloc (Obj.cells #[.slice sa Lc.length sc] 26)).heap.size ≤ q → inB (.slice va Tl.length vc) q ∨ W2.heap.size + 1 ≤ q) := fun q hq => .inr (by simpa using hq)
  have HNC : Hid (∀ (q : Nat) (u : Value), [Value.slice sa Lc.length sc][q]? = some u → (W2.alloc (Obj.cells #[.slice sa Lc.length sc] 26)).cell? ((⟨W2.heap.size, 0, none⟩ : Addr).add q) = some u) := by
    intro q u hq
    rcases q with _ | q
    · simp at hq; subst hq; simp [Addr.add]
    · simp at hq
  have HGG : Hid (∀ v' W3, QRow (fun q => inB (.slice va Tl.length vc) q ∨ W2.heap.size + 1 ≤ q) 1 v' (Tl.length + 1) (hs ++ [.slice sa Lc.length sc]) W3 → But (fun q => inB (.slice va Tl.length vc) q ∨ W2.heap.size + 1 ≤ q) (W2.alloc (Obj.cells #[.slice sa Lc.length sc] 26)) W3 →
      AW f (P2 + 1 + 1) P2 (P2 + 1) (P2 + 1 + 1 + 1) P6 E T T (.slice (some ⟨b, off, none⟩) M wc) W3 ∧ SepA (P2 + 1 + 1) P2 (P2 + 1) P6 (fun k => ZL P2 (P2 + 1 + 1 + 1) Ds (fun q => Et q ∨ (W.heap.size ≤ q ∧ q < W2.heap.size)) v' k ∨ E k) (.slice (some ⟨b, off, none⟩) M wc) W3 ∧ LV P2 w Ds (fun q => Et q ∨ (W.heap.size ≤ q ∧ q < W2.heap.size)) (Tl ++ [Lc]) v' W3 ∧ (∀ q, inB v' q → P2 ≤ q ∧ q ≠ P2 + 1 + 1 + 1 ∧ ¬ E q ∧ ¬ (Et q ∨ (W.heap.size ≤ q ∧ q < W2.heap.size)) ∧ q < W3.heap.size) ∧ SlL Lc (.slice sa Lc.length sc) W3 ∧ W.heap.size ≤ W3.heap.size ∧ Below wv0.heap.size wv0 W3) := fun v' W3 q1 q2 => by
    obtain ⟨r1, r2⟩ := gg v' W3 q1 q2
    have hltv : ∀ z, inB (.slice va Tl.length vc) z → z < W.heap.size := fun z hz => HLV.out.tl.inLt hz
    have hltw : ∀ z, inB (.slice (some ⟨b, off, none⟩) M wc) z → z < W.heap.size := fun z hz => HAW.out.wo.inLt hz
    have q3 : But (fun q => inB (.slice va Tl.length vc) q ∨ W.heap.size ≤ q) W W3 := (But.of_next BWn).trans (q2.mono (fun q _ hq => hq.imp id (fun h => by omega)))
    have hst : ∀ q, inB (.slice va Tl.length vc) q → ¬ inB (.slice (some ⟨b, off, none⟩) M wc) q ∧ q ≠ P2 ∧ q ≠ P2 + 1 ∧ q ≠ P6 ∧ q ≠ P2 + 1 + 1 := fun q hq => (HSep.out q (.inl (.inr (.inr (.inr (.inr hq)))))).2
    have nD : ∀ q, q < W.heap.size → ¬ inB (.slice va Tl.length vc) q → ¬ (inB (.slice va Tl.length vc) q ∨ W.heap.size ≤ q) := fun q h1 h2 h3 => by
      rcases h3 with h3 | h3
      · exact h2 h3
      · omega
    have hz3 := q3.size
    have hbw : Below P2 W W3 := q3.below (by omega) (fun q hq => by
      rcases hq with hq | hq
      · exact (HTV.out q hq).1
      · omega)
    refine ⟨HAW.out.keep q3 (nD _ (by omega) fun h => (hst _ h).2.1 rfl) (nD _ (by omega) fun h => (hst _ h).2.2.1 rfl) (nD _ (by omega) fun h => (HTV.out _ h).2.1 rfl) (nD _ (by omega) fun h => (hst _ h).2.2.2.1 rfl) (nD _ (by omega) fun h => (hst _ h).2.2.2.2 rfl) (fun q hq => nD q (hltw q hq) fun h => (hst q h).1 hq) (fun q hq hd => .inr fun he => ?_), fun q hq => ?_, ⟨r1, ⟨HLV.out.mks.1, fun d hd => ⟨(HLV.out.mks.2 d hd).1, q3.same (HLV.out.mks.2 d hd).2 (nD d (HLV.out.mks.lt d hd) fun h => ?_)⟩⟩, HLV.out.bw.trans hbw⟩, fun q hq => ?_, ?_, hz3, (HBW.out.trans ((hP2 ▸ HLV.out.bw).mono HBW.out.size)).trans (hbw.mono (by have := HBW.out.size; omega))⟩
    · rcases hd with hd | hd
      · exact (HTV.out q hd).2.2.1 he
      · omega
    · have old : (ZL P2 (P2 + 1 + 1 + 1) Ds Et (.slice va Tl.length vc) q ∨ E q) → q < W3.heap.size ∧ ¬ inB (.slice (some ⟨b, off, none⟩) M wc) q ∧ q ≠ P2 ∧ q ≠ P2 + 1 ∧ q ≠ P6 ∧ q ≠ P2 + 1 + 1 := fun h => ⟨Nat.lt_of_lt_of_le (HSep.out q h).1 hz3, (HSep.out q h).2⟩
      have new : W.heap.size ≤ q → q < W3.heap.size → q < W3.heap.size ∧ ¬ inB (.slice (some ⟨b, off, none⟩) M wc) q ∧ q ≠ P2 ∧ q ≠ P2 + 1 ∧ q ≠ P6 ∧ q ≠ P2 + 1 + 1 := fun h1 h2 => ⟨h2, fun h => by have := hltw q h; omega, by omega, by omega, by omega, by omega⟩
      have hq2 : W2.heap.size ≤ W3.heap.size := by have := q2.size; rw [World.size_alloc] at this; omega
      rcases hq with (hq | hq | hq | hq | hq) | hq
      · exact old (.inl (.inl hq))
      · exact old (.inl (.inr (.inl hq)))
      · exact old (.inl (.inr (.inr (.inl hq))))
      · rcases hq with hq | hq
        · exact old (.inl (.inr (.inr (.inr (.inl hq)))))
        · exact new hq.1 (by omega)
      · have hl3 := r1.inLt hq
        rcases r2 q hq with h | h
        · exact old (.inl (.inr (.inr (.inr (.inr h)))))
        · exact new (by omega) hl3
      · exact old (.inr hq)
    · obtain ⟨o, u, hc⟩ := HLV.out.tl.cells h
      exact not_deferred hc (HLV.out.mks.2 d hd).2
    · have hl3 := r1.inLt hq
      rcases r2 q hq with h | h
      · have h1 := HTV.out q h
        have h2 := hltv q h
        exact ⟨h1.1, h1.2.1, h1.2.2.1, fun h3 => by
          rcases h3 with h3 | h3
          · exact h1.2.2.2 h3
          · omega, hl3⟩
      · refine ⟨by omega, by omega, fun he => ?_, fun h3 => ?_, hl3⟩
        · have := (HSep.out q (.inr he)).1; omega
        · rcases h3 with h3 | h3
          · have := (HSep.out q (.inl (.inr (.inr (.inr (.inl h3)))))).1; omega
          · omega
    · refine (hsl2.next Bn).but q2 (fun ad n c e hne hd => ?_)
      cases e
      have h1 := hap2 ad _ _ rfl
      have h2 := hsl2.lt hne
      rcases hd with hd | hd
      · have := hltv _ hd; omega
      · omega
  clear gq gg hcl hsl2 hap2 hb2 Bn BWn hcell HCC hLc
  gi_wp2_with (gi_at_builtin; refine wpListIn_append_q rfl (.tmp 29) (.tmp 31) 39 rfl 26 i0 _ 1 24 Tryz.underlying39 hi0 hz0 hz1 hz2 rfl (by decide) rfl HQ.out HD.out ⟨W2.heap.size, 0, none⟩ 1 [.slice sa Lc.length sc] rfl rfl HNC.out (by simp [Value.oneCell']) (by unfold maxLen; omega) (by omega) ?_)
  intro v3 W3 hq3 hb3
  obtain ⟨qa, qc, rfl⟩ := hq3.shape
  obtain ⟨z1, z2, z3, z4, z5, z6, z7⟩ := HGG.out _ _ hq3 hb3
  have HKN := kernels_any V sa Lc.length sc W3
  have HZ : Hid (AW f (P2 + 1 + 1) P2 (P2 + 1) (P2 + 1 + 1 + 1) P6 E T T (.slice (some ⟨b, off, none⟩) M wc) W3 ∧ SepA (P2 + 1 + 1) P2 (P2 + 1) P6 (fun k => ZL P2 (P2 + 1 + 1 + 1) Ds (fun q => Et q ∨ (W.heap.size ≤ q ∧ q < W2.heap.size)) (.slice qa (Tl.length + 1) qc) k ∨ E k) (.slice (some ⟨b, off, none⟩) M wc) W3 ∧ LV P2 w Ds (fun q => Et q ∨ (W.heap.size ≤ q ∧ q < W2.heap.size)) (Tl ++ [Lc]) (.slice qa (Tl.length + 1) qc) W3 ∧ (∀ q, inB (.slice qa (Tl.length + 1) qc) q → P2 ≤ q ∧ q ≠ P2 + 1 + 1 + 1 ∧ ¬ E q ∧ ¬ (Et q ∨ (W.heap.size ≤ q ∧ q < W2.heap.size)) ∧ q < W3.heap.size) ∧ SlL Lc (.slice sa Lc.length sc) W3 ∧ Below wv0.heap.size wv0 W3) := ⟨z1, z2, z3, z4, z5, z7⟩
  have hz3 : P2 ≤ W3.heap.size := by omega
  clear z1 z2 z3 z4 z5 z6 z7 hq3 hb3 HGG HQ HD HNC HAW HSep HLV HTV c6
  gi_wp2_with fail
  refine ⟨trivial, fun _ => by omega, ?_⟩
  refine (callsIn_wide.2 HKN).mono ?_
  rintro e W4 ⟨rfl, ty1, ty2, rfl⟩
  have hb4 : Below W3.heap.size W3 ((W3.alloc (Obj.cells #[.pointer (some ⟨V, 0, none⟩)] ty1)).alloc (Obj.cells #[.slice sa Lc.length sc] ty2)) := ((Below.refl _ _).alloc (Nat.le_refl _) _).alloc (by simp) _
  have k1 : ((W3.alloc (Obj.cells #[.pointer (some ⟨V, 0, none⟩)] ty1)).alloc (Obj.cells #[.slice sa Lc.length sc] ty2)).cell? ⟨W3.heap.size, 0, none⟩ = some (.pointer (some ⟨V, 0, none⟩)) := (((Below.refl _ (W3.alloc (Obj.cells #[.pointer (some ⟨V, 0, none⟩)] ty1))).alloc (Nat.le_refl _) _).cell (p := ⟨W3.heap.size, 0, none⟩) (IBox _ _ W3).2.2).trans (IBox _ _ W3).1
  have k2 := (IBox (.slice sa Lc.length sc) ty2 (W3.alloc (Obj.cells #[.pointer (some ⟨V, 0, none⟩)] ty1))).1
  rw [World.size_alloc] at k2
  have HK4 : Hid (_ ∧ _ ∧ _) := And.intro k1 (And.intro k2 hb4)
  have hs4 := hb4.size
  clear k1 k2 hb4 HKN
  generalize ((W3.alloc (Obj.cells #[.pointer (some ⟨V, 0, none⟩)] ty1)).alloc (Obj.cells #[.slice sa Lc.length sc] ty2)) = W4 at *
  have HRS : Hid (∀ T', rowK (kernsL f Lc) T = T' → allF f = T'.bind fun T' => runA f (600 - Tl.length) (Tl.length + 1) (setsOf f T')) := fun T' h => by
    rw [HRUN.out, run_step HFP.out HZ.out.1.met HZ.out.1.len (by omega) HK.out, HLC.out, h]
  gi_wp2
  refine all_range n (by omega) f ⟨ta, tc, na, nc, pa, pc⟩ Le R V Lc sa sc W3.heap.size (W3.heap.size + 1) wv0 P2 (P2 + 1 + 1) P2 (P2 + 1) (P2 + 1 + 1 + 1) P6 Ds (fun q => Et q ∨ (W.heap.size ≤ q ∧ q < W2.heap.size)) E (Tl ++ [Lc]) T (.slice qa (Tl.length + 1) qc) (.slice (some ⟨b, off, none⟩) M wc) w W4 HRG.out.1 HRG.out.2 (HZ.out.2.2.2.2.2.trans (HK4.out.2.2.mono HZ.out.2.2.2.2.2.size)) HFP.out HK4.out.1 HK4.out.2.1 (HZ.out.2.2.2.2.1.next HK4.out.2.2) hLr hLl hord (HZ.out.1.next HK4.out.2.2) (fun q hq => ⟨Nat.lt_of_lt_of_le (HZ.out.2.1 q hq).1 hs4, (HZ.out.2.1 q hq).2⟩) (HZ.out.2.2.1.keep (P5 := P2 + 1 + 1 + 1) hz3 (D := fun _ => False) (But.of_next HK4.out.2.2) (fun _ _ h => h)) (Nat.le_refl _) ?_ ?_
  · intro T' wv' E' W' hrk hE' hsw hA' hS' hL'
    obtain ⟨m1, m2, m3, m4⟩ := rowK_met (f := f) (kernsL f Lc) T T' (kernsL_kern hLr) HZ.out.1.met HZ.out.1.nodup HZ.out.1.len hrk
    have HAI : Hid (AI f w (P2 + 1 + 1) P2 (P2 + 1) (P2 + 1 + 1 + 1) P6 (W4.heap.size :: Ds) (Tl.length + 1) T' (.slice qa (Tl.length + 1) qc) wv' E' (fun q => Et q ∨ (W.heap.size ≤ q ∧ q < W2.heap.size)) W') := by
      unfold AI
      rw [hP2]
      refine ⟨by rw [HRS.out _ hrk, Option.bind_some, show 601 - (Tl.length + 1) = 600 - Tl.length by omega], by have := m4.length_le; omega, hA', hS', ?_, fun q hq => ?_⟩
      · rw [take_prefix_eq m4 (by omega), take_map_succ HK.out, HTL.out, HLC.out]
        exact hL'
      · have h1 := HZ.out.2.2.2.1 q hq
        refine ⟨h1.1, h1.2.1, fun he => ?_, h1.2.2.2.1⟩
        rcases hE' q he with h | h
        · exact h1.2.2.1 h
        · omega
    clear m1 m2 m3 m4 hrk hE' hsw hA' hS' hL' HZ HK4 HRS
    gi_wp2
    exact ⟨601 - (Tl.length + 1), by omega, _, _, _, _, _, _, _, _, _, _, _, _, _, _, _, _, _, _, _, _, _, _, _, _, _, _, _, _, _, _, _, _, _, _, _, _, _, _, _, _, _, W4.heap.size :: Ds, Tl.length + 1, T', _, wv', E', _, rfl, rfl, HAI.out⟩
  · rintro W' ⟨x1, x2, x3, x4, x5⟩
    have HAL : Hid (allF f = none) := by
      show _ = _
      rw [HRS.out _ x1]; rfl
    have HF : Hid ((fun W' => W'.cell? ⟨P2, 0, none⟩ = some (.slice none 0 0) ∧ W'.cell? ⟨P2 + 1, 0, none⟩ = some (.int .i64 15) ∧ True ∧ Below P2 w W') W' ∧ Mk P2 (W4.heap.size :: Ds) W') := ⟨⟨x2, x3, trivial, x5⟩, x4⟩
    clear x1 x2 x3 x4 x5 HZ HK4 HRS
    gi_wp2
    refine leaves_marks_w (B := P2) (Rw := (fun W' => W'.cell? ⟨P2, 0, none⟩ = some (.slice none 0 0) ∧ W'.cell? ⟨P2 + 1, 0, none⟩ = some (.int .i64 15) ∧ True ∧ Below P2 w W')) (fun W' hw => ⟨.tuple #[.slice none 0 0, .int .i64 15], results_cells2 rfl _ _ _ (a := ⟨P2, 0, none⟩) (b := ⟨P2 + 1, 0, none⟩) rfl rfl (by simp [go_sem, loadVar, hw.1]) (by simp [go_sem, loadVar, hw.2.1]), ⟨.inr ⟨HAL.out, rfl⟩, by rw [hP2]; exact hw.2.2.2⟩⟩) (fun W' d hd hh hw => ?_) (W4.heap.size :: Ds) _ HF.out.2 HF.out.1
    have hb := But.putObj W' d (.deferred none)
    exact ⟨(hb.cell (p := ⟨P2, 0, none⟩) (World.block_lt_of_cell? _ _ hw.1) (fun e => by simp only at e; subst e; exact not_deferred hw.1 hh)).trans hw.1, (hb.cell (p := ⟨P2 + 1, 0, none⟩) (World.block_lt_of_cell? _ _ hw.2.1) (fun e => by simp only at e; subst e; exact not_deferred hw.2.1 hh)).trans hw.2.1, trivial, hw.2.2.2.trans (hb.below (by have := hw.2.2.2.size; omega) (fun q hq => by omega))⟩
end Go.Proofs.YtlaplmmicccbcaaGreatDoor
/- All of the program. -/
namespace Go.Proofs.YtlaplmmicccbcaaGreatDoor
open Go.RowKit

set_option maxRecDepth 100000 in
set_option maxHeartbeats 1600000 in
theorem allP_any (f : Fl) (a : FlA) (w : World) (hf : FlAt f a w) (hb : fitB f = true) (hT : Tb w) :
    Calls Tryz.prog 21 #[a.val f] w fun e w' => Alls f w e w' := by
  have hp := fit_facts hb
  have hF := fun W (hw : Below w.heap.size w W) => flatFit_any f a W (hf.next hw) hb
  have hV := fun W (hw : Below w.heap.size w W) => iview_any f a W (hf.next hw) hp (hT.next hw)
  have HA : Hid (∀ V Le R W1, Below w.heap.size w W1 → VwAt f a V Le R W1 → FE f R Le → Calls Tryz.prog 43 #[.pointer (some ⟨V, 0, none⟩)] W1 fun e w' => Alls f W1 e w') := fun V Le R W1 h1 hv hfe => callsIn_wide.1 (all_in 6 (by omega) f a Le R V W1 W1 hv (hf.next h1) hfe (Below.refl _ _) hp)
  obtain ⟨ta, tc, na, nc, pa, pc⟩ := a
  have X0 := FBox.new f ⟨ta, tc, na, nc, pa, pc⟩ 25 w
  have B0 : Below w.heap.size w (w.alloc (fobj f ⟨ta, tc, na, nc, pa, pc⟩ 25)) := (Below.refl _ _).alloc (Nat.le_refl _) _
  unfold fobj at X0 B0
  unfold FlA.val at hF hV ⊢
  simp only at *
  have HF : Hid (∀ W, Below w.heap.size w W → Calls Tryz.prog 41 #[.agg #[.slice ta f.terms.length tc, .slice na f.nons.length nc, .slice pa f.prods.length pc]] W fun e w' => e = .returned (.bool true) ∧ Below W.heap.size W w') := hF
  have HV : Hid (∀ W, Below w.heap.size w W → Calls Tryz.prog 42 #[.agg #[.slice ta f.terms.length tc, .slice na f.nons.length nc, .slice pa f.prods.length pc]] W fun e w' => Viewed f ⟨ta, tc, na, nc, pa, pc⟩ W e w') := hV
  clear hF hV hf hT
  obtain ⟨x0, x1, x2⟩ := X0.2
  have hxl := X0.1
  simp only at x0 x1 x2
  go_enter Tryz.func21, Tryz.ntmps21
  go_wp2_with fail
  generalize w.alloc (Obj.cells #[.slice ta f.terms.length tc, .slice na f.nons.length nc, .slice pa f.prods.length pc] 25) = w0 at *
  refine (HF.out _ B0).mono ?_
  rintro e w1 ⟨rfl, b1⟩
  have B1 : Below w.heap.size w w1 := B0.trans (b1.mono B0.size)
  have y0 := (b1.cell (p := ⟨w.heap.size, 0, none⟩) hxl).trans x0
  have y1 := (b1.cell (p := ⟨w.heap.size, 1, none⟩) hxl).trans x1
  have y2 := (b1.cell (p := ⟨w.heap.size, 2, none⟩) hxl).trans x2
  clear x0 x1 x2
  go_wp2_with fail
  refine (HV.out _ B1).mono ?_
  rintro e w2 ⟨V, Le, R, rfl, hvl, hgb, hgr, hvw, b2⟩
  have B2 : Below w.heap.size w w2 := B1.trans (b2.mono B1.size)
  have HCC := HA.out V Le R w2 B2 hvw ⟨hgr, hgb⟩
  clear hgb hgr hvw HA HV HF X0
  go_wp2_with fail
  refine HCC.mono ?_
  rintro e w3 ⟨h1, h2⟩
  have B3 : Below w.heap.size w w3 := B2.trans (h2.mono B2.size)
  rcases h1 with ⟨v', R', k1, rfl, k2, k3, k4⟩ | ⟨k1, rfl⟩
  · have HR : Hid (allF f = some R' ∧ SlLL R' v' w3 ∧ R'.length ≤ 600 ∧ ∀ x ∈ R', x.length ≤ maxI) := ⟨k1, k2, k3, k4⟩
    clear k1 k2 k3 k4 HCC
    go_wp2_with fail
    go_ret2
    exact ⟨.inl ⟨v', R', HR.out.1, rfl, HR.out.2⟩, B3⟩
  · have HR : Hid (allF f = none) := k1
    clear k1 HCC
    go_wp2_with fail
    go_ret2
    exact ⟨.inr ⟨HR.out, rfl⟩, B3⟩
end Go.Proofs.YtlaplmmicccbcaaGreatDoor
/- awake: chapter 11's example, by what the program's functions tell. -/
namespace Go.Proofs.YtlaplmmicccbcaaGreatDoor
open Go.RowKit

def lE0 : List Ir := [(-1, 0, 2), (0, 0, 2), (1, 0, 2)]
theorem slE0 (W : World) (t : TypeId) : SlL lE0 (.slice (some ⟨W.heap.size, 0, none⟩) 3 3) (W.alloc (Obj.cells #[.int .i64 (-1), .int .i64 0, .int .i64 2, .int .i64 0, .int .i64 0, .int .i64 2, .int .i64 1, .int .i64 0, .int .i64 2] t)) := by
  refine SlL.of (l := lE0) (fun i x hi => ⟨W.heap.size, 0, rfl, by simp, ?_⟩) (fun h => by cases h) (by simp [lE0])
  match i, hi with
  | 0, hi => simp [lE0] at hi; subst hi; exact ⟨by simp, by simp, by simp, by unfold okR i64B; simp⟩
  | 1, hi => simp [lE0] at hi; subst hi; exact ⟨by simp, by simp, by simp, by unfold okR i64B; simp⟩
  | 2, hi => simp [lE0] at hi; subst hi; exact ⟨by simp, by simp, by simp, by unfold okR i64B; simp⟩
  | i + 3, hi => simp [lE0] at hi

set_option maxRecDepth 100000 in
set_option maxHeartbeats 4000000 in
theorem awake11_any (w : World) (hT : Tb w) : Calls Tryz.prog 9 #[] w fun e w' => e = .returned (.bool true) ∧ Below w.heap.size w w' := by
  have hFL := flE w
  have HB5 : Hid (Below w.heap.size w (wE5 w)) := ((((below_new w _).alloc (by simp) _).alloc (by simp; omega) _).alloc (by simp; omega) _).alloc (by simp; omega) _
  unfold wE5 wE4 wE3 wE2 wE1 bx at hFL HB5
  have B6 := HB5.out.alloc HB5.out.size (Obj.cells #[.slice (some ⟨w.heap.size, 0, none⟩) 2 2, .slice (some ⟨w.heap.size + 1, 0, none⟩) 1 1, .slice (some ⟨w.heap.size + 1 + 1 + 1 + 1, 0, none⟩) 2 2] 25)
  have HALL := allP_any fE (aE w.heap.size) ((((((w.alloc (Obj.cells #[.string ⟨#[120]⟩, .string ⟨#[121]⟩] 9)).alloc (Obj.cells #[.string ⟨#[97]⟩] 9)).alloc (Obj.cells #[.int .i64 0, .string ⟨#[]⟩, .string ⟨#[]⟩, .int .i64 2, .string ⟨#[]⟩, .string ⟨#[]⟩] 56)).alloc (Obj.cells #[.int .i64 1, .string ⟨#[]⟩, .string ⟨#[]⟩] 56)).alloc (Obj.cells #[.int .i64 2, .slice (some ⟨w.heap.size + 1 + 1, 0, none⟩) 2 2, .int .i64 0, .int .i64 2, .slice (some ⟨w.heap.size + 1 + 1 + 1, 0, none⟩) 1 1, .int .i64 0] 54)).alloc (Obj.cells #[.slice (some ⟨w.heap.size, 0, none⟩) 2 2, .slice (some ⟨w.heap.size + 1, 0, none⟩) 1 1, .slice (some ⟨w.heap.size + 1 + 1 + 1 + 1, 0, none⟩) 2 2] 25)) (hFL.next (below_new _ _)) fitB_E (hT.next B6)
  have X0 := FBox.new fE (aE w.heap.size) 25 (((((w.alloc (Obj.cells #[.string ⟨#[120]⟩, .string ⟨#[121]⟩] 9)).alloc (Obj.cells #[.string ⟨#[97]⟩] 9)).alloc (Obj.cells #[.int .i64 0, .string ⟨#[]⟩, .string ⟨#[]⟩, .int .i64 2, .string ⟨#[]⟩, .string ⟨#[]⟩] 56)).alloc (Obj.cells #[.int .i64 1, .string ⟨#[]⟩, .string ⟨#[]⟩] 56)).alloc (Obj.cells #[.int .i64 2, .slice (some ⟨w.heap.size + 1 + 1, 0, none⟩) 2 2, .int .i64 0, .int .i64 2, .slice (some ⟨w.heap.size + 1 + 1 + 1, 0, none⟩) 1 1, .int .i64 0] 54))
  have hz5 : (((((w.alloc (Obj.cells #[.string ⟨#[120]⟩, .string ⟨#[121]⟩] 9)).alloc (Obj.cells #[.string ⟨#[97]⟩] 9)).alloc (Obj.cells #[.int .i64 0, .string ⟨#[]⟩, .string ⟨#[]⟩, .int .i64 2, .string ⟨#[]⟩, .string ⟨#[]⟩] 56)).alloc (Obj.cells #[.int .i64 1, .string ⟨#[]⟩, .string ⟨#[]⟩] 56)).alloc (Obj.cells #[.int .i64 2, .slice (some ⟨w.heap.size + 1 + 1, 0, none⟩) 2 2, .int .i64 0, .int .i64 2, .slice (some ⟨w.heap.size + 1 + 1 + 1, 0, none⟩) 1 1, .int .i64 0] 54)).heap.size = w.heap.size + 1 + 1 + 1 + 1 + 1 := by simp
  rw [hz5] at X0
  have HF1 : Hid (∀ W, Below w.heap.size w W → FlAt fE (aE w.heap.size) W → Calls Tryz.prog 19 #[(aE w.heap.size).val fE] W fun e w' => Closed1 fE (begL fE) W e w') := fun W hb hf => firstP_any fE _ W hf fitB_E (hT.next hb)
  have HG1 : Hid (∀ (l : List Ir) (v : Value) W, Below w.heap.size w W → FlAt fE (aE w.heap.size) W → SlL l v W → l.length ≤ maxI → Calls Tryz.prog 17 #[(aE w.heap.size).val fE, v, .int .i64 2] W fun e w' => Closed1 fE (movedL fE l 2) W e w') := fun l v W hb hf hl hll => gotoP_any fE _ l v 2 W hf fitB_E (hT.next hb) hl (by unfold maxI at hll; omega)
  have HFL : Hid (∀ W, Below ((((((w.alloc (Obj.cells #[.string ⟨#[120]⟩, .string ⟨#[121]⟩] 9)).alloc (Obj.cells #[.string ⟨#[97]⟩] 9)).alloc (Obj.cells #[.int .i64 0, .string ⟨#[]⟩, .string ⟨#[]⟩, .int .i64 2, .string ⟨#[]⟩, .string ⟨#[]⟩] 56)).alloc (Obj.cells #[.int .i64 1, .string ⟨#[]⟩, .string ⟨#[]⟩] 56)).alloc (Obj.cells #[.int .i64 2, .slice (some ⟨w.heap.size + 1 + 1, 0, none⟩) 2 2, .int .i64 0, .int .i64 2, .slice (some ⟨w.heap.size + 1 + 1 + 1, 0, none⟩) 1 1, .int .i64 0] 54)).alloc (Obj.cells #[.slice (some ⟨w.heap.size, 0, none⟩) 2 2, .slice (some ⟨w.heap.size + 1, 0, none⟩) 1 1, .slice (some ⟨w.heap.size + 1 + 1 + 1 + 1, 0, none⟩) 2 2] 25)).heap.size ((((((w.alloc (Obj.cells #[.string ⟨#[120]⟩, .string ⟨#[121]⟩] 9)).alloc (Obj.cells #[.string ⟨#[97]⟩] 9)).alloc (Obj.cells #[.int .i64 0, .string ⟨#[]⟩, .string ⟨#[]⟩, .int .i64 2, .string ⟨#[]⟩, .string ⟨#[]⟩] 56)).alloc (Obj.cells #[.int .i64 1, .string ⟨#[]⟩, .string ⟨#[]⟩] 56)).alloc (Obj.cells #[.int .i64 2, .slice (some ⟨w.heap.size + 1 + 1, 0, none⟩) 2 2, .int .i64 0, .int .i64 2, .slice (some ⟨w.heap.size + 1 + 1 + 1, 0, none⟩) 1 1, .int .i64 0] 54)).alloc (Obj.cells #[.slice (some ⟨w.heap.size, 0, none⟩) 2 2, .slice (some ⟨w.heap.size + 1, 0, none⟩) 1 1, .slice (some ⟨w.heap.size + 1 + 1 + 1 + 1, 0, none⟩) 2 2] 25)) W → FlAt fE (aE w.heap.size) W) := fun W hb => (hFL.next (below_new _ _)).next hb
  unfold fobj at X0
  have HA2 : Hid (Calls Tryz.prog 21 #[.agg #[.slice (some ⟨w.heap.size, 0, none⟩) 2 2, .slice (some ⟨w.heap.size + 1, 0, none⟩) 1 1, .slice (some ⟨w.heap.size + 1 + 1 + 1 + 1, 0, none⟩) 2 2]] ((((((w.alloc (Obj.cells #[.string ⟨#[120]⟩, .string ⟨#[121]⟩] 9)).alloc (Obj.cells #[.string ⟨#[97]⟩] 9)).alloc (Obj.cells #[.int .i64 0, .string ⟨#[]⟩, .string ⟨#[]⟩, .int .i64 2, .string ⟨#[]⟩, .string ⟨#[]⟩] 56)).alloc (Obj.cells #[.int .i64 1, .string ⟨#[]⟩, .string ⟨#[]⟩] 56)).alloc (Obj.cells #[.int .i64 2, .slice (some ⟨w.heap.size + 1 + 1, 0, none⟩) 2 2, .int .i64 0, .int .i64 2, .slice (some ⟨w.heap.size + 1 + 1 + 1, 0, none⟩) 1 1, .int .i64 0] 54)).alloc (Obj.cells #[.slice (some ⟨w.heap.size, 0, none⟩) 2 2, .slice (some ⟨w.heap.size + 1, 0, none⟩) 1 1, .slice (some ⟨w.heap.size + 1 + 1 + 1 + 1, 0, none⟩) 2 2] 25)) fun e w' => Alls fE ((((((w.alloc (Obj.cells #[.string ⟨#[120]⟩, .string ⟨#[121]⟩] 9)).alloc (Obj.cells #[.string ⟨#[97]⟩] 9)).alloc (Obj.cells #[.int .i64 0, .string ⟨#[]⟩, .string ⟨#[]⟩, .int .i64 2, .string ⟨#[]⟩, .string ⟨#[]⟩] 56)).alloc (Obj.cells #[.int .i64 1, .string ⟨#[]⟩, .string ⟨#[]⟩] 56)).alloc (Obj.cells #[.int .i64 2, .slice (some ⟨w.heap.size + 1 + 1, 0, none⟩) 2 2, .int .i64 0, .int .i64 2, .slice (some ⟨w.heap.size + 1 + 1 + 1, 0, none⟩) 1 1, .int .i64 0] 54)).alloc (Obj.cells #[.slice (some ⟨w.heap.size, 0, none⟩) 2 2, .slice (some ⟨w.heap.size + 1, 0, none⟩) 1 1, .slice (some ⟨w.heap.size + 1 + 1 + 1 + 1, 0, none⟩) 2 2] 25)) e w') := HALL
  have HF2 : Hid (∀ W, Below w.heap.size w W → FlAt fE (aE w.heap.size) W → Calls Tryz.prog 19 #[.agg #[.slice (some ⟨w.heap.size, 0, none⟩) 2 2, .slice (some ⟨w.heap.size + 1, 0, none⟩) 1 1, .slice (some ⟨w.heap.size + 1 + 1 + 1 + 1, 0, none⟩) 2 2]] W fun e w' => Closed1 fE (begL fE) W e w') := HF1
  have HG2 : Hid (∀ (l : List Ir) (v : Value) W, Below w.heap.size w W → FlAt fE (aE w.heap.size) W → SlL l v W → l.length ≤ maxI → Calls Tryz.prog 17 #[.agg #[.slice (some ⟨w.heap.size, 0, none⟩) 2 2, .slice (some ⟨w.heap.size + 1, 0, none⟩) 1 1, .slice (some ⟨w.heap.size + 1 + 1 + 1 + 1, 0, none⟩) 2 2], v, .int .i64 2] W fun e w' => Closed1 fE (movedL fE l 2) W e w') := HG1
  have XX : Hid (∀ W, Below ((((((w.alloc (Obj.cells #[.string ⟨#[120]⟩, .string ⟨#[121]⟩] 9)).alloc (Obj.cells #[.string ⟨#[97]⟩] 9)).alloc (Obj.cells #[.int .i64 0, .string ⟨#[]⟩, .string ⟨#[]⟩, .int .i64 2, .string ⟨#[]⟩, .string ⟨#[]⟩] 56)).alloc (Obj.cells #[.int .i64 1, .string ⟨#[]⟩, .string ⟨#[]⟩] 56)).alloc (Obj.cells #[.int .i64 2, .slice (some ⟨w.heap.size + 1 + 1, 0, none⟩) 2 2, .int .i64 0, .int .i64 2, .slice (some ⟨w.heap.size + 1 + 1 + 1, 0, none⟩) 1 1, .int .i64 0] 54)).alloc (Obj.cells #[.slice (some ⟨w.heap.size, 0, none⟩) 2 2, .slice (some ⟨w.heap.size + 1, 0, none⟩) 1 1, .slice (some ⟨w.heap.size + 1 + 1 + 1 + 1, 0, none⟩) 2 2] 25)).heap.size ((((((w.alloc (Obj.cells #[.string ⟨#[120]⟩, .string ⟨#[121]⟩] 9)).alloc (Obj.cells #[.string ⟨#[97]⟩] 9)).alloc (Obj.cells #[.int .i64 0, .string ⟨#[]⟩, .string ⟨#[]⟩, .int .i64 2, .string ⟨#[]⟩, .string ⟨#[]⟩] 56)).alloc (Obj.cells #[.int .i64 1, .string ⟨#[]⟩, .string ⟨#[]⟩] 56)).alloc (Obj.cells #[.int .i64 2, .slice (some ⟨w.heap.size + 1 + 1, 0, none⟩) 2 2, .int .i64 0, .int .i64 2, .slice (some ⟨w.heap.size + 1 + 1 + 1, 0, none⟩) 1 1, .int .i64 0] 54)).alloc (Obj.cells #[.slice (some ⟨w.heap.size, 0, none⟩) 2 2, .slice (some ⟨w.heap.size + 1, 0, none⟩) 1 1, .slice (some ⟨w.heap.size + 1 + 1 + 1 + 1, 0, none⟩) 2 2] 25)) W → W.cell? ⟨w.heap.size + 1 + 1 + 1 + 1 + 1, 0, none⟩ = some (.slice (some ⟨w.heap.size, 0, none⟩) 2 2) ∧ W.cell? ⟨w.heap.size + 1 + 1 + 1 + 1 + 1, 1, none⟩ = some (.slice (some ⟨w.heap.size + 1, 0, none⟩) 1 1) ∧ W.cell? ⟨w.heap.size + 1 + 1 + 1 + 1 + 1, 2, none⟩ = some (.slice (some ⟨w.heap.size + 1 + 1 + 1 + 1, 0, none⟩) 2 2)) := fun W hb => ((show FBox fE (aE w.heap.size) (w.heap.size + 1 + 1 + 1 + 1 + 1) ((((((w.alloc (Obj.cells #[.string ⟨#[120]⟩, .string ⟨#[121]⟩] 9)).alloc (Obj.cells #[.string ⟨#[97]⟩] 9)).alloc (Obj.cells #[.int .i64 0, .string ⟨#[]⟩, .string ⟨#[]⟩, .int .i64 2, .string ⟨#[]⟩, .string ⟨#[]⟩] 56)).alloc (Obj.cells #[.int .i64 1, .string ⟨#[]⟩, .string ⟨#[]⟩] 56)).alloc (Obj.cells #[.int .i64 2, .slice (some ⟨w.heap.size + 1 + 1, 0, none⟩) 2 2, .int .i64 0, .int .i64 2, .slice (some ⟨w.heap.size + 1 + 1 + 1, 0, none⟩) 1 1, .int .i64 0] 54)).alloc (Obj.cells #[.slice (some ⟨w.heap.size, 0, none⟩) 2 2, .slice (some ⟨w.heap.size + 1, 0, none⟩) 1 1, .slice (some ⟨w.heap.size + 1 + 1 + 1 + 1, 0, none⟩) 2 2] 25)) from X0).next hb).2
  clear hFL hT X0 HB5 HALL HF1 HG1
  go_enter Tryz.func9, Tryz.ntmps9
  go_wp2_with fail
  refine HA2.out.mono ?_
  generalize (((((w.alloc (Obj.cells #[.string ⟨#[120]⟩, .string ⟨#[121]⟩] 9)).alloc (Obj.cells #[.string ⟨#[97]⟩] 9)).alloc (Obj.cells #[.int .i64 0, .string ⟨#[]⟩, .string ⟨#[]⟩, .int .i64 2, .string ⟨#[]⟩, .string ⟨#[]⟩] 56)).alloc (Obj.cells #[.int .i64 1, .string ⟨#[]⟩, .string ⟨#[]⟩] 56)).alloc (Obj.cells #[.int .i64 2, .slice (some ⟨w.heap.size + 1 + 1, 0, none⟩) 2 2, .int .i64 0, .int .i64 2, .slice (some ⟨w.heap.size + 1 + 1 + 1, 0, none⟩) 1 1, .int .i64 0] 54)).alloc (Obj.cells #[.slice (some ⟨w.heap.size, 0, none⟩) 2 2, .slice (some ⟨w.heap.size + 1, 0, none⟩) 1 1, .slice (some ⟨w.heap.size + 1 + 1 + 1 + 1, 0, none⟩) 2 2] 25) = w6 at *
  rintro e W2 ⟨h1, h2⟩
  rcases h1 with ⟨v', R', k1, rfl, k2, _, _⟩ | ⟨k1, _⟩
  case inr => rw [allE] at k1; cases k1
  rw [allE] at k1
  obtain rfl := Option.some.inj k1
  obtain ⟨ao, cap, rfl, hI, _, _⟩ := k2
  obtain ⟨lb, lo, u, el, hlb, c0, hsl⟩ := hI 0 (closF fE (begL fE)) rfl
  cases el
  obtain ⟨ua, uc, rfl, _⟩ := id hsl
  have B2 : Below w.heap.size w W2 := B6.trans (h2.mono B6.size)
  have HFW : Hid (∀ W, Below W2.heap.size W2 W → FlAt fE (aE w.heap.size) W) := fun W hb => HFL.out W (h2.trans (hb.mono h2.size))
  have HSL : Hid (∀ W, Below W2.heap.size W2 W → SlL (closF fE (begL fE)) (.slice ua (closF fE (begL fE)).length uc) W) := fun W hb => hsl.next hb
  have HBW : Hid (∀ W, Below W2.heap.size W2 W → Below w.heap.size w W) := fun W hb => B2.trans (hb.mono B2.size)
  have HLL : Hid ((closF fE (begL fE)).length ≤ maxI) := closF_len fit_E _
  obtain ⟨n0, hn0⟩ : ∃ n0, w.heap.size = n0 := ⟨_, rfl⟩
  obtain ⟨F, hF⟩ : ∃ F, n0 + 1 + 1 + 1 + 1 + 1 = F := ⟨_, rfl⟩
  have HSS : Hid (∀ W, Below W2.heap.size W2 W → (W.cell? ⟨F, 0, none⟩ = some (.slice (some ⟨n0, 0, none⟩) 2 2) ∧ W.cell? ⟨F, 1, none⟩ = some (.slice (some ⟨n0 + 1, 0, none⟩) 1 1) ∧ W.cell? ⟨F, 2, none⟩ = some (.slice (some ⟨n0 + 1 + 1 + 1 + 1, 0, none⟩) 2 2) ∧ W.cell? ⟨lb, lo, none⟩ = some (.slice ua (closF fE (begL fE)).length uc) ∧ Below W2.heap.size W2 W)) := fun W hb => by
    obtain ⟨x0, x1, x2⟩ := XX.out W (h2.trans (hb.mono h2.size))
    rw [hn0] at x0 x1 x2
    rw [hF] at x0 x1 x2
    simp only [Nat.add_zero] at c0
    exact ⟨x0, x1, x2, (hb.cell (p := ⟨lb, lo, none⟩) hlb).trans c0, hb⟩
  have hl5 : (setsOf fE kE).length = 5 := rfl
  have h50 : (setsOf fE kE)[0]? = some (closF fE (begL fE)) := rfl
  generalize setsOf fE kE = SE at *
  rw [hn0] at HF2 HG2 HFW HBW
  have hS0 := HSS.out _ (Below.refl _ W2).drew
  clear XX HA2 HFL h2 k1 hI c0 hsl B6 B2 hz5 h50
  go_wp2_with fail
  refine wp_region_L (fun W => W.cell? ⟨F, 0, none⟩ = some (.slice (some ⟨n0, 0, none⟩) 2 2) ∧ W.cell? ⟨F, 1, none⟩ = some (.slice (some ⟨n0 + 1, 0, none⟩) 1 1) ∧ W.cell? ⟨F, 2, none⟩ = some (.slice (some ⟨n0 + 1 + 1 + 1 + 1, 0, none⟩) 2 2) ∧ W.cell? ⟨lb, lo, none⟩ = some (.slice ua (closF fE (begL fE)).length uc) ∧ Below W2.heap.size W2 W) 26 (by kernel_rfl) 26 rfl ?_
  refine tk (i := 0) (v := ?_) (oi := ⟨some 20, .load 25 (.tmp 1), 25, "law.go:132", #[], none⟩) hS0 ?_ ?_
  rotate_left
  · intro W hSW
    go_simp
    try with_reducible rfl
  simp only [Act.put, sA, s0, sS]
  refine tk (i := 2) (v := ?_) (oi := ⟨some 22, .build 30 #[(0, .const (.int .i64 (-1))), (2, .const (.int .i64 2))], 30, "law.go:132", #[], none⟩) hS0 ?_ ?_
  rotate_left
  · intro W hSW
    go_simp
    try with_reducible rfl
  simp only [Act.put, sA, s0, sS]
  refine tk (i := 3) (v := ?_) (oi := ⟨some 23, .build 30 #[(0, .const (.int .i64 0)), (2, .const (.int .i64 2))], 30, "law.go:132", #[], none⟩) hS0 ?_ ?_
  rotate_left
  · intro W hSW
    go_simp
    try with_reducible rfl
  simp only [Act.put, sA, s0, sS]
  refine tk (i := 4) (v := ?_) (oi := ⟨some 24, .build 30 #[(0, .const (.int .i64 1)), (2, .const (.int .i64 2))], 30, "law.go:132", #[], none⟩) hS0 ?_ ?_
  rotate_left
  · intro W hSW
    go_simp
    try with_reducible rfl
  simp only [Act.put, sA, s0, sS]
  refine wpAnyL_two (i := 1) (j := 5) (oi := ⟨some 21, .call ⟨.value (.func 19), #[.tmp 20], #[25]⟩, 26, "law.go:132", #[⟨0, .data⟩], none⟩) (oj := ⟨some 25, .buildSlice 26 3 #[(0, .tmp 22), (1, .tmp 23), (2, .tmp 24)], 26, "law.go:132", #[⟨2, .data⟩, ⟨3, .data⟩, ⟨4, .data⟩], none⟩) (by kernel_rfl) rfl rfl rfl rfl (fun K hK => ?_) (fun K hK => ?_)
  · go_simp
    refine (HF2.out _ (HBW.out _ (Below.refl W2.heap.size W2).drew) (HFW.out _ (Below.refl W2.heap.size W2).drew)).mono ?_
    rintro e W3 ⟨v3, L3, rfl, q1, q2, q3, q4⟩
    have B3 : Below W2.heap.size W2 W3 := ((Below.refl W2.heap.size W2).drew).trans (q4.mono ((Below.refl W2.heap.size W2).drew).size)
    have hS3 := HSS.out _ B3
    have hL3 : L3 = lE0 := (closF_eq q1).symm.trans begE
    subst hL3
    refine hK.out _ _ (fun _ => hS3) ?_
    clear hK q1 q3 q4
    refine wpAnyL_one' (i := 5) (o := ⟨some 25, .buildSlice 26 3 #[(0, .tmp 22), (1, .tmp 23), (2, .tmp 24)], 26, "law.go:132", #[⟨2, .data⟩, ⟨3, .data⟩, ⟨4, .data⟩], none⟩) (by kernel_rfl) rfl rfl (fun K hK => ?_)
    go_simp
    have B4 : Below W2.heap.size W2 (W3.alloc (Obj.cells #[.int .i64 (-1), .int .i64 0, .int .i64 2, .int .i64 0, .int .i64 0, .int .i64 2, .int .i64 1, .int .i64 0, .int .i64 2] 30)) := B3.alloc B3.size _
    have hS4 := HSS.out _ B4
    have HQE : Hid (SlL lE0 (.slice (some ⟨W3.heap.size, 0, none⟩) 3 3) (W3.alloc (Obj.cells #[.int .i64 (-1), .int .i64 0, .int .i64 2, .int .i64 0, .int .i64 0, .int .i64 2, .int .i64 1, .int .i64 0, .int .i64 2] 30))) := slE0 W3 _
    have HQ3 : Hid (SlL lE0 v3 (W3.alloc (Obj.cells #[.int .i64 (-1), .int .i64 0, .int .i64 2, .int .i64 0, .int .i64 0, .int .i64 2, .int .i64 1, .int .i64 0, .int .i64 2] 30))) := q2.next (below_new _ _)
    refine hK.out _ _ (fun _ => hS4) ?_
    clear hK q2
    generalize W3.alloc (Obj.cells #[.int .i64 (-1), .int .i64 0, .int .i64 2, .int .i64 0, .int .i64 0, .int .i64 2, .int .i64 1, .int .i64 0, .int .i64 2] 30) = W4 at *
    generalize W3.heap.size = YB at *
    have hsame : Calls Tryz.prog 14 #[v3, .slice (some ⟨YB, 0, none⟩) 3 3] W4 fun e w' => e = .returned (.bool true) ∧ ∃ m, w' = W4.drewN m := by
      have := rsame_any lE0 lE0 _ _ W4 HQ3.out HQE.out (by simp [lE0]) (by simp [lE0])
      simpa using this
    refine wpAnyL_one' (i := 6) (o := ⟨some 26, .call ⟨.value (.func 14), #[.tmp 21, .tmp 25], #[26, 26]⟩, 4, "law.go:132", #[⟨1, .data⟩, ⟨5, .data⟩, ⟨1, .chain⟩], none⟩) (by kernel_rfl) rfl rfl (fun K hK => ?_)
    go_simp
    refine hsame.mono ?_
    rintro e W5 ⟨rfl, dm, rfl⟩
    have B5 : Below W2.heap.size W2 (W4.drewN dm) := below_drewN B4 dm
    have hS5 := HSS.out _ B5
    refine hK.out _ _ (fun _ => hS5) ?_
    clear hK hsame
    refine tk (i := 7) (v := ?_) (oi := ⟨some 27, .move (.tmp 26), 4, "law.go:132", #[⟨6, .data⟩, ⟨6, .chain⟩], none⟩) hS5 ?_ ?_
    rotate_left
    · intro W hSW
      go_simp
      try with_reducible rfl
    simp only [Act.put, sA, s0, sS]
    refine tk (i := 8) (v := ?_) (oi := ⟨some 28, .move (.tmp 2), 39, "law.go:132", #[⟨7, .guard⟩], some (7, true)⟩) hS5 ?_ ?_
    rotate_left
    · intro W hSW
      go_simp
      try with_reducible rfl
    simp only [Act.put, sA, s0, sS]
    refine tk (i := 9) (v := ?_) (oi := ⟨some 29, .call ⟨.builtin .len, #[.tmp 28], #[39]⟩, 3, "law.go:132", #[⟨8, .data⟩, ⟨7, .guard⟩], some (7, true)⟩) hS5 ?_ ?_
    rotate_left
    · intro W hSW
      go_simp
      try with_reducible rfl
    simp only [Act.put, sA, s0, sS]
    refine tk (i := 10) (v := ?_) (oi := ⟨some 30, .binOp .eql 3 (.tmp 29) (.const (.int .i64 5)) 3, 4, "law.go:132", #[⟨9, .data⟩, ⟨7, .guard⟩], some (7, true)⟩) hS5 ?_ ?_
    rotate_left
    · intro W hSW
      go_simp
      try with_reducible rfl
    simp only [Act.put, sA, s0, sS]
    refine tk (i := 11) (v := ?_) (oi := ⟨some 31, .pick (.tmp 27) (.tmp 30) (.const (.bool false)), 4, "law.go:132", #[⟨7, .data⟩, ⟨10, .data⟩], none⟩) hS5 ?_ ?_
    rotate_left
    · intro W hSW
      go_simp
      try with_reducible rfl
    simp only [Act.put, sA, s0, sS]
    refine tk (i := 12) (v := ?_) (oi := ⟨some 32, .move (.tmp 31), 4, "law.go:132", #[⟨11, .data⟩, ⟨7, .chain⟩], none⟩) hS5 ?_ ?_
    rotate_left
    · intro W hSW
      go_simp
      try with_reducible rfl
    simp only [Act.put, sA, s0, sS]
    refine tk (i := 13) (v := ?_) (oi := ⟨some 33, .move (.tmp 3), 40, "law.go:132", #[⟨12, .guard⟩], some (12, true)⟩) hS5 ?_ ?_
    rotate_left
    · intro W hSW
      go_simp
      try with_reducible rfl
    simp only [Act.put, sA, s0, sS]
    refine tk (i := 14) (v := ?_) (oi := ⟨some 34, .binOp .eql 40 (.tmp 33) (.const (.int .i64 0)) 40, 4, "law.go:132", #[⟨13, .data⟩, ⟨12, .guard⟩], some (12, true)⟩) hS5 ?_ ?_
    rotate_left
    · intro W hSW
      go_simp
      try with_reducible rfl
    simp only [Act.put, sA, s0, sS]
    refine tk (i := 15) (v := ?_) (oi := ⟨some 35, .pick (.tmp 32) (.tmp 34) (.const (.bool false)), 4, "law.go:132", #[⟨12, .data⟩, ⟨14, .data⟩], none⟩) hS5 ?_ ?_
    rotate_left
    · intro W hSW
      go_simp
      try with_reducible rfl
    simp only [Act.put, sA, s0, sS]
    refine tk (i := 16) (v := ?_) (oi := ⟨some 36, .move (.tmp 35), 4, "law.go:132", #[⟨15, .data⟩, ⟨12, .chain⟩], none⟩) hS5 ?_ ?_
    rotate_left
    · intro W hSW
      go_simp
      try with_reducible rfl
    simp only [Act.put, sA, s0, sS]
    refine tk (i := 17) (v := ?_) (oi := ⟨some 37, .load 25 (.tmp 1), 25, "law.go:132", #[⟨16, .guard⟩], some (16, true)⟩) hS5 ?_ ?_
    rotate_left
    · intro W hSW
      go_simp
      try with_reducible rfl
    simp only [Act.put, sA, s0, sS]
    refine tk (i := 18) (v := ?_) (oi := ⟨some 38, .move (.tmp 2), 39, "law.go:132", #[⟨16, .guard⟩], some (16, true)⟩) hS5 ?_ ?_
    rotate_left
    · intro W hSW
      go_simp
      try with_reducible rfl
    simp only [Act.put, sA, s0, sS]
    refine tk (i := 19) (v := ?_) (oi := ⟨some 39, .indexAddr 39 (.tmp 38) (.const (.int .i64 0)), 0, "law.go:132", #[⟨18, .data⟩, ⟨16, .guard⟩], some (16, true)⟩) hS5 ?_ ?_
    rotate_left
    · intro W hSW
      go_simp
      try with_reducible rfl
    simp only [Act.put, sA, s0, sS]
    refine tk (i := 20) (v := ?_) (oi := ⟨some 40, .load 26 (.tmp 39), 26, "law.go:132", #[⟨19, .data⟩, ⟨16, .guard⟩], some (16, true)⟩) hS5 ?_ ?_
    rotate_left
    · intro W hSW
      go_simp
      try with_reducible rfl
    simp only [Act.put, sA, s0, sS]
    refine wpAnyL_one' (i := 21) (o := ⟨some 41, .call ⟨.value (.func 17), #[.tmp 37, .tmp 40, .const (.int .i64 2)], #[25, 26, 3]⟩, 26, "law.go:132", #[⟨17, .data⟩, ⟨20, .data⟩, ⟨16, .chain⟩, ⟨16, .guard⟩], some (16, true)⟩) (by kernel_rfl) rfl rfl (fun K hK => ?_)
    rw [if_pos (by rfl)]
    go_simp
    refine (HG2.out _ _ _ (HBW.out _ B5) (HFW.out _ B5) (HSL.out _ B5) HLL.out).mono ?_
    rintro e W6 ⟨v6, L6, rfl, q1, q2, q3, q4⟩
    have B6 : Below W2.heap.size W2 W6 := B5.trans (q4.mono B5.size)
    have hS6 := HSS.out _ B6
    have hL6 : L6 = [(-1, 1, 2)] := (closF_eq q1).symm.trans gotoE
    subst hL6
    obtain ⟨sa, sc, rfl, _⟩ := id q2
    have HBF := HBW.out _ B6
    refine hK.out _ _ (fun _ => hS6) ?_
    clear hK q1 q2 q3 q4
    refine tk (i := 22) (v := ?_) (oi := ⟨some 42, .call ⟨.builtin .len, #[.tmp 41], #[26]⟩, 3, "law.go:132", #[⟨21, .data⟩, ⟨16, .guard⟩], some (16, true)⟩) hS6 ?_ ?_
    rotate_left
    · intro W hSW
      go_simp
      try with_reducible rfl
    simp only [Act.put, sA, s0, sS]
    refine tk (i := 23) (v := ?_) (oi := ⟨some 43, .binOp .eql 3 (.tmp 42) (.const (.int .i64 1)) 3, 4, "law.go:132", #[⟨22, .data⟩, ⟨16, .guard⟩], some (16, true)⟩) hS6 ?_ ?_
    rotate_left
    · intro W hSW
      go_simp
      try with_reducible rfl
    simp only [Act.put, sA, s0, sS]
    refine tk (i := 24) (v := ?_) (oi := ⟨some 44, .pick (.tmp 36) (.tmp 43) (.const (.bool false)), 4, "law.go:132", #[⟨16, .data⟩, ⟨23, .data⟩], none⟩) hS6 ?_ ?_
    rotate_left
    · intro W hSW
      go_simp
      try with_reducible rfl
    simp only [Act.put, sA, s0, sS]
    refine tk (i := 25) (v := ?_) (oi := ⟨some 0, .assign (.tmp 44), 4, "law.go:132", #[⟨24, .data⟩, ⟨21, .chain⟩, ⟨0, .phase⟩, ⟨1, .phase⟩, ⟨2, .phase⟩, ⟨3, .phase⟩, ⟨4, .phase⟩, ⟨5, .phase⟩, ⟨6, .phase⟩, ⟨7, .phase⟩, ⟨8, .phase⟩, ⟨9, .phase⟩, ⟨10, .phase⟩, ⟨11, .phase⟩, ⟨12, .phase⟩, ⟨13, .phase⟩, ⟨14, .phase⟩, ⟨15, .phase⟩, ⟨16, .phase⟩, ⟨17, .phase⟩, ⟨18, .phase⟩, ⟨19, .phase⟩, ⟨20, .phase⟩, ⟨21, .phase⟩, ⟨22, .phase⟩, ⟨23, .phase⟩, ⟨24, .phase⟩], none⟩) hS6 ?_ ?_
    rotate_left
    · intro W hSW
      go_simp
      try with_reducible rfl
    simp only [Act.put, sA, s0]
    refine wpAnyL_done (by kernel_rfl) ?_ _
    go_wp2_with fail
    go_ret
    exact ⟨rfl, by rw [hn0]; exact HBF⟩
  · go_simp
    have B3' : Below W2.heap.size W2 ((W2.alloc (Obj.cells #[.int .i64 (-1), .int .i64 0, .int .i64 2, .int .i64 0, .int .i64 0, .int .i64 2, .int .i64 1, .int .i64 0, .int .i64 2] 30)).drew) := ((Below.refl _ _).alloc (Nat.le_refl _) _).drew
    have hS3' := HSS.out _ B3'
    have HQE' : Hid (SlL lE0 (.slice (some ⟨W2.heap.size, 0, none⟩) 3 3) ((W2.alloc (Obj.cells #[.int .i64 (-1), .int .i64 0, .int .i64 2, .int .i64 0, .int .i64 0, .int .i64 2, .int .i64 1, .int .i64 0, .int .i64 2] 30)).drew)) := (slE0 W2 _).next (Below.refl _ _).drew
    refine hK.out _ _ (fun _ => hS3') ?_
    clear hK
    generalize (W2.alloc (Obj.cells #[.int .i64 (-1), .int .i64 0, .int .i64 2, .int .i64 0, .int .i64 0, .int .i64 2, .int .i64 1, .int .i64 0, .int .i64 2] 30)).drew = Wa at *
    refine wpAnyL_one' (i := 1) (o := ⟨some 21, .call ⟨.value (.func 19), #[.tmp 20], #[25]⟩, 26, "law.go:132", #[⟨0, .data⟩], none⟩) (by kernel_rfl) rfl rfl (fun K hK => ?_)
    go_simp
    refine (HF2.out _ (HBW.out _ B3') (HFW.out _ B3')).mono ?_
    rintro e W3 ⟨v3, L3, rfl, q1, q2, q3, q4⟩
    have B3 : Below W2.heap.size W2 W3 := (B3').trans (q4.mono (B3').size)
    have hS3 := HSS.out _ B3
    have hL3 : L3 = lE0 := (closF_eq q1).symm.trans begE
    subst hL3
    have HQE : Hid (SlL lE0 (.slice (some ⟨W2.heap.size, 0, none⟩) 3 3) W3) := HQE'.out.next q4
    have HQ3 : Hid (SlL lE0 v3 W3) := q2
    refine hK.out _ _ (fun _ => hS3) ?_
    clear hK q1 q2 q3 q4 HQE' hS3'
    have B4 := B3
    have hS4 := hS3
    have hsame : Calls Tryz.prog 14 #[v3, .slice (some ⟨W2.heap.size, 0, none⟩) 3 3] W3 fun e w' => e = .returned (.bool true) ∧ ∃ m, w' = W3.drewN m := by
      have := rsame_any lE0 lE0 _ _ W3 HQ3.out HQE.out (by simp [lE0]) (by simp [lE0])
      simpa using this
    refine wpAnyL_one' (i := 6) (o := ⟨some 26, .call ⟨.value (.func 14), #[.tmp 21, .tmp 25], #[26, 26]⟩, 4, "law.go:132", #[⟨1, .data⟩, ⟨5, .data⟩, ⟨1, .chain⟩], none⟩) (by kernel_rfl) rfl rfl (fun K hK => ?_)
    go_simp
    refine hsame.mono ?_
    rintro e W5 ⟨rfl, dm, rfl⟩
    have B5 : Below W2.heap.size W2 (W3.drewN dm) := below_drewN B4 dm
    have hS5 := HSS.out _ B5
    refine hK.out _ _ (fun _ => hS5) ?_
    clear hK hsame
    refine tk (i := 7) (v := ?_) (oi := ⟨some 27, .move (.tmp 26), 4, "law.go:132", #[⟨6, .data⟩, ⟨6, .chain⟩], none⟩) hS5 ?_ ?_
    rotate_left
    · intro W hSW
      go_simp
      try with_reducible rfl
    simp only [Act.put, sA, s0, sS]
    refine tk (i := 8) (v := ?_) (oi := ⟨some 28, .move (.tmp 2), 39, "law.go:132", #[⟨7, .guard⟩], some (7, true)⟩) hS5 ?_ ?_
    rotate_left
    · intro W hSW
      go_simp
      try with_reducible rfl
    simp only [Act.put, sA, s0, sS]
    refine tk (i := 9) (v := ?_) (oi := ⟨some 29, .call ⟨.builtin .len, #[.tmp 28], #[39]⟩, 3, "law.go:132", #[⟨8, .data⟩, ⟨7, .guard⟩], some (7, true)⟩) hS5 ?_ ?_
    rotate_left
    · intro W hSW
      go_simp
      try with_reducible rfl
    simp only [Act.put, sA, s0, sS]
    refine tk (i := 10) (v := ?_) (oi := ⟨some 30, .binOp .eql 3 (.tmp 29) (.const (.int .i64 5)) 3, 4, "law.go:132", #[⟨9, .data⟩, ⟨7, .guard⟩], some (7, true)⟩) hS5 ?_ ?_
    rotate_left
    · intro W hSW
      go_simp
      try with_reducible rfl
    simp only [Act.put, sA, s0, sS]
    refine tk (i := 11) (v := ?_) (oi := ⟨some 31, .pick (.tmp 27) (.tmp 30) (.const (.bool false)), 4, "law.go:132", #[⟨7, .data⟩, ⟨10, .data⟩], none⟩) hS5 ?_ ?_
    rotate_left
    · intro W hSW
      go_simp
      try with_reducible rfl
    simp only [Act.put, sA, s0, sS]
    refine tk (i := 12) (v := ?_) (oi := ⟨some 32, .move (.tmp 31), 4, "law.go:132", #[⟨11, .data⟩, ⟨7, .chain⟩], none⟩) hS5 ?_ ?_
    rotate_left
    · intro W hSW
      go_simp
      try with_reducible rfl
    simp only [Act.put, sA, s0, sS]
    refine tk (i := 13) (v := ?_) (oi := ⟨some 33, .move (.tmp 3), 40, "law.go:132", #[⟨12, .guard⟩], some (12, true)⟩) hS5 ?_ ?_
    rotate_left
    · intro W hSW
      go_simp
      try with_reducible rfl
    simp only [Act.put, sA, s0, sS]
    refine tk (i := 14) (v := ?_) (oi := ⟨some 34, .binOp .eql 40 (.tmp 33) (.const (.int .i64 0)) 40, 4, "law.go:132", #[⟨13, .data⟩, ⟨12, .guard⟩], some (12, true)⟩) hS5 ?_ ?_
    rotate_left
    · intro W hSW
      go_simp
      try with_reducible rfl
    simp only [Act.put, sA, s0, sS]
    refine tk (i := 15) (v := ?_) (oi := ⟨some 35, .pick (.tmp 32) (.tmp 34) (.const (.bool false)), 4, "law.go:132", #[⟨12, .data⟩, ⟨14, .data⟩], none⟩) hS5 ?_ ?_
    rotate_left
    · intro W hSW
      go_simp
      try with_reducible rfl
    simp only [Act.put, sA, s0, sS]
    refine tk (i := 16) (v := ?_) (oi := ⟨some 36, .move (.tmp 35), 4, "law.go:132", #[⟨15, .data⟩, ⟨12, .chain⟩], none⟩) hS5 ?_ ?_
    rotate_left
    · intro W hSW
      go_simp
      try with_reducible rfl
    simp only [Act.put, sA, s0, sS]
    refine tk (i := 17) (v := ?_) (oi := ⟨some 37, .load 25 (.tmp 1), 25, "law.go:132", #[⟨16, .guard⟩], some (16, true)⟩) hS5 ?_ ?_
    rotate_left
    · intro W hSW
      go_simp
      try with_reducible rfl
    simp only [Act.put, sA, s0, sS]
    refine tk (i := 18) (v := ?_) (oi := ⟨some 38, .move (.tmp 2), 39, "law.go:132", #[⟨16, .guard⟩], some (16, true)⟩) hS5 ?_ ?_
    rotate_left
    · intro W hSW
      go_simp
      try with_reducible rfl
    simp only [Act.put, sA, s0, sS]
    refine tk (i := 19) (v := ?_) (oi := ⟨some 39, .indexAddr 39 (.tmp 38) (.const (.int .i64 0)), 0, "law.go:132", #[⟨18, .data⟩, ⟨16, .guard⟩], some (16, true)⟩) hS5 ?_ ?_
    rotate_left
    · intro W hSW
      go_simp
      try with_reducible rfl
    simp only [Act.put, sA, s0, sS]
    refine tk (i := 20) (v := ?_) (oi := ⟨some 40, .load 26 (.tmp 39), 26, "law.go:132", #[⟨19, .data⟩, ⟨16, .guard⟩], some (16, true)⟩) hS5 ?_ ?_
    rotate_left
    · intro W hSW
      go_simp
      try with_reducible rfl
    simp only [Act.put, sA, s0, sS]
    refine wpAnyL_one' (i := 21) (o := ⟨some 41, .call ⟨.value (.func 17), #[.tmp 37, .tmp 40, .const (.int .i64 2)], #[25, 26, 3]⟩, 26, "law.go:132", #[⟨17, .data⟩, ⟨20, .data⟩, ⟨16, .chain⟩, ⟨16, .guard⟩], some (16, true)⟩) (by kernel_rfl) rfl rfl (fun K hK => ?_)
    rw [if_pos (by rfl)]
    go_simp
    refine (HG2.out _ _ _ (HBW.out _ B5) (HFW.out _ B5) (HSL.out _ B5) HLL.out).mono ?_
    rintro e W6 ⟨v6, L6, rfl, q1, q2, q3, q4⟩
    have B6 : Below W2.heap.size W2 W6 := B5.trans (q4.mono B5.size)
    have hS6 := HSS.out _ B6
    have hL6 : L6 = [(-1, 1, 2)] := (closF_eq q1).symm.trans gotoE
    subst hL6
    obtain ⟨sa, sc, rfl, _⟩ := id q2
    have HBF := HBW.out _ B6
    refine hK.out _ _ (fun _ => hS6) ?_
    clear hK q1 q2 q3 q4
    refine tk (i := 22) (v := ?_) (oi := ⟨some 42, .call ⟨.builtin .len, #[.tmp 41], #[26]⟩, 3, "law.go:132", #[⟨21, .data⟩, ⟨16, .guard⟩], some (16, true)⟩) hS6 ?_ ?_
    rotate_left
    · intro W hSW
      go_simp
      try with_reducible rfl
    simp only [Act.put, sA, s0, sS]
    refine tk (i := 23) (v := ?_) (oi := ⟨some 43, .binOp .eql 3 (.tmp 42) (.const (.int .i64 1)) 3, 4, "law.go:132", #[⟨22, .data⟩, ⟨16, .guard⟩], some (16, true)⟩) hS6 ?_ ?_
    rotate_left
    · intro W hSW
      go_simp
      try with_reducible rfl
    simp only [Act.put, sA, s0, sS]
    refine tk (i := 24) (v := ?_) (oi := ⟨some 44, .pick (.tmp 36) (.tmp 43) (.const (.bool false)), 4, "law.go:132", #[⟨16, .data⟩, ⟨23, .data⟩], none⟩) hS6 ?_ ?_
    rotate_left
    · intro W hSW
      go_simp
      try with_reducible rfl
    simp only [Act.put, sA, s0, sS]
    refine tk (i := 25) (v := ?_) (oi := ⟨some 0, .assign (.tmp 44), 4, "law.go:132", #[⟨24, .data⟩, ⟨21, .chain⟩, ⟨0, .phase⟩, ⟨1, .phase⟩, ⟨2, .phase⟩, ⟨3, .phase⟩, ⟨4, .phase⟩, ⟨5, .phase⟩, ⟨6, .phase⟩, ⟨7, .phase⟩, ⟨8, .phase⟩, ⟨9, .phase⟩, ⟨10, .phase⟩, ⟨11, .phase⟩, ⟨12, .phase⟩, ⟨13, .phase⟩, ⟨14, .phase⟩, ⟨15, .phase⟩, ⟨16, .phase⟩, ⟨17, .phase⟩, ⟨18, .phase⟩, ⟨19, .phase⟩, ⟨20, .phase⟩, ⟨21, .phase⟩, ⟨22, .phase⟩, ⟨23, .phase⟩, ⟨24, .phase⟩], none⟩) hS6 ?_ ?_
    rotate_left
    · intro W hSW
      go_simp
      try with_reducible rfl
    simp only [Act.put, sA, s0]
    refine wpAnyL_done (by kernel_rfl) ?_ _
    go_wp2_with fail
    go_ret
    exact ⟨rfl, by rw [hn0]; exact HBF⟩
end Go.Proofs.YtlaplmmicccbcaaGreatDoor
/- The law's own small functions: items, few. -/
namespace Go.Proofs.YtlaplmmicccbcaaGreatDoor
open Go.RowKit

set_option maxRecDepth 100000 in
set_option maxHeartbeats 800000 in
theorem items_any (f : Fl) (a : FlA) (w : World) (hf : FlAt f a w) (hl : f.prods.length ≤ 1000) :
    Calls Tryz.prog 29 #[a.val f] w fun e w' => ∃ z, e = .returned (.int .i64 z) ∧ Below w.heap.size w w' := by
  obtain ⟨ta, tc, na, nc, pa, pc⟩ := a
  have X0 := FBox.new f ⟨ta, tc, na, nc, pa, pc⟩ 25 w
  have B0 : Below w.heap.size w (w.alloc (fobj f ⟨ta, tc, na, nc, pa, pc⟩ 25)) := (Below.refl _ _).alloc (Nat.le_refl _) _
  obtain ⟨h0, h1, h2, h3, h4, h5, h6, h7⟩ := hf
  unfold fobj at X0 B0
  unfold FlA.val
  simp only at *
  clear h0 h1
  go_enter Tryz.func29, Tryz.ntmps29
  go_wp2_with fail
  generalize w.alloc (Obj.cells #[Value.slice ta f.terms.length tc, Value.slice na f.nons.length nc, Value.slice pa f.prods.length pc] 25) = w0 at *
  have HP : Hid (∀ W, Below w0.heap.size w0 W → PrsAt f.prods pa W) := fun W hb => (h2.next B0).next hb
  have HB : Hid (∀ W, Below w0.heap.size w0 W → Below w.heap.size w W) := fun W hb => below_then B0 hb B0.size
  obtain ⟨x1, d0, d1, d2⟩ := id X0
  simp only at d0 d1 d2
  clear X0 B0 h2
  go_wp2_with fail
  go_loopw [3, 9] (fun nv i wr => ∃ (j : Nat) (z : Int), nv = .int .i64 z ∧ i = .int .i64 j ∧ j ≤ f.prods.length ∧ Below w0.heap.size w0 wr) (fun _ i _ => f.prods.length - (intOf i).toNat)
  case atStart => exact ⟨0, 0, rfl, rfl, Nat.zero_le _, Below.refl _ _⟩
  case round =>
    obtain ⟨j, z, rfl, rfl, hj, B1⟩ := hrel
    have hsz := B1.size
    by_cases hlt : j < f.prods.length
    · obtain ⟨b, off, v, rfl, _, c0, c1, c2, hv, _⟩ := (HP.out _ B1).at (Below.refl _ _) hlt
      generalize f.prods[j] = p at *
      obtain ⟨va, vc, rfl, _⟩ := hv
      have B2 : Below w0.heap.size w0 (wr.alloc (Obj.cells #[.int .i64 p.left, .slice va p.right.length vc, .int .i64 p.prec] 54)) := B1.alloc hsz _
      obtain ⟨z2, hz2⟩ : ∃ z2, wrap64 (z + (p.right.length : Int)) = z2 := ⟨_, rfl⟩
      go_wp2_with fail
      exact ⟨⟨j + 1, _, rfl, by go_num, by omega, B2⟩, by simp [intOf]; omega⟩
    · go_wp2_with fail
      go_ret
      exact ⟨_, rfl, HB.out _ B1⟩

def Few1 (f : Fl) (w : World) (e : Ending) (w' : World) : Prop := ∃ b, e = .returned (.bool b) ∧ (b = true → fitB f = true ∧ f.n ≤ 16 ∧ f.prods.length ≤ 16) ∧ Below w.heap.size w w'
set_option maxRecDepth 100000 in
set_option maxHeartbeats 1600000 in
theorem few11_any (f : Fl) (a : FlA) (w : World) (hf : FlAt f a w) :
    Calls Tryz.prog 8 #[a.val f] w fun e w' => Few1 f w e w' := by
  have hL := fun W (hb : Below w.heap.size w W) => light_any f a W (hf.next hb)
  have hF := fun W (hb : Below w.heap.size w W) => fit_any f a W (hf.next hb)
  have hI := fun W (hb : Below w.heap.size w W) => items_any f a W (hf.next hb)
  obtain ⟨ta, tc, na, nc, pa, pc⟩ := a
  have X0 := FBox.new f ⟨ta, tc, na, nc, pa, pc⟩ 25 w
  obtain ⟨h0, h1, h2, h3, h4, h5, h6, h7⟩ := hf
  clear h0 h1 h2
  have B0 : Below w.heap.size w (w.alloc (fobj f ⟨ta, tc, na, nc, pa, pc⟩ 25)) := (Below.refl _ _).alloc (Nat.le_refl _) _
  unfold fobj at X0 B0
  unfold FlA.val at hL hF hI ⊢
  simp only at *
  have HL : Hid (∀ W, Below w.heap.size w W → Calls Tryz.prog 27 #[.agg #[.slice ta f.terms.length tc, .slice na f.nons.length nc, .slice pa f.prods.length pc]] W fun e w' => e = .returned (.bool (lightB f)) ∧ Below W.heap.size W w') := hL
  have HF : Hid (∀ W, Below w.heap.size w W → Calls Tryz.prog 28 #[.agg #[.slice ta f.terms.length tc, .slice na f.nons.length nc, .slice pa f.prods.length pc]] W fun e w' => e = .returned (.bool (fitB f)) ∧ Below W.heap.size W w') := hF
  have HI : Hid (∀ W, Below w.heap.size w W → f.prods.length ≤ 1000 → Calls Tryz.prog 29 #[.agg #[.slice ta f.terms.length tc, .slice na f.nons.length nc, .slice pa f.prods.length pc]] W fun e w' => ∃ z, e = .returned (.int .i64 z) ∧ Below W.heap.size W w') := hI
  clear hL hF hI
  go_enter Tryz.func8, Tryz.ntmps8
  go_wp2_with fail
  refine (HL.out _ B0).mono ?_
  rintro e w1 ⟨rfl, hb1⟩
  have X1 := X0.next hb1
  have B1 := below_then B0 hb1 B0.size
  clear X0 B0 HL hb1
  obtain ⟨x1, d0, d1, d2⟩ := id X1
  simp only at d0 d1 d2
  cases hl : lightB f with
  | false =>
    clear hl HF HI
    go_wp2_with fail
    go_ret
    exact ⟨false, rfl, (fun h => by cases h), B1⟩
  | true =>
  go_wp2_with fail
  refine (HF.out _ B1).mono ?_
  rintro e w2 ⟨rfl, hb2⟩
  have X2 := X1.next hb2
  have B2 := below_then B1 hb2 B1.size
  clear X1 B1 HF hb2 x1 d0 d1 d2
  obtain ⟨x1, d0, d1, d2⟩ := id X2
  simp only at d0 d1 d2
  cases ht : fitB f with
  | false =>
    clear hl ht HI
    go_wp2_with fail
    go_ret
    exact ⟨false, rfl, (fun h => by cases h), B2⟩
  | true =>
  have HFT : Hid (fitB f = true) := ht
  clear hl ht
  by_cases z1 : f.terms.length + f.nons.length ≤ 16
  · by_cases z2 : f.prods.length ≤ 16
    · have HCI := HI.out _ B2 (by omega)
      have y1 : decide ((f.terms.length : Int) + f.nons.length ≤ 16) = true := decide_eq_true (by omega)
      have y2 : decide ((f.prods.length : Int) ≤ 16) = true := decide_eq_true (by omega)
      have y3 : (f.terms.length : Int) + f.nons.length ≤ 16 := by omega
      clear HI
      go_wp2_with fail
      refine HCI.mono ?_
      rintro e w3 ⟨z, rfl, hb3⟩
      have B3 := below_then B2 hb3 B2.size
      clear HCI hb3
      go_wp2_with fail
      go_ret
      exact ⟨_, rfl, fun _ => ⟨HFT.out, z1, z2⟩, B3⟩
    · have y2 : decide ((f.prods.length : Int) ≤ 16) = false := decide_eq_false (by omega)
      have y1 : decide ((f.terms.length : Int) + f.nons.length ≤ 16) = true := decide_eq_true (by omega)
      have y3 : (f.terms.length : Int) + f.nons.length ≤ 16 := by omega
      have y4 : ¬ (f.prods.length : Int) ≤ 16 := by omega
      clear HI
      go_wp2_with fail
      go_ret
      exact ⟨false, rfl, (fun h => by cases h), B2⟩
  · have y1 : decide ((f.terms.length : Int) + f.nons.length ≤ 16) = false := decide_eq_false (by omega)
    have y3 : ¬ (f.terms.length : Int) + f.nons.length ≤ 16 := by omega
    clear HI
    go_wp2_with fail
    go_ret
    exact ⟨false, rfl, (fun h => by cases h), B2⟩
end Go.Proofs.YtlaplmmicccbcaaGreatDoor
/- Prefixes: from the first set one comes on by a row's symbols. Lists. -/
namespace Go.Proofs.YtlaplmmicccbcaaGreatDoor

/-- What derives anything can be empty, or something begins it. -/
theorem use_emp_or_fst {f : Fl} {s : Nat} (h : Der (fun s => s < f.terms.length) f.gr s) : EmpP f s ∨ ∃ t, FstP f s t := by
  induction h with
  | base h => exact .inr ⟨_, .term h⟩
  | @prod l r hm _ ih =>
    have key : ∀ (pre post : List Nat), pre ++ post = r → (∀ y ∈ pre, EmpP f y) → (∀ y ∈ post, EmpP f y ∨ ∃ t, FstP f y t) → EmpP f l ∨ ∃ t, FstP f l t := by
      intro pre post
      induction post generalizing pre with
      | nil =>
        intro e he _
        rw [List.append_nil] at e
        subst e
        exact .inl (.prod hm he)
      | cons x post ih2 =>
        intro e he hp
        rcases hp x (by simp) with hx | ⟨t, hx⟩
        · refine ih2 (pre ++ [x]) (by simpa using e) (fun y hy => ?_) (fun y hy => hp y (by simp [hy]))
          rcases List.mem_append.1 hy with hy | hy
          · exact he y hy
          · simp at hy; subst hy; exact hx
        · exact .inr ⟨t, .prod (e ▸ hm) he hx⟩
    exact key [] r rfl (by simp) ih
theorem look_exists {f : Fl} (hp : FitP f) (hU : ∀ s, s < f.n → Der (fun s => s < f.terms.length) f.gr s) (x : Ir) : ∃ t, LookP f x t := by
  unfold LookP
  have key : ∀ l : List Nat, (∀ s ∈ l, s < f.n) → ∃ t, Beg (EmpP f) (FstP f) (fun t => t = x.2.2) l t := by
    intro l
    induction l with
    | nil => intro _; exact ⟨x.2.2, .behind rfl⟩
    | cons s l ih =>
      intro h
      rcases use_emp_or_fst (hU s (h s (by simp))) with he | ⟨t, ht⟩
      · obtain ⟨t, ht⟩ := ih (fun y hy => h y (by simp [hy]))
        exact ⟨t, .next he ht⟩
      · exact ⟨t, .here ht⟩
  exact key _ (behI_lt hp)
/-- Where one comes to. -/
noncomputable def stF (f : Fl) (r : List Int) : List Ir := r.foldl (fun l s => gotoF f l s) (closF f (begL f))
theorem stF_snoc (f : Fl) (r : List Int) (s : Int) : stF f (r ++ [s]) = gotoF f (stF f r) s := by
  unfold stF
  rw [List.foldl_append]
  rfl
theorem stF_clos {f : Fl} (hp : FitP f) (r : List Int) : ∃ S, ClosI f S (stF f r) := by
  rcases List.eq_nil_or_concat r with rfl | ⟨r', s, rfl⟩
  · exact ⟨_, closF_spec hp _⟩
  · rw [List.concat_eq_append, stF_snoc]
    exact ⟨_, closF_spec hp _⟩
theorem stF_step {f : Fl} (hp : FitP f) {r : List Int} {x : Ir} {s : Int} (hx : x ∈ stF f r) (hn : nextI f x = some s) : (x.1, x.2.1 + 1, x.2.2) ∈ stF f (r ++ [s]) := by
  rw [stF_snoc]
  unfold gotoF
  rw [(closF_spec hp _).2]
  exact .base (mem_movedL.2 ⟨x, hx, hn, rfl⟩) (moved_fit hn)
theorem stF_ne {f : Fl} (hp : FitP f) {r : List Int} {x : Ir} {s : Int} (hx : x ∈ stF f r) (hn : nextI f x = some s) : stF f (r ++ [s]) ≠ [] := fun e => by
  have := stF_step hp hx hn
  rw [e] at this; cases this
/-- A row by which one comes on. -/
def Path (f : Fl) (row : List Int) : Prop := ∀ k, (h : k < row.length) → ∃ x, x ∈ stF f (row.take k) ∧ nextI f x = some row[k]
theorem path_start {f : Fl} (hp : FitP f) : Path f [(f.terms.length : Int)] := by
  intro k hk
  simp at hk
  subst hk
  refine ⟨(-1, 0, f.terms.length), ?_, ?_⟩
  · show _ ∈ closF f (begL f)
    rw [(closF_spec hp _).2]
    exact .base (by simp [begL]) (begL_fit _ (by simp [begL]))
  · unfold nextI
    rw [if_pos (begL_fit _ (by simp [begL])), rightI_neg (by omega)]
    rfl
theorem path_right {f : Fl} (hp : FitP f) {r : List Int} {q : Nat} {p : Pr} {t : Int} (hq : f.prods[q]? = some p) (h0 : ((q : Int), (0 : Int), t) ∈ stF f r) : ∀ j, j ≤ p.right.length → ((q : Int), (j : Int), t) ∈ stF f (r ++ (p.right.map (·.sym)).take j)
  | 0, _ => by simpa using h0
  | j + 1, hj => by
    have ih := path_right hp hq h0 j (by omega)
    obtain ⟨S, hS⟩ := stF_clos hp (r ++ (p.right.map (·.sym)).take j)
    have hf := cl_fit ((hS.2 _).1 ih)
    have hn : nextI f ((q : Int), (j : Int), t) = some p.right[j].sym := by
      unfold nextI
      rw [if_pos hf]
      simp only [rightI_nat hq, Int.toNat_natCast]
      rw [List.getElem?_eq_getElem (by omega)]
      rfl
    have h1 := stF_step hp ih hn
    have e : (p.right.map (·.sym)).take (j + 1) = (p.right.map (·.sym)).take j ++ [p.right[j].sym] := by
      rw [List.take_succ_eq_append_getElem (by rw [List.length_map]; omega), List.getElem_map]
    rw [e, ← List.append_assoc]
    simpa using h1
theorem path_step {f : Fl} (hp : FitP f) (hU : ∀ s, s < f.n → Der (fun s => s < f.terms.length) f.gr s) {row : List Int} (h : Path f row) {at' : Nat} (ha : at' < row.length) {q : Nat} {p : Pr} (hq : f.prods[q]? = some p) (hl : p.left = row[at']) : Path f (row.take at' ++ p.right.map (·.sym)) := by
  obtain ⟨x, hx, hn⟩ := h at' ha
  obtain ⟨t, ht⟩ := look_exists hp hU x
  have h0 : ((q : Int), (0 : Int), t) ∈ stF f (row.take at') := by
    obtain ⟨S, hS⟩ := stF_clos hp (row.take at')
    rw [hS.2]
    exact .step ((hS.2 x).1 hx) hn hq hl ht
  intro k hk
  have htl : (row.take at').length = at' := by rw [List.length_take]; omega
  rcases Nat.lt_or_ge k at' with h' | h'
  · obtain ⟨y, hy, hny⟩ := h k (by omega)
    refine ⟨y, ?_, ?_⟩
    · rw [List.take_append_of_le_length (by omega), List.take_take, Nat.min_eq_left (by omega)]
      exact hy
    · rw [List.getElem_append_left (by omega), List.getElem_take]
      exact hny
  · obtain ⟨j, rfl⟩ : ∃ j, k = at' + j := ⟨k - at', by omega⟩
    have hj : j < p.right.length := by
      rw [List.length_append, htl, List.length_map] at hk
      omega
    have h1 := path_right hp hq h0 j (by omega)
    obtain ⟨S, hS⟩ := stF_clos hp (row.take at' ++ (p.right.map (·.sym)).take j)
    have hf := cl_fit ((hS.2 _).1 h1)
    refine ⟨((q : Int), (j : Int), t), ?_, ?_⟩
    · rw [List.take_append, htl, Nat.add_sub_cancel_left, List.take_of_length_le (by omega)]
      exact h1
    · unfold nextI
      rw [if_pos hf]
      simp only [rightI_nat hq, Int.toNat_natCast]
      rw [List.getElem?_eq_getElem hj, List.getElem_append_right (by omega)]
      simp [htl]
/-- The places of a useful symbol's productions: there are some. -/
theorem of_some {f : Fl} (hp : FitP f) {s : Nat} (hs : f.terms.length ≤ s) (hU : Der (fun s => s < f.terms.length) f.gr s) : ofA f (s : Int) ≠ [] := by
  cases hU with
  | base h => omega
  | @prod _ r hm _ =>
    unfold Fl.gr at hm
    obtain ⟨p, hp', e⟩ := List.mem_map.1 hm
    obtain ⟨q, hq⟩ := List.getElem?_of_mem hp'
    have hl := hp.left p hp'
    have e1 : p.left.toNat = s := by have := congrArg Prod.fst e; exact this
    intro h
    have : (q : Int) ∈ ofA f (s : Int) := mem_ofA.2 ⟨q, p, rfl, hq, by omega⟩
    rw [h] at this; cases this
end Go.Proofs.YtlaplmmicccbcaaGreatDoor
