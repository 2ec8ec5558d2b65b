/- Fit and Next: the program's and the document's. -/
import Derived.Test.YtlaplmmicccbcaaGreatDoorJ02
namespace Go.Proofs.YtlaplmmicccbcaaGreatDoor
open Go.RowKit

set_option maxRecDepth 100000 in
set_option maxHeartbeats 2000000 in
theorem fit_item (f : Fl) (a : FlA) (x : Ir) (w : World) (hf : FlAt f a w) (hn : f.n ≤ 600) :
    Calls Tryz.prog 12 #[a.val f, valR x] w fun e w' => e = .returned (.bool (fitI f x)) ∧ Below w.heap.size w w' := by
  have hR := fun W (hb : Below w.heap.size w W) (h1 : -1 ≤ x.1) (h2 : x.1 < f.prods.length) => right_any f a x.1 W (hf.next hb) hn h1 h2
  have hE := fun W => end_any f a W
  obtain ⟨ta, tc, na, nc, pa, pc⟩ := a
  obtain ⟨x0, x1, x2⟩ := x
  have X0 := FBox.new f ⟨ta, tc, na, nc, pa, pc⟩ 25 w
  have B0 : Below w.heap.size w (w.alloc (fobj f ⟨ta, tc, na, nc, pa, pc⟩ 25)) := (Below.refl _ _).alloc (Nat.le_refl _) _
  have Y0 := RBox.new (x0, x1, x2) 30 (w.alloc (fobj f ⟨ta, tc, na, nc, pa, pc⟩ 25))
  have X1 := X0.next ((Below.refl _ _).alloc (Nat.le_refl _) (Obj.cells #[.int .i64 x0, .int .i64 x1, .int .i64 x2] 30))
  have B1 := B0.alloc B0.size (Obj.cells #[.int .i64 x0, .int .i64 x1, .int .i64 x2] 30)
  have hz : (w.alloc (fobj f ⟨ta, tc, na, nc, pa, pc⟩ 25)).heap.size = w.heap.size + 1 := by simp
  rw [hz] at Y0
  clear X0 B0 hf hz
  unfold fobj at X1 B1 Y0
  unfold FlA.val at hR hE ⊢
  unfold valR
  simp only at *
  have HW : Hid (fitI f (x0, x1, x2) = decide (-1 ≤ x0 ∧ x0 < f.prods.length ∧ 0 ≤ x1 ∧ x1 ≤ (rightI f x0).length ∧ 0 ≤ x2 ∧ x2 ≤ f.terms.length)) := rfl
  obtain ⟨b1, y0, y1, y2⟩ := id Y0
  obtain ⟨b0, z0, z1, z2⟩ := id X1
  simp only at y0 y1 y2 z0 z1 z2
  by_cases g1 : x0 < -1
  · have HZ : Hid (fitI f (x0, x1, x2) = false) := by show _ = _; rw [HW.out]; exact decide_eq_false (by omega)
    clear hR hE HW X1 Y0
    go_enter Tryz.func12, Tryz.ntmps12
    go_wp2_with fail
    go_ret
    exact ⟨ret_bool HZ.out.symm, B1⟩
  by_cases g2 : (f.prods.length : Int) ≤ x0
  · have HZ : Hid (fitI f (x0, x1, x2) = false) := by show _ = _; rw [HW.out]; exact decide_eq_false (by omega)
    clear hR hE HW X1 Y0
    go_enter Tryz.func12, Tryz.ntmps12
    go_wp2_with fail
    go_ret
    exact ⟨ret_bool HZ.out.symm, B1⟩
  have g1' : decide (x0 < -1) = false := decide_eq_false g1
  have g2' : decide ((f.prods.length : Int) ≤ x0) = false := decide_eq_false g2
  go_enter Tryz.func12, Tryz.ntmps12
  go_wp2_with fail
  generalize (w.alloc (Obj.cells #[Value.slice ta f.terms.length tc, Value.slice na f.nons.length nc, Value.slice pa f.prods.length pc] 25)).alloc (Obj.cells #[.int .i64 x0, .int .i64 x1, .int .i64 x2] 30) = w0 at *
  have hstep : ∀ W w', (W.cell? ⟨w.heap.size, 0, none⟩ = some (.slice ta f.terms.length tc) ∧ W.cell? ⟨w.heap.size, 1, none⟩ = some (.slice na f.nons.length nc) ∧ W.cell? ⟨w.heap.size, 2, none⟩ = some (.slice pa f.prods.length pc) ∧ W.cell? ⟨w.heap.size + 1, 0, none⟩ = some (.int .i64 x0) ∧ W.cell? ⟨w.heap.size + 1, 1, none⟩ = some (.int .i64 x1) ∧ W.cell? ⟨w.heap.size + 1, 2, none⟩ = some (.int .i64 x2) ∧ Below w0.heap.size w0 W) → Below W.heap.size W w' → (w'.cell? ⟨w.heap.size, 0, none⟩ = some (.slice ta f.terms.length tc) ∧ w'.cell? ⟨w.heap.size, 1, none⟩ = some (.slice na f.nons.length nc) ∧ w'.cell? ⟨w.heap.size, 2, none⟩ = some (.slice pa f.prods.length pc) ∧ w'.cell? ⟨w.heap.size + 1, 0, none⟩ = some (.int .i64 x0) ∧ w'.cell? ⟨w.heap.size + 1, 1, none⟩ = some (.int .i64 x1) ∧ w'.cell? ⟨w.heap.size + 1, 2, none⟩ = some (.int .i64 x2) ∧ Below w0.heap.size w0 w') := by
    rintro W w' ⟨_, _, _, _, _, _, h⟩ hb
    have h' := below_then h hb h.size
    obtain ⟨_, k0, k1, k2⟩ := X1.next h'
    obtain ⟨_, l0, l1, l2⟩ := Y0.next h'
    exact ⟨k0, k1, k2, l0, l1, l2, h'⟩
  have hR' : ∀ W, (W.cell? ⟨w.heap.size, 0, none⟩ = some (.slice ta f.terms.length tc) ∧ W.cell? ⟨w.heap.size, 1, none⟩ = some (.slice na f.nons.length nc) ∧ W.cell? ⟨w.heap.size, 2, none⟩ = some (.slice pa f.prods.length pc) ∧ W.cell? ⟨w.heap.size + 1, 0, none⟩ = some (.int .i64 x0) ∧ W.cell? ⟨w.heap.size + 1, 1, none⟩ = some (.int .i64 x1) ∧ W.cell? ⟨w.heap.size + 1, 2, none⟩ = some (.int .i64 x2) ∧ Below w0.heap.size w0 W) → Calls Tryz.prog 30 #[.agg #[.slice ta f.terms.length tc, .slice na f.nons.length nc, .slice pa f.prods.length pc], .int .i64 x0] W fun e w' => ∃ va vc, e = .returned (.slice va (rightI f x0).length vc) ∧ (w'.cell? ⟨w.heap.size, 0, none⟩ = some (.slice ta f.terms.length tc) ∧ w'.cell? ⟨w.heap.size, 1, none⟩ = some (.slice na f.nons.length nc) ∧ w'.cell? ⟨w.heap.size, 2, none⟩ = some (.slice pa f.prods.length pc) ∧ w'.cell? ⟨w.heap.size + 1, 0, none⟩ = some (.int .i64 x0) ∧ w'.cell? ⟨w.heap.size + 1, 1, none⟩ = some (.int .i64 x1) ∧ w'.cell? ⟨w.heap.size + 1, 2, none⟩ = some (.int .i64 x2) ∧ Below w0.heap.size w0 w') := by
    intro W hS
    refine (hR W (below_then B1 hS.2.2.2.2.2.2 B1.size) (by omega) (by omega)).mono ?_
    rintro e w' ⟨v, rfl, ⟨va, vc, rfl, _⟩, hb⟩
    exact ⟨va, vc, rfl, hstep _ _ hS hb⟩
  have hE' : ∀ W, (W.cell? ⟨w.heap.size, 0, none⟩ = some (.slice ta f.terms.length tc) ∧ W.cell? ⟨w.heap.size, 1, none⟩ = some (.slice na f.nons.length nc) ∧ W.cell? ⟨w.heap.size, 2, none⟩ = some (.slice pa f.prods.length pc) ∧ W.cell? ⟨w.heap.size + 1, 0, none⟩ = some (.int .i64 x0) ∧ W.cell? ⟨w.heap.size + 1, 1, none⟩ = some (.int .i64 x1) ∧ W.cell? ⟨w.heap.size + 1, 2, none⟩ = some (.int .i64 x2) ∧ Below w0.heap.size w0 W) → Calls Tryz.prog 32 #[.agg #[.slice ta f.terms.length tc, .slice na f.nons.length nc, .slice pa f.prods.length pc]] W fun e w' => e = .returned (.int .i64 f.terms.length) ∧ (w'.cell? ⟨w.heap.size, 0, none⟩ = some (.slice ta f.terms.length tc) ∧ w'.cell? ⟨w.heap.size, 1, none⟩ = some (.slice na f.nons.length nc) ∧ w'.cell? ⟨w.heap.size, 2, none⟩ = some (.slice pa f.prods.length pc) ∧ w'.cell? ⟨w.heap.size + 1, 0, none⟩ = some (.int .i64 x0) ∧ w'.cell? ⟨w.heap.size + 1, 1, none⟩ = some (.int .i64 x1) ∧ w'.cell? ⟨w.heap.size + 1, 2, none⟩ = some (.int .i64 x2) ∧ Below w0.heap.size w0 w') := by
    intro W hS
    refine (hE W).mono ?_
    rintro e w' ⟨rfl, hb⟩
    exact ⟨rfl, hstep _ _ hS hb⟩
  have HS0 : Hid (w0.drew.cell? ⟨w.heap.size, 0, none⟩ = some (.slice ta f.terms.length tc) ∧ w0.drew.cell? ⟨w.heap.size, 1, none⟩ = some (.slice na f.nons.length nc) ∧ w0.drew.cell? ⟨w.heap.size, 2, none⟩ = some (.slice pa f.prods.length pc) ∧ w0.drew.cell? ⟨w.heap.size + 1, 0, none⟩ = some (.int .i64 x0) ∧ w0.drew.cell? ⟨w.heap.size + 1, 1, none⟩ = some (.int .i64 x1) ∧ w0.drew.cell? ⟨w.heap.size + 1, 2, none⟩ = some (.int .i64 x2) ∧ Below w0.heap.size w0 w0.drew) := ⟨z0, z1, z2, y0, y1, y2, (Below.refl _ _).drew⟩
  have HBB : Hid (∀ W, Below w0.heap.size w0 W → Below w.heap.size w W) := fun W hb => below_then B1 hb B1.size
  generalize (rightI f x0).length = L at *
  clear hR hE hstep X1 Y0 B1 b0 b1 z0 z1 z2 y0 y1 y2
  by_cases d1 : 0 ≤ x1
  · by_cases d2 : x1 ≤ L
    · by_cases d3 : 0 ≤ x2
      · have HZ : Hid (fitI f (x0, x1, x2) = decide (x2 ≤ f.terms.length)) := by
          show _ = _; rw [HW.out, Bool.eq_iff_iff, decide_eq_true_eq, decide_eq_true_eq]; omega
        have d1' : decide (0 ≤ x1) = true := decide_eq_true d1
        have d2' : decide (x1 ≤ (L : Int)) = true := decide_eq_true d2
        have d3' : decide (0 ≤ x2) = true := decide_eq_true d3
        clear HW
        go_region_held3 (fun W => W.cell? ⟨w.heap.size, 0, none⟩ = some (.slice ta f.terms.length tc) ∧ W.cell? ⟨w.heap.size, 1, none⟩ = some (.slice na f.nons.length nc) ∧ W.cell? ⟨w.heap.size, 2, none⟩ = some (.slice pa f.prods.length pc) ∧ W.cell? ⟨w.heap.size + 1, 0, none⟩ = some (.int .i64 x0) ∧ W.cell? ⟨w.heap.size + 1, 1, none⟩ = some (.int .i64 x1) ∧ W.cell? ⟨w.heap.size + 1, 2, none⟩ = some (.int .i64 x2) ∧ Below w0.heap.size w0 W) (first | exact HS0.out | assumption) (first
          | (go_at_call 30; refine (hR' _ (by assumption)).mono ?_; rintro e w' ⟨va, vc, rfl, hS⟩)
          | (go_at_call 32; refine (hE' _ (by assumption)).mono ?_; rintro e w'' ⟨rfl, hS2⟩))
        have HBx : Hid (Below w.heap.size w w'') := HBB.out _ hS2.2.2.2.2.2.2
        clear hS2 hR' hE' HBB
        go_wp2_with fail
        go_ret
        exact ⟨ret_bool HZ.out.symm, HBx.out⟩
      · have HZ : Hid (fitI f (x0, x1, x2) = false) := by show _ = _; rw [HW.out]; exact decide_eq_false (by omega)
        have d1' : decide (0 ≤ x1) = true := decide_eq_true d1
        have d2' : decide (x1 ≤ (L : Int)) = true := decide_eq_true d2
        have d3' : decide (0 ≤ x2) = false := decide_eq_false d3
        clear HW hE'
        refine wp_region_L (fun W => W.cell? ⟨w.heap.size, 0, none⟩ = some (.slice ta f.terms.length tc) ∧ W.cell? ⟨w.heap.size, 1, none⟩ = some (.slice na f.nons.length nc) ∧ W.cell? ⟨w.heap.size, 2, none⟩ = some (.slice pa f.prods.length pc) ∧ W.cell? ⟨w.heap.size + 1, 0, none⟩ = some (.int .i64 x0) ∧ W.cell? ⟨w.heap.size + 1, 1, none⟩ = some (.int .i64 x1) ∧ W.cell? ⟨w.heap.size + 1, 2, none⟩ = some (.int .i64 x2) ∧ Below w0.heap.size w0 W) 26 (by kernel_rfl) 26 rfl ?_
        refine wpL_take (v := ?_) (oi := ⟨some 16, .fieldAddr 30 (.tmp 3) 1, 0, "item.go:52", #[], none⟩) (by decide) rfl (by kernel_rfl) (by kernel_rfl) (by kernel_rfl) (by kernel_rfl) (fun _ _ _ h => h) (Or.inl ⟨by rfl, ?_⟩) HS0.out ?_
        rotate_left
        · intro W hSW
          go_simp
          try with_reducible rfl
        simp only [Act.put, sA, s0, sS]
        refine wpL_take (v := ?_) (oi := ⟨some 17, .load 3 (.tmp 16), 3, "item.go:52", #[⟨0, .data⟩], none⟩) (by decide) rfl (by kernel_rfl) (by kernel_rfl) (by kernel_rfl) (by kernel_rfl) (fun _ _ _ h => h) (Or.inl ⟨by rfl, ?_⟩) HS0.out ?_
        rotate_left
        · intro W hSW
          go_simp
          try with_reducible rfl
        simp only [Act.put, sA, s0, sS]
        refine wpL_take (v := ?_) (oi := ⟨some 18, .binOp .leq 3 (.const (.int .i64 0)) (.tmp 17) 3, 4, "item.go:52", #[⟨1, .data⟩], none⟩) (by decide) rfl (by kernel_rfl) (by kernel_rfl) (by kernel_rfl) (by kernel_rfl) (fun _ _ _ h => h) (Or.inl ⟨by rfl, ?_⟩) HS0.out ?_
        rotate_left
        · intro W hSW
          go_simp
          try with_reducible rfl
        simp only [Act.put, sA, s0, sS]
        refine wpL_take (v := ?_) (oi := ⟨some 19, .move (.tmp 18), 4, "item.go:52", #[⟨2, .data⟩], none⟩) (by decide) rfl (by kernel_rfl) (by kernel_rfl) (by kernel_rfl) (by kernel_rfl) (fun _ _ _ h => h) (Or.inl ⟨by rfl, ?_⟩) HS0.out ?_
        rotate_left
        · intro W hSW
          go_simp
          try with_reducible rfl
        simp only [Act.put, sA, s0, sS]
        refine wpL_take (v := ?_) (oi := ⟨some 20, .fieldAddr 30 (.tmp 3) 1, 0, "item.go:52", #[⟨3, .guard⟩], some (3, true)⟩) (by decide) rfl (by kernel_rfl) (by kernel_rfl) (by kernel_rfl) (by kernel_rfl) (fun _ _ _ h => h) (Or.inl ⟨by rfl, ?_⟩) HS0.out ?_
        rotate_left
        · intro W hSW
          go_simp
          try with_reducible rfl
        simp only [Act.put, sA, s0, sS]
        refine wpL_take (v := ?_) (oi := ⟨some 21, .load 3 (.tmp 20), 3, "item.go:52", #[⟨4, .data⟩, ⟨3, .guard⟩], some (3, true)⟩) (by decide) rfl (by kernel_rfl) (by kernel_rfl) (by kernel_rfl) (by kernel_rfl) (fun _ _ _ h => h) (Or.inl ⟨by rfl, ?_⟩) HS0.out ?_
        rotate_left
        · intro W hSW
          go_simp
          try with_reducible rfl
        simp only [Act.put, sA, s0, sS]
        refine wpL_take (v := ?_) (oi := ⟨some 22, .load 25 (.tmp 2), 25, "item.go:52", #[⟨3, .guard⟩], some (3, true)⟩) (by decide) rfl (by kernel_rfl) (by kernel_rfl) (by kernel_rfl) (by kernel_rfl) (fun _ _ _ h => h) (Or.inl ⟨by rfl, ?_⟩) HS0.out ?_
        rotate_left
        · intro W hSW
          go_simp
          try with_reducible rfl
        simp only [Act.put, sA, s0, sS]
        refine wpL_take (v := ?_) (oi := ⟨some 23, .fieldAddr 30 (.tmp 3) 0, 0, "item.go:52", #[⟨3, .guard⟩], some (3, true)⟩) (by decide) rfl (by kernel_rfl) (by kernel_rfl) (by kernel_rfl) (by kernel_rfl) (fun _ _ _ h => h) (Or.inl ⟨by rfl, ?_⟩) HS0.out ?_
        rotate_left
        · intro W hSW
          go_simp
          try with_reducible rfl
        simp only [Act.put, sA, s0, sS]
        refine wpL_take (v := ?_) (oi := ⟨some 24, .load 3 (.tmp 23), 3, "item.go:52", #[⟨7, .data⟩, ⟨3, .guard⟩], some (3, true)⟩) (by decide) rfl (by kernel_rfl) (by kernel_rfl) (by kernel_rfl) (by kernel_rfl) (fun _ _ _ h => h) (Or.inl ⟨by rfl, ?_⟩) HS0.out ?_
        rotate_left
        · intro W hSW
          go_simp
          try with_reducible rfl
        simp only [Act.put, sA, s0, sS]
        refine wpL_one (o := ⟨some 25, .call ⟨.value (.func 30), #[.tmp 22, .tmp 24], #[25, 3]⟩, 52, "item.go:52", #[⟨6, .data⟩, ⟨8, .data⟩, ⟨3, .chain⟩, ⟨3, .guard⟩], some (3, true)⟩) (by decide) (by kernel_rfl) rfl (fun K hK => ?_)
        go_simp
        refine (hR' _ HS0.out).mono ?_
        rintro e w' ⟨va, vc, rfl, hS⟩
        refine hK.out _ _ (fun _ => hS) ?_
        clear hK
        refine wpL_take (v := ?_) (oi := ⟨some 26, .call ⟨.builtin .len, #[.tmp 25], #[52]⟩, 3, "item.go:52", #[⟨9, .data⟩, ⟨3, .guard⟩], some (3, true)⟩) (by decide) rfl (by kernel_rfl) (by kernel_rfl) (by kernel_rfl) (by kernel_rfl) (fun _ _ _ h => h) (Or.inl ⟨by rfl, ?_⟩) hS ?_
        rotate_left
        · intro W hSW
          go_simp
          try with_reducible rfl
        simp only [Act.put, sA, s0, sS]
        refine wpL_take (v := ?_) (oi := ⟨some 27, .binOp .leq 3 (.tmp 21) (.tmp 26) 3, 4, "item.go:52", #[⟨5, .data⟩, ⟨10, .data⟩, ⟨3, .guard⟩], some (3, true)⟩) (by decide) rfl (by kernel_rfl) (by kernel_rfl) (by kernel_rfl) (by kernel_rfl) (fun _ _ _ h => h) (Or.inl ⟨by rfl, ?_⟩) hS ?_
        rotate_left
        · intro W hSW
          go_simp
          try with_reducible rfl
        simp only [Act.put, sA, s0, sS]
        refine wpL_take (v := ?_) (oi := ⟨some 28, .pick (.tmp 19) (.tmp 27) (.const (.bool false)), 4, "item.go:52", #[⟨3, .data⟩, ⟨11, .data⟩], none⟩) (by decide) rfl (by kernel_rfl) (by kernel_rfl) (by kernel_rfl) (by kernel_rfl) (fun _ _ _ h => h) (Or.inl ⟨by rfl, ?_⟩) hS ?_
        rotate_left
        · intro W hSW
          go_simp
          try with_reducible rfl
        simp only [Act.put, sA, s0, sS]
        refine wpL_take (v := ?_) (oi := ⟨some 29, .move (.tmp 28), 4, "item.go:52", #[⟨12, .data⟩, ⟨9, .chain⟩], none⟩) (by decide) rfl (by kernel_rfl) (by kernel_rfl) (by kernel_rfl) (by kernel_rfl) (fun _ _ _ h => h) (Or.inl ⟨by rfl, ?_⟩) hS ?_
        rotate_left
        · intro W hSW
          go_simp
          try with_reducible rfl
        simp only [Act.put, sA, s0, sS]
        refine wpL_take (v := ?_) (oi := ⟨some 30, .fieldAddr 30 (.tmp 3) 2, 0, "item.go:52", #[⟨13, .guard⟩], some (13, true)⟩) (by decide) rfl (by kernel_rfl) (by kernel_rfl) (by kernel_rfl) (by kernel_rfl) (fun _ _ _ h => h) (Or.inl ⟨by rfl, ?_⟩) hS ?_
        rotate_left
        · intro W hSW
          go_simp
          try with_reducible rfl
        simp only [Act.put, sA, s0, sS]
        refine wpL_take (v := ?_) (oi := ⟨some 31, .load 3 (.tmp 30), 3, "item.go:52", #[⟨14, .data⟩, ⟨13, .guard⟩], some (13, true)⟩) (by decide) rfl (by kernel_rfl) (by kernel_rfl) (by kernel_rfl) (by kernel_rfl) (fun _ _ _ h => h) (Or.inl ⟨by rfl, ?_⟩) hS ?_
        rotate_left
        · intro W hSW
          go_simp
          try with_reducible rfl
        simp only [Act.put, sA, s0, sS]
        refine wpL_take (v := ?_) (oi := ⟨some 32, .binOp .leq 3 (.const (.int .i64 0)) (.tmp 31) 3, 4, "item.go:52", #[⟨15, .data⟩, ⟨13, .guard⟩], some (13, true)⟩) (by decide) rfl (by kernel_rfl) (by kernel_rfl) (by kernel_rfl) (by kernel_rfl) (fun _ _ _ h => h) (Or.inl ⟨by rfl, ?_⟩) hS ?_
        rotate_left
        · intro W hSW
          go_simp
          try with_reducible rfl
        simp only [Act.put, sA, s0, sS]
        refine wpL_take (v := ?_) (oi := ⟨some 33, .pick (.tmp 29) (.tmp 32) (.const (.bool false)), 4, "item.go:52", #[⟨13, .data⟩, ⟨16, .data⟩], none⟩) (by decide) rfl (by kernel_rfl) (by kernel_rfl) (by kernel_rfl) (by kernel_rfl) (fun _ _ _ h => h) (Or.inl ⟨by rfl, ?_⟩) hS ?_
        rotate_left
        · intro W hSW
          go_simp
          try with_reducible rfl
        simp only [Act.put, sA, s0, sS]
        refine wpL_take (v := ?_) (oi := ⟨some 34, .move (.tmp 33), 4, "item.go:52", #[⟨17, .data⟩, ⟨13, .chain⟩], none⟩) (by decide) rfl (by kernel_rfl) (by kernel_rfl) (by kernel_rfl) (by kernel_rfl) (fun _ _ _ h => h) (Or.inl ⟨by rfl, ?_⟩) hS ?_
        rotate_left
        · intro W hSW
          go_simp
          try with_reducible rfl
        simp only [Act.put, sA, s0, sS]
        refine wpL_take (v := undef) (oi := ⟨some 35, .fieldAddr 30 (.tmp 3) 2, 0, "item.go:52", #[⟨18, .guard⟩], some (18, true)⟩) (by decide) rfl (by kernel_rfl) (by kernel_rfl) (by kernel_rfl) (by kernel_rfl) (fun _ _ _ h => h) (Or.inr ⟨by rfl, rfl⟩) hS ?_
        simp only [Act.put, sA, s0, sS]
        refine wpL_take (v := undef) (oi := ⟨some 36, .load 3 (.tmp 35), 3, "item.go:52", #[⟨19, .data⟩, ⟨18, .guard⟩], some (18, true)⟩) (by decide) rfl (by kernel_rfl) (by kernel_rfl) (by kernel_rfl) (by kernel_rfl) (fun _ _ _ h => h) (Or.inr ⟨by rfl, rfl⟩) hS ?_
        simp only [Act.put, sA, s0, sS]
        refine wpL_take (v := undef) (oi := ⟨some 37, .load 25 (.tmp 2), 25, "item.go:52", #[⟨18, .guard⟩], some (18, true)⟩) (by decide) rfl (by kernel_rfl) (by kernel_rfl) (by kernel_rfl) (by kernel_rfl) (fun _ _ _ h => h) (Or.inr ⟨by rfl, rfl⟩) hS ?_
        simp only [Act.put, sA, s0, sS]
        refine wpL_take (v := undef) (oi := ⟨some 38, .call ⟨.value (.func 32), #[.tmp 37], #[25]⟩, 3, "item.go:52", #[⟨21, .data⟩, ⟨18, .chain⟩, ⟨18, .guard⟩], some (18, true)⟩) (by decide) rfl (by kernel_rfl) (by kernel_rfl) (by kernel_rfl) (by kernel_rfl) (fun _ _ _ h => h) (Or.inr ⟨by rfl, rfl⟩) hS ?_
        simp only [Act.put, sA, s0, sS]
        refine wpL_take (v := undef) (oi := ⟨some 39, .binOp .leq 3 (.tmp 36) (.tmp 38) 3, 4, "item.go:52", #[⟨20, .data⟩, ⟨22, .data⟩, ⟨18, .guard⟩], some (18, true)⟩) (by decide) rfl (by kernel_rfl) (by kernel_rfl) (by kernel_rfl) (by kernel_rfl) (fun _ _ _ h => h) (Or.inr ⟨by rfl, rfl⟩) hS ?_
        simp only [Act.put, sA, s0, sS]
        refine wpL_take (v := ?_) (oi := ⟨some 40, .pick (.tmp 34) (.tmp 39) (.const (.bool false)), 4, "item.go:52", #[⟨18, .data⟩, ⟨23, .data⟩], none⟩) (by decide) rfl (by kernel_rfl) (by kernel_rfl) (by kernel_rfl) (by kernel_rfl) (fun _ _ _ h => h) (Or.inl ⟨by rfl, ?_⟩) hS ?_
        rotate_left
        · intro W hSW
          go_simp
          try with_reducible rfl
        simp only [Act.put, sA, s0, sS]
        refine wpL_take (v := ?_) (oi := ⟨some 4, .assign (.tmp 40), 4, "item.go:52", #[⟨24, .data⟩, ⟨22, .chain⟩, ⟨0, .phase⟩, ⟨1, .phase⟩, ⟨2, .phase⟩, ⟨3, .phase⟩, ⟨4, .phase⟩, ⟨5, .phase⟩, ⟨6, .phase⟩, ⟨7, .phase⟩, ⟨8, .phase⟩, ⟨9, .phase⟩, ⟨10, .phase⟩, ⟨11, .phase⟩, ⟨12, .phase⟩, ⟨13, .phase⟩, ⟨14, .phase⟩, ⟨15, .phase⟩, ⟨16, .phase⟩, ⟨17, .phase⟩, ⟨18, .phase⟩, ⟨19, .phase⟩, ⟨20, .phase⟩, ⟨21, .phase⟩, ⟨22, .phase⟩, ⟨23, .phase⟩, ⟨24, .phase⟩], none⟩) (by decide) rfl (by kernel_rfl) (by kernel_rfl) (by kernel_rfl) (by kernel_rfl) (fun _ _ _ h => h) (Or.inl ⟨by rfl, ?_⟩) hS ?_
        rotate_left
        · intro W hSW
          go_simp
          try with_reducible rfl
        simp only [Act.put, sA, s0, sS]
        refine wpAnyL_done (by kernel_rfl) ?_ _
        have HBx : Hid (Below w.heap.size w w') := HBB.out _ hS.2.2.2.2.2.2
        clear hS hR' HBB
        go_wp2_with fail
        go_ret
        exact ⟨ret_bool HZ.out.symm, HBx.out⟩
    · have HZ : Hid (fitI f (x0, x1, x2) = false) := by show _ = _; rw [HW.out]; exact decide_eq_false (by omega)
      have d1' : decide (0 ≤ x1) = true := decide_eq_true d1
      have d2' : decide (x1 ≤ (L : Int)) = false := decide_eq_false d2
      clear HW hE'
      refine wp_region_L (fun W => W.cell? ⟨w.heap.size, 0, none⟩ = some (.slice ta f.terms.length tc) ∧ W.cell? ⟨w.heap.size, 1, none⟩ = some (.slice na f.nons.length nc) ∧ W.cell? ⟨w.heap.size, 2, none⟩ = some (.slice pa f.prods.length pc) ∧ W.cell? ⟨w.heap.size + 1, 0, none⟩ = some (.int .i64 x0) ∧ W.cell? ⟨w.heap.size + 1, 1, none⟩ = some (.int .i64 x1) ∧ W.cell? ⟨w.heap.size + 1, 2, none⟩ = some (.int .i64 x2) ∧ Below w0.heap.size w0 W) 26 (by kernel_rfl) 26 rfl ?_
      refine wpL_take (v := ?_) (oi := ⟨some 16, .fieldAddr 30 (.tmp 3) 1, 0, "item.go:52", #[], none⟩) (by decide) rfl (by kernel_rfl) (by kernel_rfl) (by kernel_rfl) (by kernel_rfl) (fun _ _ _ h => h) (Or.inl ⟨by rfl, ?_⟩) HS0.out ?_
      rotate_left
      · intro W hSW
        go_simp
        try with_reducible rfl
      simp only [Act.put, sA, s0, sS]
      refine wpL_take (v := ?_) (oi := ⟨some 17, .load 3 (.tmp 16), 3, "item.go:52", #[⟨0, .data⟩], none⟩) (by decide) rfl (by kernel_rfl) (by kernel_rfl) (by kernel_rfl) (by kernel_rfl) (fun _ _ _ h => h) (Or.inl ⟨by rfl, ?_⟩) HS0.out ?_
      rotate_left
      · intro W hSW
        go_simp
        try with_reducible rfl
      simp only [Act.put, sA, s0, sS]
      refine wpL_take (v := ?_) (oi := ⟨some 18, .binOp .leq 3 (.const (.int .i64 0)) (.tmp 17) 3, 4, "item.go:52", #[⟨1, .data⟩], none⟩) (by decide) rfl (by kernel_rfl) (by kernel_rfl) (by kernel_rfl) (by kernel_rfl) (fun _ _ _ h => h) (Or.inl ⟨by rfl, ?_⟩) HS0.out ?_
      rotate_left
      · intro W hSW
        go_simp
        try with_reducible rfl
      simp only [Act.put, sA, s0, sS]
      refine wpL_take (v := ?_) (oi := ⟨some 19, .move (.tmp 18), 4, "item.go:52", #[⟨2, .data⟩], none⟩) (by decide) rfl (by kernel_rfl) (by kernel_rfl) (by kernel_rfl) (by kernel_rfl) (fun _ _ _ h => h) (Or.inl ⟨by rfl, ?_⟩) HS0.out ?_
      rotate_left
      · intro W hSW
        go_simp
        try with_reducible rfl
      simp only [Act.put, sA, s0, sS]
      refine wpL_take (v := ?_) (oi := ⟨some 20, .fieldAddr 30 (.tmp 3) 1, 0, "item.go:52", #[⟨3, .guard⟩], some (3, true)⟩) (by decide) rfl (by kernel_rfl) (by kernel_rfl) (by kernel_rfl) (by kernel_rfl) (fun _ _ _ h => h) (Or.inl ⟨by rfl, ?_⟩) HS0.out ?_
      rotate_left
      · intro W hSW
        go_simp
        try with_reducible rfl
      simp only [Act.put, sA, s0, sS]
      refine wpL_take (v := ?_) (oi := ⟨some 21, .load 3 (.tmp 20), 3, "item.go:52", #[⟨4, .data⟩, ⟨3, .guard⟩], some (3, true)⟩) (by decide) rfl (by kernel_rfl) (by kernel_rfl) (by kernel_rfl) (by kernel_rfl) (fun _ _ _ h => h) (Or.inl ⟨by rfl, ?_⟩) HS0.out ?_
      rotate_left
      · intro W hSW
        go_simp
        try with_reducible rfl
      simp only [Act.put, sA, s0, sS]
      refine wpL_take (v := ?_) (oi := ⟨some 22, .load 25 (.tmp 2), 25, "item.go:52", #[⟨3, .guard⟩], some (3, true)⟩) (by decide) rfl (by kernel_rfl) (by kernel_rfl) (by kernel_rfl) (by kernel_rfl) (fun _ _ _ h => h) (Or.inl ⟨by rfl, ?_⟩) HS0.out ?_
      rotate_left
      · intro W hSW
        go_simp
        try with_reducible rfl
      simp only [Act.put, sA, s0, sS]
      refine wpL_take (v := ?_) (oi := ⟨some 23, .fieldAddr 30 (.tmp 3) 0, 0, "item.go:52", #[⟨3, .guard⟩], some (3, true)⟩) (by decide) rfl (by kernel_rfl) (by kernel_rfl) (by kernel_rfl) (by kernel_rfl) (fun _ _ _ h => h) (Or.inl ⟨by rfl, ?_⟩) HS0.out ?_
      rotate_left
      · intro W hSW
        go_simp
        try with_reducible rfl
      simp only [Act.put, sA, s0, sS]
      refine wpL_take (v := ?_) (oi := ⟨some 24, .load 3 (.tmp 23), 3, "item.go:52", #[⟨7, .data⟩, ⟨3, .guard⟩], some (3, true)⟩) (by decide) rfl (by kernel_rfl) (by kernel_rfl) (by kernel_rfl) (by kernel_rfl) (fun _ _ _ h => h) (Or.inl ⟨by rfl, ?_⟩) HS0.out ?_
      rotate_left
      · intro W hSW
        go_simp
        try with_reducible rfl
      simp only [Act.put, sA, s0, sS]
      refine wpL_one (o := ⟨some 25, .call ⟨.value (.func 30), #[.tmp 22, .tmp 24], #[25, 3]⟩, 52, "item.go:52", #[⟨6, .data⟩, ⟨8, .data⟩, ⟨3, .chain⟩, ⟨3, .guard⟩], some (3, true)⟩) (by decide) (by kernel_rfl) rfl (fun K hK => ?_)
      go_simp
      refine (hR' _ HS0.out).mono ?_
      rintro e w' ⟨va, vc, rfl, hS⟩
      refine hK.out _ _ (fun _ => hS) ?_
      clear hK
      refine wpL_take (v := ?_) (oi := ⟨some 26, .call ⟨.builtin .len, #[.tmp 25], #[52]⟩, 3, "item.go:52", #[⟨9, .data⟩, ⟨3, .guard⟩], some (3, true)⟩) (by decide) rfl (by kernel_rfl) (by kernel_rfl) (by kernel_rfl) (by kernel_rfl) (fun _ _ _ h => h) (Or.inl ⟨by rfl, ?_⟩) hS ?_
      rotate_left
      · intro W hSW
        go_simp
        try with_reducible rfl
      simp only [Act.put, sA, s0, sS]
      refine wpL_take (v := ?_) (oi := ⟨some 27, .binOp .leq 3 (.tmp 21) (.tmp 26) 3, 4, "item.go:52", #[⟨5, .data⟩, ⟨10, .data⟩, ⟨3, .guard⟩], some (3, true)⟩) (by decide) rfl (by kernel_rfl) (by kernel_rfl) (by kernel_rfl) (by kernel_rfl) (fun _ _ _ h => h) (Or.inl ⟨by rfl, ?_⟩) hS ?_
      rotate_left
      · intro W hSW
        go_simp
        try with_reducible rfl
      simp only [Act.put, sA, s0, sS]
      refine wpL_take (v := ?_) (oi := ⟨some 28, .pick (.tmp 19) (.tmp 27) (.const (.bool false)), 4, "item.go:52", #[⟨3, .data⟩, ⟨11, .data⟩], none⟩) (by decide) rfl (by kernel_rfl) (by kernel_rfl) (by kernel_rfl) (by kernel_rfl) (fun _ _ _ h => h) (Or.inl ⟨by rfl, ?_⟩) hS ?_
      rotate_left
      · intro W hSW
        go_simp
        try with_reducible rfl
      simp only [Act.put, sA, s0, sS]
      refine wpL_take (v := ?_) (oi := ⟨some 29, .move (.tmp 28), 4, "item.go:52", #[⟨12, .data⟩, ⟨9, .chain⟩], none⟩) (by decide) rfl (by kernel_rfl) (by kernel_rfl) (by kernel_rfl) (by kernel_rfl) (fun _ _ _ h => h) (Or.inl ⟨by rfl, ?_⟩) hS ?_
      rotate_left
      · intro W hSW
        go_simp
        try with_reducible rfl
      simp only [Act.put, sA, s0, sS]
      refine wpL_take (v := undef) (oi := ⟨some 30, .fieldAddr 30 (.tmp 3) 2, 0, "item.go:52", #[⟨13, .guard⟩], some (13, true)⟩) (by decide) rfl (by kernel_rfl) (by kernel_rfl) (by kernel_rfl) (by kernel_rfl) (fun _ _ _ h => h) (Or.inr ⟨by rfl, rfl⟩) hS ?_
      simp only [Act.put, sA, s0, sS]
      refine wpL_take (v := undef) (oi := ⟨some 31, .load 3 (.tmp 30), 3, "item.go:52", #[⟨14, .data⟩, ⟨13, .guard⟩], some (13, true)⟩) (by decide) rfl (by kernel_rfl) (by kernel_rfl) (by kernel_rfl) (by kernel_rfl) (fun _ _ _ h => h) (Or.inr ⟨by rfl, rfl⟩) hS ?_
      simp only [Act.put, sA, s0, sS]
      refine wpL_take (v := undef) (oi := ⟨some 32, .binOp .leq 3 (.const (.int .i64 0)) (.tmp 31) 3, 4, "item.go:52", #[⟨15, .data⟩, ⟨13, .guard⟩], some (13, true)⟩) (by decide) rfl (by kernel_rfl) (by kernel_rfl) (by kernel_rfl) (by kernel_rfl) (fun _ _ _ h => h) (Or.inr ⟨by rfl, rfl⟩) hS ?_
      simp only [Act.put, sA, s0, sS]
      refine wpL_take (v := ?_) (oi := ⟨some 33, .pick (.tmp 29) (.tmp 32) (.const (.bool false)), 4, "item.go:52", #[⟨13, .data⟩, ⟨16, .data⟩], none⟩) (by decide) rfl (by kernel_rfl) (by kernel_rfl) (by kernel_rfl) (by kernel_rfl) (fun _ _ _ h => h) (Or.inl ⟨by rfl, ?_⟩) hS ?_
      rotate_left
      · intro W hSW
        go_simp
        try with_reducible rfl
      simp only [Act.put, sA, s0, sS]
      refine wpL_take (v := ?_) (oi := ⟨some 34, .move (.tmp 33), 4, "item.go:52", #[⟨17, .data⟩, ⟨13, .chain⟩], none⟩) (by decide) rfl (by kernel_rfl) (by kernel_rfl) (by kernel_rfl) (by kernel_rfl) (fun _ _ _ h => h) (Or.inl ⟨by rfl, ?_⟩) hS ?_
      rotate_left
      · intro W hSW
        go_simp
        try with_reducible rfl
      simp only [Act.put, sA, s0, sS]
      refine wpL_take (v := undef) (oi := ⟨some 35, .fieldAddr 30 (.tmp 3) 2, 0, "item.go:52", #[⟨18, .guard⟩], some (18, true)⟩) (by decide) rfl (by kernel_rfl) (by kernel_rfl) (by kernel_rfl) (by kernel_rfl) (fun _ _ _ h => h) (Or.inr ⟨by rfl, rfl⟩) hS ?_
      simp only [Act.put, sA, s0, sS]
      refine wpL_take (v := undef) (oi := ⟨some 36, .load 3 (.tmp 35), 3, "item.go:52", #[⟨19, .data⟩, ⟨18, .guard⟩], some (18, true)⟩) (by decide) rfl (by kernel_rfl) (by kernel_rfl) (by kernel_rfl) (by kernel_rfl) (fun _ _ _ h => h) (Or.inr ⟨by rfl, rfl⟩) hS ?_
      simp only [Act.put, sA, s0, sS]
      refine wpL_take (v := undef) (oi := ⟨some 37, .load 25 (.tmp 2), 25, "item.go:52", #[⟨18, .guard⟩], some (18, true)⟩) (by decide) rfl (by kernel_rfl) (by kernel_rfl) (by kernel_rfl) (by kernel_rfl) (fun _ _ _ h => h) (Or.inr ⟨by rfl, rfl⟩) hS ?_
      simp only [Act.put, sA, s0, sS]
      refine wpL_take (v := undef) (oi := ⟨some 38, .call ⟨.value (.func 32), #[.tmp 37], #[25]⟩, 3, "item.go:52", #[⟨21, .data⟩, ⟨18, .chain⟩, ⟨18, .guard⟩], some (18, true)⟩) (by decide) rfl (by kernel_rfl) (by kernel_rfl) (by kernel_rfl) (by kernel_rfl) (fun _ _ _ h => h) (Or.inr ⟨by rfl, rfl⟩) hS ?_
      simp only [Act.put, sA, s0, sS]
      refine wpL_take (v := undef) (oi := ⟨some 39, .binOp .leq 3 (.tmp 36) (.tmp 38) 3, 4, "item.go:52", #[⟨20, .data⟩, ⟨22, .data⟩, ⟨18, .guard⟩], some (18, true)⟩) (by decide) rfl (by kernel_rfl) (by kernel_rfl) (by kernel_rfl) (by kernel_rfl) (fun _ _ _ h => h) (Or.inr ⟨by rfl, rfl⟩) hS ?_
      simp only [Act.put, sA, s0, sS]
      refine wpL_take (v := ?_) (oi := ⟨some 40, .pick (.tmp 34) (.tmp 39) (.const (.bool false)), 4, "item.go:52", #[⟨18, .data⟩, ⟨23, .data⟩], none⟩) (by decide) rfl (by kernel_rfl) (by kernel_rfl) (by kernel_rfl) (by kernel_rfl) (fun _ _ _ h => h) (Or.inl ⟨by rfl, ?_⟩) hS ?_
      rotate_left
      · intro W hSW
        go_simp
        try with_reducible rfl
      simp only [Act.put, sA, s0, sS]
      refine wpL_take (v := ?_) (oi := ⟨some 4, .assign (.tmp 40), 4, "item.go:52", #[⟨24, .data⟩, ⟨22, .chain⟩, ⟨0, .phase⟩, ⟨1, .phase⟩, ⟨2, .phase⟩, ⟨3, .phase⟩, ⟨4, .phase⟩, ⟨5, .phase⟩, ⟨6, .phase⟩, ⟨7, .phase⟩, ⟨8, .phase⟩, ⟨9, .phase⟩, ⟨10, .phase⟩, ⟨11, .phase⟩, ⟨12, .phase⟩, ⟨13, .phase⟩, ⟨14, .phase⟩, ⟨15, .phase⟩, ⟨16, .phase⟩, ⟨17, .phase⟩, ⟨18, .phase⟩, ⟨19, .phase⟩, ⟨20, .phase⟩, ⟨21, .phase⟩, ⟨22, .phase⟩, ⟨23, .phase⟩, ⟨24, .phase⟩], none⟩) (by decide) rfl (by kernel_rfl) (by kernel_rfl) (by kernel_rfl) (by kernel_rfl) (fun _ _ _ h => h) (Or.inl ⟨by rfl, ?_⟩) hS ?_
      rotate_left
      · intro W hSW
        go_simp
        try with_reducible rfl
      simp only [Act.put, sA, s0, sS]
      refine wpAnyL_done (by kernel_rfl) ?_ _
      have HBx : Hid (Below w.heap.size w w') := HBB.out _ hS.2.2.2.2.2.2
      clear hS hR' HBB
      go_wp2_with fail
      go_ret
      exact ⟨ret_bool HZ.out.symm, HBx.out⟩
  · have HZ : Hid (fitI f (x0, x1, x2) = false) := by show _ = _; rw [HW.out]; exact decide_eq_false (by omega)
    have d1' : decide (0 ≤ x1) = false := decide_eq_false d1
    obtain ⟨z0, z1, z2, y0, y1, y2, hb0⟩ := HS0.out
    have HBx : Hid (Below w.heap.size w w0.drew) := HBB.out _ hb0
    clear HW hE' hR' HBB hb0
    refine wp_region_L (fun W => W.cell? ⟨w.heap.size, 0, none⟩ = some (.slice ta f.terms.length tc) ∧ W.cell? ⟨w.heap.size, 1, none⟩ = some (.slice na f.nons.length nc) ∧ W.cell? ⟨w.heap.size, 2, none⟩ = some (.slice pa f.prods.length pc) ∧ W.cell? ⟨w.heap.size + 1, 0, none⟩ = some (.int .i64 x0) ∧ W.cell? ⟨w.heap.size + 1, 1, none⟩ = some (.int .i64 x1) ∧ W.cell? ⟨w.heap.size + 1, 2, none⟩ = some (.int .i64 x2) ∧ Below w0.heap.size w0 W) 26 (by kernel_rfl) 26 rfl ?_
    refine wpL_take (v := ?_) (oi := ⟨some 16, .fieldAddr 30 (.tmp 3) 1, 0, "item.go:52", #[], none⟩) (by decide) rfl (by kernel_rfl) (by kernel_rfl) (by kernel_rfl) (by kernel_rfl) (fun _ _ _ h => h) (Or.inl ⟨by rfl, ?_⟩) HS0.out ?_
    rotate_left
    · intro W hSW
      go_simp
      try with_reducible rfl
    simp only [Act.put, sA, s0, sS]
    refine wpL_take (v := ?_) (oi := ⟨some 17, .load 3 (.tmp 16), 3, "item.go:52", #[⟨0, .data⟩], none⟩) (by decide) rfl (by kernel_rfl) (by kernel_rfl) (by kernel_rfl) (by kernel_rfl) (fun _ _ _ h => h) (Or.inl ⟨by rfl, ?_⟩) HS0.out ?_
    rotate_left
    · intro W hSW
      go_simp
      try with_reducible rfl
    simp only [Act.put, sA, s0, sS]
    refine wpL_take (v := ?_) (oi := ⟨some 18, .binOp .leq 3 (.const (.int .i64 0)) (.tmp 17) 3, 4, "item.go:52", #[⟨1, .data⟩], none⟩) (by decide) rfl (by kernel_rfl) (by kernel_rfl) (by kernel_rfl) (by kernel_rfl) (fun _ _ _ h => h) (Or.inl ⟨by rfl, ?_⟩) HS0.out ?_
    rotate_left
    · intro W hSW
      go_simp
      try with_reducible rfl
    simp only [Act.put, sA, s0, sS]
    refine wpL_take (v := ?_) (oi := ⟨some 19, .move (.tmp 18), 4, "item.go:52", #[⟨2, .data⟩], none⟩) (by decide) rfl (by kernel_rfl) (by kernel_rfl) (by kernel_rfl) (by kernel_rfl) (fun _ _ _ h => h) (Or.inl ⟨by rfl, ?_⟩) HS0.out ?_
    rotate_left
    · intro W hSW
      go_simp
      try with_reducible rfl
    simp only [Act.put, sA, s0, sS]
    refine wpL_take (v := undef) (oi := ⟨some 20, .fieldAddr 30 (.tmp 3) 1, 0, "item.go:52", #[⟨3, .guard⟩], some (3, true)⟩) (by decide) rfl (by kernel_rfl) (by kernel_rfl) (by kernel_rfl) (by kernel_rfl) (fun _ _ _ h => h) (Or.inr ⟨by rfl, rfl⟩) HS0.out ?_
    simp only [Act.put, sA, s0, sS]
    refine wpL_take (v := undef) (oi := ⟨some 21, .load 3 (.tmp 20), 3, "item.go:52", #[⟨4, .data⟩, ⟨3, .guard⟩], some (3, true)⟩) (by decide) rfl (by kernel_rfl) (by kernel_rfl) (by kernel_rfl) (by kernel_rfl) (fun _ _ _ h => h) (Or.inr ⟨by rfl, rfl⟩) HS0.out ?_
    simp only [Act.put, sA, s0, sS]
    refine wpL_take (v := undef) (oi := ⟨some 22, .load 25 (.tmp 2), 25, "item.go:52", #[⟨3, .guard⟩], some (3, true)⟩) (by decide) rfl (by kernel_rfl) (by kernel_rfl) (by kernel_rfl) (by kernel_rfl) (fun _ _ _ h => h) (Or.inr ⟨by rfl, rfl⟩) HS0.out ?_
    simp only [Act.put, sA, s0, sS]
    refine wpL_take (v := undef) (oi := ⟨some 23, .fieldAddr 30 (.tmp 3) 0, 0, "item.go:52", #[⟨3, .guard⟩], some (3, true)⟩) (by decide) rfl (by kernel_rfl) (by kernel_rfl) (by kernel_rfl) (by kernel_rfl) (fun _ _ _ h => h) (Or.inr ⟨by rfl, rfl⟩) HS0.out ?_
    simp only [Act.put, sA, s0, sS]
    refine wpL_take (v := undef) (oi := ⟨some 24, .load 3 (.tmp 23), 3, "item.go:52", #[⟨7, .data⟩, ⟨3, .guard⟩], some (3, true)⟩) (by decide) rfl (by kernel_rfl) (by kernel_rfl) (by kernel_rfl) (by kernel_rfl) (fun _ _ _ h => h) (Or.inr ⟨by rfl, rfl⟩) HS0.out ?_
    simp only [Act.put, sA, s0, sS]
    refine wpL_take (v := undef) (oi := ⟨some 25, .call ⟨.value (.func 30), #[.tmp 22, .tmp 24], #[25, 3]⟩, 52, "item.go:52", #[⟨6, .data⟩, ⟨8, .data⟩, ⟨3, .chain⟩, ⟨3, .guard⟩], some (3, true)⟩) (by decide) rfl (by kernel_rfl) (by kernel_rfl) (by kernel_rfl) (by kernel_rfl) (fun _ _ _ h => h) (Or.inr ⟨by rfl, rfl⟩) HS0.out ?_
    simp only [Act.put, sA, s0, sS]
    refine wpL_take (v := undef) (oi := ⟨some 26, .call ⟨.builtin .len, #[.tmp 25], #[52]⟩, 3, "item.go:52", #[⟨9, .data⟩, ⟨3, .guard⟩], some (3, true)⟩) (by decide) rfl (by kernel_rfl) (by kernel_rfl) (by kernel_rfl) (by kernel_rfl) (fun _ _ _ h => h) (Or.inr ⟨by rfl, rfl⟩) HS0.out ?_
    simp only [Act.put, sA, s0, sS]
    refine wpL_take (v := undef) (oi := ⟨some 27, .binOp .leq 3 (.tmp 21) (.tmp 26) 3, 4, "item.go:52", #[⟨5, .data⟩, ⟨10, .data⟩, ⟨3, .guard⟩], some (3, true)⟩) (by decide) rfl (by kernel_rfl) (by kernel_rfl) (by kernel_rfl) (by kernel_rfl) (fun _ _ _ h => h) (Or.inr ⟨by rfl, rfl⟩) HS0.out ?_
    simp only [Act.put, sA, s0, sS]
    refine wpL_take (v := ?_) (oi := ⟨some 28, .pick (.tmp 19) (.tmp 27) (.const (.bool false)), 4, "item.go:52", #[⟨3, .data⟩, ⟨11, .data⟩], none⟩) (by decide) rfl (by kernel_rfl) (by kernel_rfl) (by kernel_rfl) (by kernel_rfl) (fun _ _ _ h => h) (Or.inl ⟨by rfl, ?_⟩) HS0.out ?_
    rotate_left
    · intro W hSW
      go_simp
      try with_reducible rfl
    simp only [Act.put, sA, s0, sS]
    refine wpL_take (v := ?_) (oi := ⟨some 29, .move (.tmp 28), 4, "item.go:52", #[⟨12, .data⟩, ⟨9, .chain⟩], none⟩) (by decide) rfl (by kernel_rfl) (by kernel_rfl) (by kernel_rfl) (by kernel_rfl) (fun _ _ _ h => h) (Or.inl ⟨by rfl, ?_⟩) HS0.out ?_
    rotate_left
    · intro W hSW
      go_simp
      try with_reducible rfl
    simp only [Act.put, sA, s0, sS]
    refine wpL_take (v := undef) (oi := ⟨some 30, .fieldAddr 30 (.tmp 3) 2, 0, "item.go:52", #[⟨13, .guard⟩], some (13, true)⟩) (by decide) rfl (by kernel_rfl) (by kernel_rfl) (by kernel_rfl) (by kernel_rfl) (fun _ _ _ h => h) (Or.inr ⟨by rfl, rfl⟩) HS0.out ?_
    simp only [Act.put, sA, s0, sS]
    refine wpL_take (v := undef) (oi := ⟨some 31, .load 3 (.tmp 30), 3, "item.go:52", #[⟨14, .data⟩, ⟨13, .guard⟩], some (13, true)⟩) (by decide) rfl (by kernel_rfl) (by kernel_rfl) (by kernel_rfl) (by kernel_rfl) (fun _ _ _ h => h) (Or.inr ⟨by rfl, rfl⟩) HS0.out ?_
    simp only [Act.put, sA, s0, sS]
    refine wpL_take (v := undef) (oi := ⟨some 32, .binOp .leq 3 (.const (.int .i64 0)) (.tmp 31) 3, 4, "item.go:52", #[⟨15, .data⟩, ⟨13, .guard⟩], some (13, true)⟩) (by decide) rfl (by kernel_rfl) (by kernel_rfl) (by kernel_rfl) (by kernel_rfl) (fun _ _ _ h => h) (Or.inr ⟨by rfl, rfl⟩) HS0.out ?_
    simp only [Act.put, sA, s0, sS]
    refine wpL_take (v := ?_) (oi := ⟨some 33, .pick (.tmp 29) (.tmp 32) (.const (.bool false)), 4, "item.go:52", #[⟨13, .data⟩, ⟨16, .data⟩], none⟩) (by decide) rfl (by kernel_rfl) (by kernel_rfl) (by kernel_rfl) (by kernel_rfl) (fun _ _ _ h => h) (Or.inl ⟨by rfl, ?_⟩) HS0.out ?_
    rotate_left
    · intro W hSW
      go_simp
      try with_reducible rfl
    simp only [Act.put, sA, s0, sS]
    refine wpL_take (v := ?_) (oi := ⟨some 34, .move (.tmp 33), 4, "item.go:52", #[⟨17, .data⟩, ⟨13, .chain⟩], none⟩) (by decide) rfl (by kernel_rfl) (by kernel_rfl) (by kernel_rfl) (by kernel_rfl) (fun _ _ _ h => h) (Or.inl ⟨by rfl, ?_⟩) HS0.out ?_
    rotate_left
    · intro W hSW
      go_simp
      try with_reducible rfl
    simp only [Act.put, sA, s0, sS]
    refine wpL_take (v := undef) (oi := ⟨some 35, .fieldAddr 30 (.tmp 3) 2, 0, "item.go:52", #[⟨18, .guard⟩], some (18, true)⟩) (by decide) rfl (by kernel_rfl) (by kernel_rfl) (by kernel_rfl) (by kernel_rfl) (fun _ _ _ h => h) (Or.inr ⟨by rfl, rfl⟩) HS0.out ?_
    simp only [Act.put, sA, s0, sS]
    refine wpL_take (v := undef) (oi := ⟨some 36, .load 3 (.tmp 35), 3, "item.go:52", #[⟨19, .data⟩, ⟨18, .guard⟩], some (18, true)⟩) (by decide) rfl (by kernel_rfl) (by kernel_rfl) (by kernel_rfl) (by kernel_rfl) (fun _ _ _ h => h) (Or.inr ⟨by rfl, rfl⟩) HS0.out ?_
    simp only [Act.put, sA, s0, sS]
    refine wpL_take (v := undef) (oi := ⟨some 37, .load 25 (.tmp 2), 25, "item.go:52", #[⟨18, .guard⟩], some (18, true)⟩) (by decide) rfl (by kernel_rfl) (by kernel_rfl) (by kernel_rfl) (by kernel_rfl) (fun _ _ _ h => h) (Or.inr ⟨by rfl, rfl⟩) HS0.out ?_
    simp only [Act.put, sA, s0, sS]
    refine wpL_take (v := undef) (oi := ⟨some 38, .call ⟨.value (.func 32), #[.tmp 37], #[25]⟩, 3, "item.go:52", #[⟨21, .data⟩, ⟨18, .chain⟩, ⟨18, .guard⟩], some (18, true)⟩) (by decide) rfl (by kernel_rfl) (by kernel_rfl) (by kernel_rfl) (by kernel_rfl) (fun _ _ _ h => h) (Or.inr ⟨by rfl, rfl⟩) HS0.out ?_
    simp only [Act.put, sA, s0, sS]
    refine wpL_take (v := undef) (oi := ⟨some 39, .binOp .leq 3 (.tmp 36) (.tmp 38) 3, 4, "item.go:52", #[⟨20, .data⟩, ⟨22, .data⟩, ⟨18, .guard⟩], some (18, true)⟩) (by decide) rfl (by kernel_rfl) (by kernel_rfl) (by kernel_rfl) (by kernel_rfl) (fun _ _ _ h => h) (Or.inr ⟨by rfl, rfl⟩) HS0.out ?_
    simp only [Act.put, sA, s0, sS]
    refine wpL_take (v := ?_) (oi := ⟨some 40, .pick (.tmp 34) (.tmp 39) (.const (.bool false)), 4, "item.go:52", #[⟨18, .data⟩, ⟨23, .data⟩], none⟩) (by decide) rfl (by kernel_rfl) (by kernel_rfl) (by kernel_rfl) (by kernel_rfl) (fun _ _ _ h => h) (Or.inl ⟨by rfl, ?_⟩) HS0.out ?_
    rotate_left
    · intro W hSW
      go_simp
      try with_reducible rfl
    simp only [Act.put, sA, s0, sS]
    refine wpL_take (v := ?_) (oi := ⟨some 4, .assign (.tmp 40), 4, "item.go:52", #[⟨24, .data⟩, ⟨22, .chain⟩, ⟨0, .phase⟩, ⟨1, .phase⟩, ⟨2, .phase⟩, ⟨3, .phase⟩, ⟨4, .phase⟩, ⟨5, .phase⟩, ⟨6, .phase⟩, ⟨7, .phase⟩, ⟨8, .phase⟩, ⟨9, .phase⟩, ⟨10, .phase⟩, ⟨11, .phase⟩, ⟨12, .phase⟩, ⟨13, .phase⟩, ⟨14, .phase⟩, ⟨15, .phase⟩, ⟨16, .phase⟩, ⟨17, .phase⟩, ⟨18, .phase⟩, ⟨19, .phase⟩, ⟨20, .phase⟩, ⟨21, .phase⟩, ⟨22, .phase⟩, ⟨23, .phase⟩, ⟨24, .phase⟩], none⟩) (by decide) rfl (by kernel_rfl) (by kernel_rfl) (by kernel_rfl) (by kernel_rfl) (fun _ _ _ h => h) (Or.inl ⟨by rfl, ?_⟩) HS0.out ?_
    rotate_left
    · intro W hSW
      go_simp
      try with_reducible rfl
    simp only [Act.put, sA, s0, sS]
    refine wpAnyL_done (by kernel_rfl) ?_ _
    go_wp2_with fail
    go_ret
    exact ⟨ret_bool HZ.out.symm, HBx.out⟩
end Go.Proofs.YtlaplmmicccbcaaGreatDoor
