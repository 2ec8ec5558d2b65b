/- Fit of the document. -/
import Derived.Test.YtlaplmmicccbcaaGreatDoorJ03
namespace Go.Proofs.YtlaplmmicccbcaaGreatDoor
open Go.RowKit

set_option maxRecDepth 100000 in
set_option maxHeartbeats 4000000 in
theorem rfit_item (f : Fl) (a : FlA) (x : Ir) (w : World) (hf : FlAt f a w) (hn : f.n ≤ 600) :
    Calls Tryz.prog 13 #[a.val f, valR x] w fun e w' => e = .returned (.bool (fitI f x)) ∧ Below w.heap.size w w' := by
  have hR := fun W (hb : Below w.heap.size w W) (h1 : -1 ≤ x.1) (h2 : x.1 < f.prods.length) => rright_any f a x.1 W (hf.next hb) hn h1 h2
  obtain ⟨ta, tc, na, nc, pa, pc⟩ := a
  obtain ⟨x0, x1, x2⟩ := x
  have X0 := FBox.new f ⟨ta, tc, na, nc, pa, pc⟩ 25 w
  have B0 : Below w.heap.size w (w.alloc (fobj f ⟨ta, tc, na, nc, pa, pc⟩ 25)) := (Below.refl _ _).alloc (Nat.le_refl _) _
  have Y0 := RBox.new (x0, x1, x2) 30 (w.alloc (fobj f ⟨ta, tc, na, nc, pa, pc⟩ 25))
  have X1 := X0.next ((Below.refl _ _).alloc (Nat.le_refl _) (Obj.cells #[.int .i64 x0, .int .i64 x1, .int .i64 x2] 30))
  have B1 := B0.alloc B0.size (Obj.cells #[.int .i64 x0, .int .i64 x1, .int .i64 x2] 30)
  have hz : (w.alloc (fobj f ⟨ta, tc, na, nc, pa, pc⟩ 25)).heap.size = w.heap.size + 1 := by simp
  rw [hz] at Y0
  clear X0 B0 hz
  unfold fobj at X1 B1 Y0
  clear hf
  unfold FlA.val at hR ⊢
  unfold valR
  simp only at *
  have HW : Hid (fitI f (x0, x1, x2) = decide (-1 ≤ x0 ∧ x0 < f.prods.length ∧ 0 ≤ x1 ∧ x1 ≤ (rightI f x0).length ∧ 0 ≤ x2 ∧ x2 ≤ f.terms.length)) := rfl
  obtain ⟨b1, y0, y1, y2⟩ := id Y0
  obtain ⟨b0, z0, z1, z2⟩ := id X1
  simp only at y0 y1 y2 z0 z1 z2
  go_enter Tryz.func13, Tryz.ntmps13
  go_wp2_with fail
  generalize (w.alloc (Obj.cells #[Value.slice ta f.terms.length tc, Value.slice na f.nons.length nc, Value.slice pa f.prods.length pc] 25)).alloc (Obj.cells #[.int .i64 x0, .int .i64 x1, .int .i64 x2] 30) = w0 at *
  have hstep : ∀ W w', (W.cell? ⟨w.heap.size, 0, none⟩ = some (.slice ta f.terms.length tc) ∧ W.cell? ⟨w.heap.size, 1, none⟩ = some (.slice na f.nons.length nc) ∧ W.cell? ⟨w.heap.size, 2, none⟩ = some (.slice pa f.prods.length pc) ∧ W.cell? ⟨w.heap.size + 1, 0, none⟩ = some (.int .i64 x0) ∧ W.cell? ⟨w.heap.size + 1, 1, none⟩ = some (.int .i64 x1) ∧ W.cell? ⟨w.heap.size + 1, 2, none⟩ = some (.int .i64 x2) ∧ Below w0.heap.size w0 W) → Below W.heap.size W w' → (w'.cell? ⟨w.heap.size, 0, none⟩ = some (.slice ta f.terms.length tc) ∧ w'.cell? ⟨w.heap.size, 1, none⟩ = some (.slice na f.nons.length nc) ∧ w'.cell? ⟨w.heap.size, 2, none⟩ = some (.slice pa f.prods.length pc) ∧ w'.cell? ⟨w.heap.size + 1, 0, none⟩ = some (.int .i64 x0) ∧ w'.cell? ⟨w.heap.size + 1, 1, none⟩ = some (.int .i64 x1) ∧ w'.cell? ⟨w.heap.size + 1, 2, none⟩ = some (.int .i64 x2) ∧ Below w0.heap.size w0 w') := by
    rintro W w' ⟨_, _, _, _, _, _, h⟩ hb
    have h' := below_then h hb h.size
    obtain ⟨_, k0, k1, k2⟩ := X1.next h'
    obtain ⟨_, l0, l1, l2⟩ := Y0.next h'
    exact ⟨k0, k1, k2, l0, l1, l2, h'⟩
  have hR' : ∀ W, (-1) ≤ x0 → x0 < f.prods.length → (W.cell? ⟨w.heap.size, 0, none⟩ = some (.slice ta f.terms.length tc) ∧ W.cell? ⟨w.heap.size, 1, none⟩ = some (.slice na f.nons.length nc) ∧ W.cell? ⟨w.heap.size, 2, none⟩ = some (.slice pa f.prods.length pc) ∧ W.cell? ⟨w.heap.size + 1, 0, none⟩ = some (.int .i64 x0) ∧ W.cell? ⟨w.heap.size + 1, 1, none⟩ = some (.int .i64 x1) ∧ W.cell? ⟨w.heap.size + 1, 2, none⟩ = some (.int .i64 x2) ∧ Below w0.heap.size w0 W) → Calls Tryz.prog 31 #[.agg #[.slice ta f.terms.length tc, .slice na f.nons.length nc, .slice pa f.prods.length pc], .int .i64 x0] W fun e w' => ∃ va vc, e = .returned (.slice va (rightI f x0).length vc) ∧ (w'.cell? ⟨w.heap.size, 0, none⟩ = some (.slice ta f.terms.length tc) ∧ w'.cell? ⟨w.heap.size, 1, none⟩ = some (.slice na f.nons.length nc) ∧ w'.cell? ⟨w.heap.size, 2, none⟩ = some (.slice pa f.prods.length pc) ∧ w'.cell? ⟨w.heap.size + 1, 0, none⟩ = some (.int .i64 x0) ∧ w'.cell? ⟨w.heap.size + 1, 1, none⟩ = some (.int .i64 x1) ∧ w'.cell? ⟨w.heap.size + 1, 2, none⟩ = some (.int .i64 x2) ∧ Below w0.heap.size w0 w') := by
    intro W h1 h2 hS
    refine (hR W (below_then B1 hS.2.2.2.2.2.2 B1.size) h1 h2).mono ?_
    rintro e w' ⟨v, rfl, ⟨va, vc, rfl, _⟩, hb⟩
    exact ⟨va, vc, rfl, hstep _ _ hS hb⟩
  have HS0 : Hid (w0.drew.cell? ⟨w.heap.size, 0, none⟩ = some (.slice ta f.terms.length tc) ∧ w0.drew.cell? ⟨w.heap.size, 1, none⟩ = some (.slice na f.nons.length nc) ∧ w0.drew.cell? ⟨w.heap.size, 2, none⟩ = some (.slice pa f.prods.length pc) ∧ w0.drew.cell? ⟨w.heap.size + 1, 0, none⟩ = some (.int .i64 x0) ∧ w0.drew.cell? ⟨w.heap.size + 1, 1, none⟩ = some (.int .i64 x1) ∧ w0.drew.cell? ⟨w.heap.size + 1, 2, none⟩ = some (.int .i64 x2) ∧ Below w0.heap.size w0 w0.drew) := ⟨z0, z1, z2, y0, y1, y2, (Below.refl _ _).drew⟩
  have HBB : Hid (∀ W, Below w0.heap.size w0 W → Below w.heap.size w W) := fun W hb => below_then B1 hb B1.size
  generalize (rightI f x0).length = L at *
  clear hR hstep X1 Y0 B1 b0 b1 z0 z1 z2 y0 y1 y2
  by_cases d0 : (-1 : Int) ≤ x0
  rotate_left
  · have HZ : Hid (fitI f (x0, x1, x2) = false) := by show _ = _; rw [HW.out]; exact decide_eq_false (by omega)
    have e0 : decide ((-1 : Int) ≤ x0) = false := decide_eq_false d0
    clear HW
    refine wp_region_L (fun W => W.cell? ⟨w.heap.size, 0, none⟩ = some (.slice ta f.terms.length tc) ∧ W.cell? ⟨w.heap.size, 1, none⟩ = some (.slice na f.nons.length nc) ∧ W.cell? ⟨w.heap.size, 2, none⟩ = some (.slice pa f.prods.length pc) ∧ W.cell? ⟨w.heap.size + 1, 0, none⟩ = some (.int .i64 x0) ∧ W.cell? ⟨w.heap.size + 1, 1, none⟩ = some (.int .i64 x1) ∧ W.cell? ⟨w.heap.size + 1, 2, none⟩ = some (.int .i64 x2) ∧ Below w0.heap.size w0 W) 40 (by kernel_rfl) 40 rfl ?_
    refine wpL_take (v := ?_) (oi := ⟨some 5, .fieldAddr 30 (.tmp 3) 0, 0, "ref.go:21", #[], none⟩) (by decide) rfl (by kernel_rfl) (by kernel_rfl) (by kernel_rfl) (by kernel_rfl) (fun _ _ _ h => h) (Or.inl ⟨by rfl, ?_⟩) HS0.out ?_
    rotate_left
    · intro W hSW
      go_simp
      try with_reducible rfl
    simp only [Act.put, sA, s0, sS]
    refine wpL_take (v := ?_) (oi := ⟨some 6, .load 3 (.tmp 5), 3, "ref.go:21", #[⟨0, .data⟩], none⟩) (by decide) rfl (by kernel_rfl) (by kernel_rfl) (by kernel_rfl) (by kernel_rfl) (fun _ _ _ h => h) (Or.inl ⟨by rfl, ?_⟩) HS0.out ?_
    rotate_left
    · intro W hSW
      go_simp
      try with_reducible rfl
    simp only [Act.put, sA, s0, sS]
    refine wpL_take (v := ?_) (oi := ⟨some 7, .binOp .geq 3 (.tmp 6) (.const (.int .i64 (-1))) 3, 4, "ref.go:21", #[⟨1, .data⟩], none⟩) (by decide) rfl (by kernel_rfl) (by kernel_rfl) (by kernel_rfl) (by kernel_rfl) (fun _ _ _ h => h) (Or.inl ⟨by rfl, ?_⟩) HS0.out ?_
    rotate_left
    · intro W hSW
      go_simp
      try with_reducible rfl
    simp only [Act.put, sA, s0, sS]
    refine wpL_take (v := ?_) (oi := ⟨some 8, .move (.tmp 7), 4, "ref.go:21", #[⟨2, .data⟩], none⟩) (by decide) rfl (by kernel_rfl) (by kernel_rfl) (by kernel_rfl) (by kernel_rfl) (fun _ _ _ h => h) (Or.inl ⟨by rfl, ?_⟩) HS0.out ?_
    rotate_left
    · intro W hSW
      go_simp
      try with_reducible rfl
    simp only [Act.put, sA, s0, sS]
    refine wpL_take (v := undef) (oi := ⟨some 9, .fieldAddr 30 (.tmp 3) 0, 0, "ref.go:21", #[⟨3, .guard⟩], some (3, true)⟩) (by decide) rfl (by kernel_rfl) (by kernel_rfl) (by kernel_rfl) (by kernel_rfl) (fun _ _ _ h => h) (Or.inr ⟨by rfl, rfl⟩) HS0.out ?_
    simp only [Act.put, sA, s0, sS]
    refine wpL_take (v := undef) (oi := ⟨some 10, .load 3 (.tmp 9), 3, "ref.go:21", #[⟨4, .data⟩, ⟨3, .guard⟩], some (3, true)⟩) (by decide) rfl (by kernel_rfl) (by kernel_rfl) (by kernel_rfl) (by kernel_rfl) (fun _ _ _ h => h) (Or.inr ⟨by rfl, rfl⟩) HS0.out ?_
    simp only [Act.put, sA, s0, sS]
    refine wpL_take (v := undef) (oi := ⟨some 11, .fieldAddr 25 (.tmp 2) 2, 0, "ref.go:21", #[⟨3, .guard⟩], some (3, true)⟩) (by decide) rfl (by kernel_rfl) (by kernel_rfl) (by kernel_rfl) (by kernel_rfl) (fun _ _ _ h => h) (Or.inr ⟨by rfl, rfl⟩) HS0.out ?_
    simp only [Act.put, sA, s0, sS]
    refine wpL_take (v := undef) (oi := ⟨some 12, .load 23 (.tmp 11), 23, "ref.go:21", #[⟨6, .data⟩, ⟨3, .guard⟩], some (3, true)⟩) (by decide) rfl (by kernel_rfl) (by kernel_rfl) (by kernel_rfl) (by kernel_rfl) (fun _ _ _ h => h) (Or.inr ⟨by rfl, rfl⟩) HS0.out ?_
    simp only [Act.put, sA, s0, sS]
    refine wpL_take (v := undef) (oi := ⟨some 13, .call ⟨.builtin .len, #[.tmp 12], #[23]⟩, 3, "ref.go:21", #[⟨7, .data⟩, ⟨3, .guard⟩], some (3, true)⟩) (by decide) rfl (by kernel_rfl) (by kernel_rfl) (by kernel_rfl) (by kernel_rfl) (fun _ _ _ h => h) (Or.inr ⟨by rfl, rfl⟩) HS0.out ?_
    simp only [Act.put, sA, s0, sS]
    refine wpL_take (v := undef) (oi := ⟨some 14, .binOp .lss 3 (.tmp 10) (.tmp 13) 3, 4, "ref.go:21", #[⟨5, .data⟩, ⟨8, .data⟩, ⟨3, .guard⟩], some (3, true)⟩) (by decide) rfl (by kernel_rfl) (by kernel_rfl) (by kernel_rfl) (by kernel_rfl) (fun _ _ _ h => h) (Or.inr ⟨by rfl, rfl⟩) HS0.out ?_
    simp only [Act.put, sA, s0, sS]
    refine wpL_take (v := ?_) (oi := ⟨some 15, .pick (.tmp 8) (.tmp 14) (.const (.bool false)), 4, "ref.go:21", #[⟨3, .data⟩, ⟨9, .data⟩], none⟩) (by decide) rfl (by kernel_rfl) (by kernel_rfl) (by kernel_rfl) (by kernel_rfl) (fun _ _ _ h => h) (Or.inl ⟨by rfl, ?_⟩) HS0.out ?_
    rotate_left
    · intro W hSW
      go_simp
      try with_reducible rfl
    simp only [Act.put, sA, s0, sS]
    refine wpL_take (v := ?_) (oi := ⟨some 16, .move (.tmp 15), 4, "ref.go:21", #[⟨10, .data⟩, ⟨3, .chain⟩], none⟩) (by decide) rfl (by kernel_rfl) (by kernel_rfl) (by kernel_rfl) (by kernel_rfl) (fun _ _ _ h => h) (Or.inl ⟨by rfl, ?_⟩) HS0.out ?_
    rotate_left
    · intro W hSW
      go_simp
      try with_reducible rfl
    simp only [Act.put, sA, s0, sS]
    refine wpL_take (v := undef) (oi := ⟨some 17, .fieldAddr 30 (.tmp 3) 1, 0, "ref.go:21", #[⟨11, .guard⟩], some (11, true)⟩) (by decide) rfl (by kernel_rfl) (by kernel_rfl) (by kernel_rfl) (by kernel_rfl) (fun _ _ _ h => h) (Or.inr ⟨by rfl, rfl⟩) HS0.out ?_
    simp only [Act.put, sA, s0, sS]
    refine wpL_take (v := undef) (oi := ⟨some 18, .load 3 (.tmp 17), 3, "ref.go:21", #[⟨12, .data⟩, ⟨11, .guard⟩], some (11, true)⟩) (by decide) rfl (by kernel_rfl) (by kernel_rfl) (by kernel_rfl) (by kernel_rfl) (fun _ _ _ h => h) (Or.inr ⟨by rfl, rfl⟩) HS0.out ?_
    simp only [Act.put, sA, s0, sS]
    refine wpL_take (v := undef) (oi := ⟨some 19, .binOp .geq 3 (.tmp 18) (.const (.int .i64 0)) 3, 4, "ref.go:21", #[⟨13, .data⟩, ⟨11, .guard⟩], some (11, true)⟩) (by decide) rfl (by kernel_rfl) (by kernel_rfl) (by kernel_rfl) (by kernel_rfl) (fun _ _ _ h => h) (Or.inr ⟨by rfl, rfl⟩) HS0.out ?_
    simp only [Act.put, sA, s0, sS]
    refine wpL_take (v := ?_) (oi := ⟨some 20, .pick (.tmp 16) (.tmp 19) (.const (.bool false)), 4, "ref.go:21", #[⟨11, .data⟩, ⟨14, .data⟩], none⟩) (by decide) rfl (by kernel_rfl) (by kernel_rfl) (by kernel_rfl) (by kernel_rfl) (fun _ _ _ h => h) (Or.inl ⟨by rfl, ?_⟩) HS0.out ?_
    rotate_left
    · intro W hSW
      go_simp
      try with_reducible rfl
    simp only [Act.put, sA, s0, sS]
    refine wpL_take (v := ?_) (oi := ⟨some 21, .move (.tmp 20), 4, "ref.go:21", #[⟨15, .data⟩, ⟨11, .chain⟩], none⟩) (by decide) rfl (by kernel_rfl) (by kernel_rfl) (by kernel_rfl) (by kernel_rfl) (fun _ _ _ h => h) (Or.inl ⟨by rfl, ?_⟩) HS0.out ?_
    rotate_left
    · intro W hSW
      go_simp
      try with_reducible rfl
    simp only [Act.put, sA, s0, sS]
    refine wpL_take (v := undef) (oi := ⟨some 22, .fieldAddr 30 (.tmp 3) 1, 0, "ref.go:21", #[⟨16, .guard⟩], some (16, true)⟩) (by decide) rfl (by kernel_rfl) (by kernel_rfl) (by kernel_rfl) (by kernel_rfl) (fun _ _ _ h => h) (Or.inr ⟨by rfl, rfl⟩) HS0.out ?_
    simp only [Act.put, sA, s0, sS]
    refine wpL_take (v := undef) (oi := ⟨some 23, .load 3 (.tmp 22), 3, "ref.go:21", #[⟨17, .data⟩, ⟨16, .guard⟩], some (16, true)⟩) (by decide) rfl (by kernel_rfl) (by kernel_rfl) (by kernel_rfl) (by kernel_rfl) (fun _ _ _ h => h) (Or.inr ⟨by rfl, rfl⟩) HS0.out ?_
    simp only [Act.put, sA, s0, sS]
    refine wpL_take (v := undef) (oi := ⟨some 24, .load 25 (.tmp 2), 25, "ref.go:21", #[⟨16, .guard⟩], some (16, true)⟩) (by decide) rfl (by kernel_rfl) (by kernel_rfl) (by kernel_rfl) (by kernel_rfl) (fun _ _ _ h => h) (Or.inr ⟨by rfl, rfl⟩) HS0.out ?_
    simp only [Act.put, sA, s0, sS]
    refine wpL_take (v := undef) (oi := ⟨some 25, .fieldAddr 30 (.tmp 3) 0, 0, "ref.go:21", #[⟨16, .guard⟩], some (16, true)⟩) (by decide) rfl (by kernel_rfl) (by kernel_rfl) (by kernel_rfl) (by kernel_rfl) (fun _ _ _ h => h) (Or.inr ⟨by rfl, rfl⟩) HS0.out ?_
    simp only [Act.put, sA, s0, sS]
    refine wpL_take (v := undef) (oi := ⟨some 26, .load 3 (.tmp 25), 3, "ref.go:21", #[⟨20, .data⟩, ⟨16, .guard⟩], some (16, true)⟩) (by decide) rfl (by kernel_rfl) (by kernel_rfl) (by kernel_rfl) (by kernel_rfl) (fun _ _ _ h => h) (Or.inr ⟨by rfl, rfl⟩) HS0.out ?_
    simp only [Act.put, sA, s0, sS]
    refine wpL_take (v := undef) (oi := ⟨some 27, .call ⟨.value (.func 31), #[.tmp 24, .tmp 26], #[25, 3]⟩, 52, "ref.go:21", #[⟨19, .data⟩, ⟨21, .data⟩, ⟨16, .chain⟩, ⟨16, .guard⟩], some (16, true)⟩) (by decide) rfl (by kernel_rfl) (by kernel_rfl) (by kernel_rfl) (by kernel_rfl) (fun _ _ _ h => h) (Or.inr ⟨by rfl, rfl⟩) HS0.out ?_
    simp only [Act.put, sA, s0, sS]
    refine wpL_take (v := undef) (oi := ⟨some 28, .call ⟨.builtin .len, #[.tmp 27], #[52]⟩, 3, "ref.go:21", #[⟨22, .data⟩, ⟨16, .guard⟩], some (16, true)⟩) (by decide) rfl (by kernel_rfl) (by kernel_rfl) (by kernel_rfl) (by kernel_rfl) (fun _ _ _ h => h) (Or.inr ⟨by rfl, rfl⟩) HS0.out ?_
    simp only [Act.put, sA, s0, sS]
    refine wpL_take (v := undef) (oi := ⟨some 29, .binOp .leq 3 (.tmp 23) (.tmp 28) 3, 4, "ref.go:21", #[⟨18, .data⟩, ⟨23, .data⟩, ⟨16, .guard⟩], some (16, true)⟩) (by decide) rfl (by kernel_rfl) (by kernel_rfl) (by kernel_rfl) (by kernel_rfl) (fun _ _ _ h => h) (Or.inr ⟨by rfl, rfl⟩) HS0.out ?_
    simp only [Act.put, sA, s0, sS]
    refine wpL_take (v := ?_) (oi := ⟨some 30, .pick (.tmp 21) (.tmp 29) (.const (.bool false)), 4, "ref.go:21", #[⟨16, .data⟩, ⟨24, .data⟩], none⟩) (by decide) rfl (by kernel_rfl) (by kernel_rfl) (by kernel_rfl) (by kernel_rfl) (fun _ _ _ h => h) (Or.inl ⟨by rfl, ?_⟩) HS0.out ?_
    rotate_left
    · intro W hSW
      go_simp
      try with_reducible rfl
    simp only [Act.put, sA, s0, sS]
    refine wpL_take (v := ?_) (oi := ⟨some 31, .move (.tmp 30), 4, "ref.go:21", #[⟨25, .data⟩, ⟨22, .chain⟩], none⟩) (by decide) rfl (by kernel_rfl) (by kernel_rfl) (by kernel_rfl) (by kernel_rfl) (fun _ _ _ h => h) (Or.inl ⟨by rfl, ?_⟩) HS0.out ?_
    rotate_left
    · intro W hSW
      go_simp
      try with_reducible rfl
    simp only [Act.put, sA, s0, sS]
    refine wpL_take (v := undef) (oi := ⟨some 32, .fieldAddr 30 (.tmp 3) 2, 0, "ref.go:21", #[⟨26, .guard⟩], some (26, true)⟩) (by decide) rfl (by kernel_rfl) (by kernel_rfl) (by kernel_rfl) (by kernel_rfl) (fun _ _ _ h => h) (Or.inr ⟨by rfl, rfl⟩) HS0.out ?_
    simp only [Act.put, sA, s0, sS]
    refine wpL_take (v := undef) (oi := ⟨some 33, .load 3 (.tmp 32), 3, "ref.go:21", #[⟨27, .data⟩, ⟨26, .guard⟩], some (26, true)⟩) (by decide) rfl (by kernel_rfl) (by kernel_rfl) (by kernel_rfl) (by kernel_rfl) (fun _ _ _ h => h) (Or.inr ⟨by rfl, rfl⟩) HS0.out ?_
    simp only [Act.put, sA, s0, sS]
    refine wpL_take (v := undef) (oi := ⟨some 34, .binOp .geq 3 (.tmp 33) (.const (.int .i64 0)) 3, 4, "ref.go:21", #[⟨28, .data⟩, ⟨26, .guard⟩], some (26, true)⟩) (by decide) rfl (by kernel_rfl) (by kernel_rfl) (by kernel_rfl) (by kernel_rfl) (fun _ _ _ h => h) (Or.inr ⟨by rfl, rfl⟩) HS0.out ?_
    simp only [Act.put, sA, s0, sS]
    refine wpL_take (v := ?_) (oi := ⟨some 35, .pick (.tmp 31) (.tmp 34) (.const (.bool false)), 4, "ref.go:21", #[⟨26, .data⟩, ⟨29, .data⟩], none⟩) (by decide) rfl (by kernel_rfl) (by kernel_rfl) (by kernel_rfl) (by kernel_rfl) (fun _ _ _ h => h) (Or.inl ⟨by rfl, ?_⟩) HS0.out ?_
    rotate_left
    · intro W hSW
      go_simp
      try with_reducible rfl
    simp only [Act.put, sA, s0, sS]
    refine wpL_take (v := ?_) (oi := ⟨some 36, .move (.tmp 35), 4, "ref.go:21", #[⟨30, .data⟩, ⟨26, .chain⟩], none⟩) (by decide) rfl (by kernel_rfl) (by kernel_rfl) (by kernel_rfl) (by kernel_rfl) (fun _ _ _ h => h) (Or.inl ⟨by rfl, ?_⟩) HS0.out ?_
    rotate_left
    · intro W hSW
      go_simp
      try with_reducible rfl
    simp only [Act.put, sA, s0, sS]
    refine wpL_take (v := undef) (oi := ⟨some 37, .fieldAddr 30 (.tmp 3) 2, 0, "ref.go:21", #[⟨31, .guard⟩], some (31, true)⟩) (by decide) rfl (by kernel_rfl) (by kernel_rfl) (by kernel_rfl) (by kernel_rfl) (fun _ _ _ h => h) (Or.inr ⟨by rfl, rfl⟩) HS0.out ?_
    simp only [Act.put, sA, s0, sS]
    refine wpL_take (v := undef) (oi := ⟨some 38, .load 3 (.tmp 37), 3, "ref.go:21", #[⟨32, .data⟩, ⟨31, .guard⟩], some (31, true)⟩) (by decide) rfl (by kernel_rfl) (by kernel_rfl) (by kernel_rfl) (by kernel_rfl) (fun _ _ _ h => h) (Or.inr ⟨by rfl, rfl⟩) HS0.out ?_
    simp only [Act.put, sA, s0, sS]
    refine wpL_take (v := undef) (oi := ⟨some 39, .fieldAddr 25 (.tmp 2) 0, 0, "ref.go:21", #[⟨31, .guard⟩], some (31, true)⟩) (by decide) rfl (by kernel_rfl) (by kernel_rfl) (by kernel_rfl) (by kernel_rfl) (fun _ _ _ h => h) (Or.inr ⟨by rfl, rfl⟩) HS0.out ?_
    simp only [Act.put, sA, s0, sS]
    refine wpL_take (v := undef) (oi := ⟨some 40, .load 22 (.tmp 39), 22, "ref.go:21", #[⟨34, .data⟩, ⟨31, .guard⟩], some (31, true)⟩) (by decide) rfl (by kernel_rfl) (by kernel_rfl) (by kernel_rfl) (by kernel_rfl) (fun _ _ _ h => h) (Or.inr ⟨by rfl, rfl⟩) HS0.out ?_
    simp only [Act.put, sA, s0, sS]
    refine wpL_take (v := undef) (oi := ⟨some 41, .call ⟨.builtin .len, #[.tmp 40], #[22]⟩, 3, "ref.go:21", #[⟨35, .data⟩, ⟨31, .guard⟩], some (31, true)⟩) (by decide) rfl (by kernel_rfl) (by kernel_rfl) (by kernel_rfl) (by kernel_rfl) (fun _ _ _ h => h) (Or.inr ⟨by rfl, rfl⟩) HS0.out ?_
    simp only [Act.put, sA, s0, sS]
    refine wpL_take (v := undef) (oi := ⟨some 42, .binOp .leq 3 (.tmp 38) (.tmp 41) 3, 4, "ref.go:21", #[⟨33, .data⟩, ⟨36, .data⟩, ⟨31, .guard⟩], some (31, true)⟩) (by decide) rfl (by kernel_rfl) (by kernel_rfl) (by kernel_rfl) (by kernel_rfl) (fun _ _ _ h => h) (Or.inr ⟨by rfl, rfl⟩) HS0.out ?_
    simp only [Act.put, sA, s0, sS]
    refine wpL_take (v := ?_) (oi := ⟨some 43, .pick (.tmp 36) (.tmp 42) (.const (.bool false)), 4, "ref.go:21", #[⟨31, .data⟩, ⟨37, .data⟩], none⟩) (by decide) rfl (by kernel_rfl) (by kernel_rfl) (by kernel_rfl) (by kernel_rfl) (fun _ _ _ h => h) (Or.inl ⟨by rfl, ?_⟩) HS0.out ?_
    rotate_left
    · intro W hSW
      go_simp
      try with_reducible rfl
    simp only [Act.put, sA, s0, sS]
    refine wpL_take (v := ?_) (oi := ⟨some 4, .assign (.tmp 43), 4, "ref.go:21", #[⟨38, .data⟩, ⟨31, .chain⟩, ⟨0, .phase⟩, ⟨1, .phase⟩, ⟨2, .phase⟩, ⟨3, .phase⟩, ⟨4, .phase⟩, ⟨5, .phase⟩, ⟨6, .phase⟩, ⟨7, .phase⟩, ⟨8, .phase⟩, ⟨9, .phase⟩, ⟨10, .phase⟩, ⟨11, .phase⟩, ⟨12, .phase⟩, ⟨13, .phase⟩, ⟨14, .phase⟩, ⟨15, .phase⟩, ⟨16, .phase⟩, ⟨17, .phase⟩, ⟨18, .phase⟩, ⟨19, .phase⟩, ⟨20, .phase⟩, ⟨21, .phase⟩, ⟨22, .phase⟩, ⟨23, .phase⟩, ⟨24, .phase⟩, ⟨25, .phase⟩, ⟨26, .phase⟩, ⟨27, .phase⟩, ⟨28, .phase⟩, ⟨29, .phase⟩, ⟨30, .phase⟩, ⟨31, .phase⟩, ⟨32, .phase⟩, ⟨33, .phase⟩, ⟨34, .phase⟩, ⟨35, .phase⟩, ⟨36, .phase⟩, ⟨37, .phase⟩, ⟨38, .phase⟩], none⟩) (by decide) rfl (by kernel_rfl) (by kernel_rfl) (by kernel_rfl) (by kernel_rfl) (fun _ _ _ h => h) (Or.inl ⟨by rfl, ?_⟩) HS0.out ?_
    rotate_left
    · intro W hSW
      go_simp
      try with_reducible rfl
    simp only [Act.put, sA, s0, sS]
    refine wpAnyL_done (by kernel_rfl) ?_ _
    have HBx : Hid (Below w.heap.size w w0.drew) := HBB.out _ HS0.out.2.2.2.2.2.2
    clear hR' HBB HS0
    go_wp2_with fail
    go_ret
    exact ⟨ret_bool HZ.out.symm, HBx.out⟩
  by_cases d1 : x0 < (f.prods.length : Int)
  rotate_left
  · have HZ : Hid (fitI f (x0, x1, x2) = false) := by show _ = _; rw [HW.out]; exact decide_eq_false (by omega)
    have e0 : decide ((-1 : Int) ≤ x0) = true := decide_eq_true d0
    have e1 : decide (x0 < (f.prods.length : Int)) = false := decide_eq_false d1
    clear HW
    refine wp_region_L (fun W => W.cell? ⟨w.heap.size, 0, none⟩ = some (.slice ta f.terms.length tc) ∧ W.cell? ⟨w.heap.size, 1, none⟩ = some (.slice na f.nons.length nc) ∧ W.cell? ⟨w.heap.size, 2, none⟩ = some (.slice pa f.prods.length pc) ∧ W.cell? ⟨w.heap.size + 1, 0, none⟩ = some (.int .i64 x0) ∧ W.cell? ⟨w.heap.size + 1, 1, none⟩ = some (.int .i64 x1) ∧ W.cell? ⟨w.heap.size + 1, 2, none⟩ = some (.int .i64 x2) ∧ Below w0.heap.size w0 W) 40 (by kernel_rfl) 40 rfl ?_
    refine wpL_take (v := ?_) (oi := ⟨some 5, .fieldAddr 30 (.tmp 3) 0, 0, "ref.go:21", #[], none⟩) (by decide) rfl (by kernel_rfl) (by kernel_rfl) (by kernel_rfl) (by kernel_rfl) (fun _ _ _ h => h) (Or.inl ⟨by rfl, ?_⟩) HS0.out ?_
    rotate_left
    · intro W hSW
      go_simp
      try with_reducible rfl
    simp only [Act.put, sA, s0, sS]
    refine wpL_take (v := ?_) (oi := ⟨some 6, .load 3 (.tmp 5), 3, "ref.go:21", #[⟨0, .data⟩], none⟩) (by decide) rfl (by kernel_rfl) (by kernel_rfl) (by kernel_rfl) (by kernel_rfl) (fun _ _ _ h => h) (Or.inl ⟨by rfl, ?_⟩) HS0.out ?_
    rotate_left
    · intro W hSW
      go_simp
      try with_reducible rfl
    simp only [Act.put, sA, s0, sS]
    refine wpL_take (v := ?_) (oi := ⟨some 7, .binOp .geq 3 (.tmp 6) (.const (.int .i64 (-1))) 3, 4, "ref.go:21", #[⟨1, .data⟩], none⟩) (by decide) rfl (by kernel_rfl) (by kernel_rfl) (by kernel_rfl) (by kernel_rfl) (fun _ _ _ h => h) (Or.inl ⟨by rfl, ?_⟩) HS0.out ?_
    rotate_left
    · intro W hSW
      go_simp
      try with_reducible rfl
    simp only [Act.put, sA, s0, sS]
    refine wpL_take (v := ?_) (oi := ⟨some 8, .move (.tmp 7), 4, "ref.go:21", #[⟨2, .data⟩], none⟩) (by decide) rfl (by kernel_rfl) (by kernel_rfl) (by kernel_rfl) (by kernel_rfl) (fun _ _ _ h => h) (Or.inl ⟨by rfl, ?_⟩) HS0.out ?_
    rotate_left
    · intro W hSW
      go_simp
      try with_reducible rfl
    simp only [Act.put, sA, s0, sS]
    refine wpL_take (v := ?_) (oi := ⟨some 9, .fieldAddr 30 (.tmp 3) 0, 0, "ref.go:21", #[⟨3, .guard⟩], some (3, true)⟩) (by decide) rfl (by kernel_rfl) (by kernel_rfl) (by kernel_rfl) (by kernel_rfl) (fun _ _ _ h => h) (Or.inl ⟨by rfl, ?_⟩) HS0.out ?_
    rotate_left
    · intro W hSW
      go_simp
      try with_reducible rfl
    simp only [Act.put, sA, s0, sS]
    refine wpL_take (v := ?_) (oi := ⟨some 10, .load 3 (.tmp 9), 3, "ref.go:21", #[⟨4, .data⟩, ⟨3, .guard⟩], some (3, true)⟩) (by decide) rfl (by kernel_rfl) (by kernel_rfl) (by kernel_rfl) (by kernel_rfl) (fun _ _ _ h => h) (Or.inl ⟨by rfl, ?_⟩) HS0.out ?_
    rotate_left
    · intro W hSW
      go_simp
      try with_reducible rfl
    simp only [Act.put, sA, s0, sS]
    refine wpL_take (v := ?_) (oi := ⟨some 11, .fieldAddr 25 (.tmp 2) 2, 0, "ref.go:21", #[⟨3, .guard⟩], some (3, true)⟩) (by decide) rfl (by kernel_rfl) (by kernel_rfl) (by kernel_rfl) (by kernel_rfl) (fun _ _ _ h => h) (Or.inl ⟨by rfl, ?_⟩) HS0.out ?_
    rotate_left
    · intro W hSW
      go_simp
      try with_reducible rfl
    simp only [Act.put, sA, s0, sS]
    refine wpL_take (v := ?_) (oi := ⟨some 12, .load 23 (.tmp 11), 23, "ref.go:21", #[⟨6, .data⟩, ⟨3, .guard⟩], some (3, true)⟩) (by decide) rfl (by kernel_rfl) (by kernel_rfl) (by kernel_rfl) (by kernel_rfl) (fun _ _ _ h => h) (Or.inl ⟨by rfl, ?_⟩) HS0.out ?_
    rotate_left
    · intro W hSW
      go_simp
      try with_reducible rfl
    simp only [Act.put, sA, s0, sS]
    refine wpL_take (v := ?_) (oi := ⟨some 13, .call ⟨.builtin .len, #[.tmp 12], #[23]⟩, 3, "ref.go:21", #[⟨7, .data⟩, ⟨3, .guard⟩], some (3, true)⟩) (by decide) rfl (by kernel_rfl) (by kernel_rfl) (by kernel_rfl) (by kernel_rfl) (fun _ _ _ h => h) (Or.inl ⟨by rfl, ?_⟩) HS0.out ?_
    rotate_left
    · intro W hSW
      go_simp
      try with_reducible rfl
    simp only [Act.put, sA, s0, sS]
    refine wpL_take (v := ?_) (oi := ⟨some 14, .binOp .lss 3 (.tmp 10) (.tmp 13) 3, 4, "ref.go:21", #[⟨5, .data⟩, ⟨8, .data⟩, ⟨3, .guard⟩], some (3, true)⟩) (by decide) rfl (by kernel_rfl) (by kernel_rfl) (by kernel_rfl) (by kernel_rfl) (fun _ _ _ h => h) (Or.inl ⟨by rfl, ?_⟩) HS0.out ?_
    rotate_left
    · intro W hSW
      go_simp
      try with_reducible rfl
    simp only [Act.put, sA, s0, sS]
    refine wpL_take (v := ?_) (oi := ⟨some 15, .pick (.tmp 8) (.tmp 14) (.const (.bool false)), 4, "ref.go:21", #[⟨3, .data⟩, ⟨9, .data⟩], none⟩) (by decide) rfl (by kernel_rfl) (by kernel_rfl) (by kernel_rfl) (by kernel_rfl) (fun _ _ _ h => h) (Or.inl ⟨by rfl, ?_⟩) HS0.out ?_
    rotate_left
    · intro W hSW
      go_simp
      try with_reducible rfl
    simp only [Act.put, sA, s0, sS]
    refine wpL_take (v := ?_) (oi := ⟨some 16, .move (.tmp 15), 4, "ref.go:21", #[⟨10, .data⟩, ⟨3, .chain⟩], none⟩) (by decide) rfl (by kernel_rfl) (by kernel_rfl) (by kernel_rfl) (by kernel_rfl) (fun _ _ _ h => h) (Or.inl ⟨by rfl, ?_⟩) HS0.out ?_
    rotate_left
    · intro W hSW
      go_simp
      try with_reducible rfl
    simp only [Act.put, sA, s0, sS]
    refine wpL_take (v := undef) (oi := ⟨some 17, .fieldAddr 30 (.tmp 3) 1, 0, "ref.go:21", #[⟨11, .guard⟩], some (11, true)⟩) (by decide) rfl (by kernel_rfl) (by kernel_rfl) (by kernel_rfl) (by kernel_rfl) (fun _ _ _ h => h) (Or.inr ⟨by rfl, rfl⟩) HS0.out ?_
    simp only [Act.put, sA, s0, sS]
    refine wpL_take (v := undef) (oi := ⟨some 18, .load 3 (.tmp 17), 3, "ref.go:21", #[⟨12, .data⟩, ⟨11, .guard⟩], some (11, true)⟩) (by decide) rfl (by kernel_rfl) (by kernel_rfl) (by kernel_rfl) (by kernel_rfl) (fun _ _ _ h => h) (Or.inr ⟨by rfl, rfl⟩) HS0.out ?_
    simp only [Act.put, sA, s0, sS]
    refine wpL_take (v := undef) (oi := ⟨some 19, .binOp .geq 3 (.tmp 18) (.const (.int .i64 0)) 3, 4, "ref.go:21", #[⟨13, .data⟩, ⟨11, .guard⟩], some (11, true)⟩) (by decide) rfl (by kernel_rfl) (by kernel_rfl) (by kernel_rfl) (by kernel_rfl) (fun _ _ _ h => h) (Or.inr ⟨by rfl, rfl⟩) HS0.out ?_
    simp only [Act.put, sA, s0, sS]
    refine wpL_take (v := ?_) (oi := ⟨some 20, .pick (.tmp 16) (.tmp 19) (.const (.bool false)), 4, "ref.go:21", #[⟨11, .data⟩, ⟨14, .data⟩], none⟩) (by decide) rfl (by kernel_rfl) (by kernel_rfl) (by kernel_rfl) (by kernel_rfl) (fun _ _ _ h => h) (Or.inl ⟨by rfl, ?_⟩) HS0.out ?_
    rotate_left
    · intro W hSW
      go_simp
      try with_reducible rfl
    simp only [Act.put, sA, s0, sS]
    refine wpL_take (v := ?_) (oi := ⟨some 21, .move (.tmp 20), 4, "ref.go:21", #[⟨15, .data⟩, ⟨11, .chain⟩], none⟩) (by decide) rfl (by kernel_rfl) (by kernel_rfl) (by kernel_rfl) (by kernel_rfl) (fun _ _ _ h => h) (Or.inl ⟨by rfl, ?_⟩) HS0.out ?_
    rotate_left
    · intro W hSW
      go_simp
      try with_reducible rfl
    simp only [Act.put, sA, s0, sS]
    refine wpL_take (v := undef) (oi := ⟨some 22, .fieldAddr 30 (.tmp 3) 1, 0, "ref.go:21", #[⟨16, .guard⟩], some (16, true)⟩) (by decide) rfl (by kernel_rfl) (by kernel_rfl) (by kernel_rfl) (by kernel_rfl) (fun _ _ _ h => h) (Or.inr ⟨by rfl, rfl⟩) HS0.out ?_
    simp only [Act.put, sA, s0, sS]
    refine wpL_take (v := undef) (oi := ⟨some 23, .load 3 (.tmp 22), 3, "ref.go:21", #[⟨17, .data⟩, ⟨16, .guard⟩], some (16, true)⟩) (by decide) rfl (by kernel_rfl) (by kernel_rfl) (by kernel_rfl) (by kernel_rfl) (fun _ _ _ h => h) (Or.inr ⟨by rfl, rfl⟩) HS0.out ?_
    simp only [Act.put, sA, s0, sS]
    refine wpL_take (v := undef) (oi := ⟨some 24, .load 25 (.tmp 2), 25, "ref.go:21", #[⟨16, .guard⟩], some (16, true)⟩) (by decide) rfl (by kernel_rfl) (by kernel_rfl) (by kernel_rfl) (by kernel_rfl) (fun _ _ _ h => h) (Or.inr ⟨by rfl, rfl⟩) HS0.out ?_
    simp only [Act.put, sA, s0, sS]
    refine wpL_take (v := undef) (oi := ⟨some 25, .fieldAddr 30 (.tmp 3) 0, 0, "ref.go:21", #[⟨16, .guard⟩], some (16, true)⟩) (by decide) rfl (by kernel_rfl) (by kernel_rfl) (by kernel_rfl) (by kernel_rfl) (fun _ _ _ h => h) (Or.inr ⟨by rfl, rfl⟩) HS0.out ?_
    simp only [Act.put, sA, s0, sS]
    refine wpL_take (v := undef) (oi := ⟨some 26, .load 3 (.tmp 25), 3, "ref.go:21", #[⟨20, .data⟩, ⟨16, .guard⟩], some (16, true)⟩) (by decide) rfl (by kernel_rfl) (by kernel_rfl) (by kernel_rfl) (by kernel_rfl) (fun _ _ _ h => h) (Or.inr ⟨by rfl, rfl⟩) HS0.out ?_
    simp only [Act.put, sA, s0, sS]
    refine wpL_take (v := undef) (oi := ⟨some 27, .call ⟨.value (.func 31), #[.tmp 24, .tmp 26], #[25, 3]⟩, 52, "ref.go:21", #[⟨19, .data⟩, ⟨21, .data⟩, ⟨16, .chain⟩, ⟨16, .guard⟩], some (16, true)⟩) (by decide) rfl (by kernel_rfl) (by kernel_rfl) (by kernel_rfl) (by kernel_rfl) (fun _ _ _ h => h) (Or.inr ⟨by rfl, rfl⟩) HS0.out ?_
    simp only [Act.put, sA, s0, sS]
    refine wpL_take (v := undef) (oi := ⟨some 28, .call ⟨.builtin .len, #[.tmp 27], #[52]⟩, 3, "ref.go:21", #[⟨22, .data⟩, ⟨16, .guard⟩], some (16, true)⟩) (by decide) rfl (by kernel_rfl) (by kernel_rfl) (by kernel_rfl) (by kernel_rfl) (fun _ _ _ h => h) (Or.inr ⟨by rfl, rfl⟩) HS0.out ?_
    simp only [Act.put, sA, s0, sS]
    refine wpL_take (v := undef) (oi := ⟨some 29, .binOp .leq 3 (.tmp 23) (.tmp 28) 3, 4, "ref.go:21", #[⟨18, .data⟩, ⟨23, .data⟩, ⟨16, .guard⟩], some (16, true)⟩) (by decide) rfl (by kernel_rfl) (by kernel_rfl) (by kernel_rfl) (by kernel_rfl) (fun _ _ _ h => h) (Or.inr ⟨by rfl, rfl⟩) HS0.out ?_
    simp only [Act.put, sA, s0, sS]
    refine wpL_take (v := ?_) (oi := ⟨some 30, .pick (.tmp 21) (.tmp 29) (.const (.bool false)), 4, "ref.go:21", #[⟨16, .data⟩, ⟨24, .data⟩], none⟩) (by decide) rfl (by kernel_rfl) (by kernel_rfl) (by kernel_rfl) (by kernel_rfl) (fun _ _ _ h => h) (Or.inl ⟨by rfl, ?_⟩) HS0.out ?_
    rotate_left
    · intro W hSW
      go_simp
      try with_reducible rfl
    simp only [Act.put, sA, s0, sS]
    refine wpL_take (v := ?_) (oi := ⟨some 31, .move (.tmp 30), 4, "ref.go:21", #[⟨25, .data⟩, ⟨22, .chain⟩], none⟩) (by decide) rfl (by kernel_rfl) (by kernel_rfl) (by kernel_rfl) (by kernel_rfl) (fun _ _ _ h => h) (Or.inl ⟨by rfl, ?_⟩) HS0.out ?_
    rotate_left
    · intro W hSW
      go_simp
      try with_reducible rfl
    simp only [Act.put, sA, s0, sS]
    refine wpL_take (v := undef) (oi := ⟨some 32, .fieldAddr 30 (.tmp 3) 2, 0, "ref.go:21", #[⟨26, .guard⟩], some (26, true)⟩) (by decide) rfl (by kernel_rfl) (by kernel_rfl) (by kernel_rfl) (by kernel_rfl) (fun _ _ _ h => h) (Or.inr ⟨by rfl, rfl⟩) HS0.out ?_
    simp only [Act.put, sA, s0, sS]
    refine wpL_take (v := undef) (oi := ⟨some 33, .load 3 (.tmp 32), 3, "ref.go:21", #[⟨27, .data⟩, ⟨26, .guard⟩], some (26, true)⟩) (by decide) rfl (by kernel_rfl) (by kernel_rfl) (by kernel_rfl) (by kernel_rfl) (fun _ _ _ h => h) (Or.inr ⟨by rfl, rfl⟩) HS0.out ?_
    simp only [Act.put, sA, s0, sS]
    refine wpL_take (v := undef) (oi := ⟨some 34, .binOp .geq 3 (.tmp 33) (.const (.int .i64 0)) 3, 4, "ref.go:21", #[⟨28, .data⟩, ⟨26, .guard⟩], some (26, true)⟩) (by decide) rfl (by kernel_rfl) (by kernel_rfl) (by kernel_rfl) (by kernel_rfl) (fun _ _ _ h => h) (Or.inr ⟨by rfl, rfl⟩) HS0.out ?_
    simp only [Act.put, sA, s0, sS]
    refine wpL_take (v := ?_) (oi := ⟨some 35, .pick (.tmp 31) (.tmp 34) (.const (.bool false)), 4, "ref.go:21", #[⟨26, .data⟩, ⟨29, .data⟩], none⟩) (by decide) rfl (by kernel_rfl) (by kernel_rfl) (by kernel_rfl) (by kernel_rfl) (fun _ _ _ h => h) (Or.inl ⟨by rfl, ?_⟩) HS0.out ?_
    rotate_left
    · intro W hSW
      go_simp
      try with_reducible rfl
    simp only [Act.put, sA, s0, sS]
    refine wpL_take (v := ?_) (oi := ⟨some 36, .move (.tmp 35), 4, "ref.go:21", #[⟨30, .data⟩, ⟨26, .chain⟩], none⟩) (by decide) rfl (by kernel_rfl) (by kernel_rfl) (by kernel_rfl) (by kernel_rfl) (fun _ _ _ h => h) (Or.inl ⟨by rfl, ?_⟩) HS0.out ?_
    rotate_left
    · intro W hSW
      go_simp
      try with_reducible rfl
    simp only [Act.put, sA, s0, sS]
    refine wpL_take (v := undef) (oi := ⟨some 37, .fieldAddr 30 (.tmp 3) 2, 0, "ref.go:21", #[⟨31, .guard⟩], some (31, true)⟩) (by decide) rfl (by kernel_rfl) (by kernel_rfl) (by kernel_rfl) (by kernel_rfl) (fun _ _ _ h => h) (Or.inr ⟨by rfl, rfl⟩) HS0.out ?_
    simp only [Act.put, sA, s0, sS]
    refine wpL_take (v := undef) (oi := ⟨some 38, .load 3 (.tmp 37), 3, "ref.go:21", #[⟨32, .data⟩, ⟨31, .guard⟩], some (31, true)⟩) (by decide) rfl (by kernel_rfl) (by kernel_rfl) (by kernel_rfl) (by kernel_rfl) (fun _ _ _ h => h) (Or.inr ⟨by rfl, rfl⟩) HS0.out ?_
    simp only [Act.put, sA, s0, sS]
    refine wpL_take (v := undef) (oi := ⟨some 39, .fieldAddr 25 (.tmp 2) 0, 0, "ref.go:21", #[⟨31, .guard⟩], some (31, true)⟩) (by decide) rfl (by kernel_rfl) (by kernel_rfl) (by kernel_rfl) (by kernel_rfl) (fun _ _ _ h => h) (Or.inr ⟨by rfl, rfl⟩) HS0.out ?_
    simp only [Act.put, sA, s0, sS]
    refine wpL_take (v := undef) (oi := ⟨some 40, .load 22 (.tmp 39), 22, "ref.go:21", #[⟨34, .data⟩, ⟨31, .guard⟩], some (31, true)⟩) (by decide) rfl (by kernel_rfl) (by kernel_rfl) (by kernel_rfl) (by kernel_rfl) (fun _ _ _ h => h) (Or.inr ⟨by rfl, rfl⟩) HS0.out ?_
    simp only [Act.put, sA, s0, sS]
    refine wpL_take (v := undef) (oi := ⟨some 41, .call ⟨.builtin .len, #[.tmp 40], #[22]⟩, 3, "ref.go:21", #[⟨35, .data⟩, ⟨31, .guard⟩], some (31, true)⟩) (by decide) rfl (by kernel_rfl) (by kernel_rfl) (by kernel_rfl) (by kernel_rfl) (fun _ _ _ h => h) (Or.inr ⟨by rfl, rfl⟩) HS0.out ?_
    simp only [Act.put, sA, s0, sS]
    refine wpL_take (v := undef) (oi := ⟨some 42, .binOp .leq 3 (.tmp 38) (.tmp 41) 3, 4, "ref.go:21", #[⟨33, .data⟩, ⟨36, .data⟩, ⟨31, .guard⟩], some (31, true)⟩) (by decide) rfl (by kernel_rfl) (by kernel_rfl) (by kernel_rfl) (by kernel_rfl) (fun _ _ _ h => h) (Or.inr ⟨by rfl, rfl⟩) HS0.out ?_
    simp only [Act.put, sA, s0, sS]
    refine wpL_take (v := ?_) (oi := ⟨some 43, .pick (.tmp 36) (.tmp 42) (.const (.bool false)), 4, "ref.go:21", #[⟨31, .data⟩, ⟨37, .data⟩], none⟩) (by decide) rfl (by kernel_rfl) (by kernel_rfl) (by kernel_rfl) (by kernel_rfl) (fun _ _ _ h => h) (Or.inl ⟨by rfl, ?_⟩) HS0.out ?_
    rotate_left
    · intro W hSW
      go_simp
      try with_reducible rfl
    simp only [Act.put, sA, s0, sS]
    refine wpL_take (v := ?_) (oi := ⟨some 4, .assign (.tmp 43), 4, "ref.go:21", #[⟨38, .data⟩, ⟨31, .chain⟩, ⟨0, .phase⟩, ⟨1, .phase⟩, ⟨2, .phase⟩, ⟨3, .phase⟩, ⟨4, .phase⟩, ⟨5, .phase⟩, ⟨6, .phase⟩, ⟨7, .phase⟩, ⟨8, .phase⟩, ⟨9, .phase⟩, ⟨10, .phase⟩, ⟨11, .phase⟩, ⟨12, .phase⟩, ⟨13, .phase⟩, ⟨14, .phase⟩, ⟨15, .phase⟩, ⟨16, .phase⟩, ⟨17, .phase⟩, ⟨18, .phase⟩, ⟨19, .phase⟩, ⟨20, .phase⟩, ⟨21, .phase⟩, ⟨22, .phase⟩, ⟨23, .phase⟩, ⟨24, .phase⟩, ⟨25, .phase⟩, ⟨26, .phase⟩, ⟨27, .phase⟩, ⟨28, .phase⟩, ⟨29, .phase⟩, ⟨30, .phase⟩, ⟨31, .phase⟩, ⟨32, .phase⟩, ⟨33, .phase⟩, ⟨34, .phase⟩, ⟨35, .phase⟩, ⟨36, .phase⟩, ⟨37, .phase⟩, ⟨38, .phase⟩], none⟩) (by decide) rfl (by kernel_rfl) (by kernel_rfl) (by kernel_rfl) (by kernel_rfl) (fun _ _ _ h => h) (Or.inl ⟨by rfl, ?_⟩) HS0.out ?_
    rotate_left
    · intro W hSW
      go_simp
      try with_reducible rfl
    simp only [Act.put, sA, s0, sS]
    refine wpAnyL_done (by kernel_rfl) ?_ _
    have HBx : Hid (Below w.heap.size w w0.drew) := HBB.out _ HS0.out.2.2.2.2.2.2
    clear hR' HBB HS0
    go_wp2_with fail
    go_ret
    exact ⟨ret_bool HZ.out.symm, HBx.out⟩
  by_cases d2 : 0 ≤ x1
  rotate_left
  · have HZ : Hid (fitI f (x0, x1, x2) = false) := by show _ = _; rw [HW.out]; exact decide_eq_false (by omega)
    have e0 : decide ((-1 : Int) ≤ x0) = true := decide_eq_true d0
    have e1 : decide (x0 < (f.prods.length : Int)) = true := decide_eq_true d1
    have e2 : decide (0 ≤ x1) = false := decide_eq_false d2
    clear HW
    refine wp_region_L (fun W => W.cell? ⟨w.heap.size, 0, none⟩ = some (.slice ta f.terms.length tc) ∧ W.cell? ⟨w.heap.size, 1, none⟩ = some (.slice na f.nons.length nc) ∧ W.cell? ⟨w.heap.size, 2, none⟩ = some (.slice pa f.prods.length pc) ∧ W.cell? ⟨w.heap.size + 1, 0, none⟩ = some (.int .i64 x0) ∧ W.cell? ⟨w.heap.size + 1, 1, none⟩ = some (.int .i64 x1) ∧ W.cell? ⟨w.heap.size + 1, 2, none⟩ = some (.int .i64 x2) ∧ Below w0.heap.size w0 W) 40 (by kernel_rfl) 40 rfl ?_
    refine wpL_take (v := ?_) (oi := ⟨some 5, .fieldAddr 30 (.tmp 3) 0, 0, "ref.go:21", #[], none⟩) (by decide) rfl (by kernel_rfl) (by kernel_rfl) (by kernel_rfl) (by kernel_rfl) (fun _ _ _ h => h) (Or.inl ⟨by rfl, ?_⟩) HS0.out ?_
    rotate_left
    · intro W hSW
      go_simp
      try with_reducible rfl
    simp only [Act.put, sA, s0, sS]
    refine wpL_take (v := ?_) (oi := ⟨some 6, .load 3 (.tmp 5), 3, "ref.go:21", #[⟨0, .data⟩], none⟩) (by decide) rfl (by kernel_rfl) (by kernel_rfl) (by kernel_rfl) (by kernel_rfl) (fun _ _ _ h => h) (Or.inl ⟨by rfl, ?_⟩) HS0.out ?_
    rotate_left
    · intro W hSW
      go_simp
      try with_reducible rfl
    simp only [Act.put, sA, s0, sS]
    refine wpL_take (v := ?_) (oi := ⟨some 7, .binOp .geq 3 (.tmp 6) (.const (.int .i64 (-1))) 3, 4, "ref.go:21", #[⟨1, .data⟩], none⟩) (by decide) rfl (by kernel_rfl) (by kernel_rfl) (by kernel_rfl) (by kernel_rfl) (fun _ _ _ h => h) (Or.inl ⟨by rfl, ?_⟩) HS0.out ?_
    rotate_left
    · intro W hSW
      go_simp
      try with_reducible rfl
    simp only [Act.put, sA, s0, sS]
    refine wpL_take (v := ?_) (oi := ⟨some 8, .move (.tmp 7), 4, "ref.go:21", #[⟨2, .data⟩], none⟩) (by decide) rfl (by kernel_rfl) (by kernel_rfl) (by kernel_rfl) (by kernel_rfl) (fun _ _ _ h => h) (Or.inl ⟨by rfl, ?_⟩) HS0.out ?_
    rotate_left
    · intro W hSW
      go_simp
      try with_reducible rfl
    simp only [Act.put, sA, s0, sS]
    refine wpL_take (v := ?_) (oi := ⟨some 9, .fieldAddr 30 (.tmp 3) 0, 0, "ref.go:21", #[⟨3, .guard⟩], some (3, true)⟩) (by decide) rfl (by kernel_rfl) (by kernel_rfl) (by kernel_rfl) (by kernel_rfl) (fun _ _ _ h => h) (Or.inl ⟨by rfl, ?_⟩) HS0.out ?_
    rotate_left
    · intro W hSW
      go_simp
      try with_reducible rfl
    simp only [Act.put, sA, s0, sS]
    refine wpL_take (v := ?_) (oi := ⟨some 10, .load 3 (.tmp 9), 3, "ref.go:21", #[⟨4, .data⟩, ⟨3, .guard⟩], some (3, true)⟩) (by decide) rfl (by kernel_rfl) (by kernel_rfl) (by kernel_rfl) (by kernel_rfl) (fun _ _ _ h => h) (Or.inl ⟨by rfl, ?_⟩) HS0.out ?_
    rotate_left
    · intro W hSW
      go_simp
      try with_reducible rfl
    simp only [Act.put, sA, s0, sS]
    refine wpL_take (v := ?_) (oi := ⟨some 11, .fieldAddr 25 (.tmp 2) 2, 0, "ref.go:21", #[⟨3, .guard⟩], some (3, true)⟩) (by decide) rfl (by kernel_rfl) (by kernel_rfl) (by kernel_rfl) (by kernel_rfl) (fun _ _ _ h => h) (Or.inl ⟨by rfl, ?_⟩) HS0.out ?_
    rotate_left
    · intro W hSW
      go_simp
      try with_reducible rfl
    simp only [Act.put, sA, s0, sS]
    refine wpL_take (v := ?_) (oi := ⟨some 12, .load 23 (.tmp 11), 23, "ref.go:21", #[⟨6, .data⟩, ⟨3, .guard⟩], some (3, true)⟩) (by decide) rfl (by kernel_rfl) (by kernel_rfl) (by kernel_rfl) (by kernel_rfl) (fun _ _ _ h => h) (Or.inl ⟨by rfl, ?_⟩) HS0.out ?_
    rotate_left
    · intro W hSW
      go_simp
      try with_reducible rfl
    simp only [Act.put, sA, s0, sS]
    refine wpL_take (v := ?_) (oi := ⟨some 13, .call ⟨.builtin .len, #[.tmp 12], #[23]⟩, 3, "ref.go:21", #[⟨7, .data⟩, ⟨3, .guard⟩], some (3, true)⟩) (by decide) rfl (by kernel_rfl) (by kernel_rfl) (by kernel_rfl) (by kernel_rfl) (fun _ _ _ h => h) (Or.inl ⟨by rfl, ?_⟩) HS0.out ?_
    rotate_left
    · intro W hSW
      go_simp
      try with_reducible rfl
    simp only [Act.put, sA, s0, sS]
    refine wpL_take (v := ?_) (oi := ⟨some 14, .binOp .lss 3 (.tmp 10) (.tmp 13) 3, 4, "ref.go:21", #[⟨5, .data⟩, ⟨8, .data⟩, ⟨3, .guard⟩], some (3, true)⟩) (by decide) rfl (by kernel_rfl) (by kernel_rfl) (by kernel_rfl) (by kernel_rfl) (fun _ _ _ h => h) (Or.inl ⟨by rfl, ?_⟩) HS0.out ?_
    rotate_left
    · intro W hSW
      go_simp
      try with_reducible rfl
    simp only [Act.put, sA, s0, sS]
    refine wpL_take (v := ?_) (oi := ⟨some 15, .pick (.tmp 8) (.tmp 14) (.const (.bool false)), 4, "ref.go:21", #[⟨3, .data⟩, ⟨9, .data⟩], none⟩) (by decide) rfl (by kernel_rfl) (by kernel_rfl) (by kernel_rfl) (by kernel_rfl) (fun _ _ _ h => h) (Or.inl ⟨by rfl, ?_⟩) HS0.out ?_
    rotate_left
    · intro W hSW
      go_simp
      try with_reducible rfl
    simp only [Act.put, sA, s0, sS]
    refine wpL_take (v := ?_) (oi := ⟨some 16, .move (.tmp 15), 4, "ref.go:21", #[⟨10, .data⟩, ⟨3, .chain⟩], none⟩) (by decide) rfl (by kernel_rfl) (by kernel_rfl) (by kernel_rfl) (by kernel_rfl) (fun _ _ _ h => h) (Or.inl ⟨by rfl, ?_⟩) HS0.out ?_
    rotate_left
    · intro W hSW
      go_simp
      try with_reducible rfl
    simp only [Act.put, sA, s0, sS]
    refine wpL_take (v := ?_) (oi := ⟨some 17, .fieldAddr 30 (.tmp 3) 1, 0, "ref.go:21", #[⟨11, .guard⟩], some (11, true)⟩) (by decide) rfl (by kernel_rfl) (by kernel_rfl) (by kernel_rfl) (by kernel_rfl) (fun _ _ _ h => h) (Or.inl ⟨by rfl, ?_⟩) HS0.out ?_
    rotate_left
    · intro W hSW
      go_simp
      try with_reducible rfl
    simp only [Act.put, sA, s0, sS]
    refine wpL_take (v := ?_) (oi := ⟨some 18, .load 3 (.tmp 17), 3, "ref.go:21", #[⟨12, .data⟩, ⟨11, .guard⟩], some (11, true)⟩) (by decide) rfl (by kernel_rfl) (by kernel_rfl) (by kernel_rfl) (by kernel_rfl) (fun _ _ _ h => h) (Or.inl ⟨by rfl, ?_⟩) HS0.out ?_
    rotate_left
    · intro W hSW
      go_simp
      try with_reducible rfl
    simp only [Act.put, sA, s0, sS]
    refine wpL_take (v := ?_) (oi := ⟨some 19, .binOp .geq 3 (.tmp 18) (.const (.int .i64 0)) 3, 4, "ref.go:21", #[⟨13, .data⟩, ⟨11, .guard⟩], some (11, true)⟩) (by decide) rfl (by kernel_rfl) (by kernel_rfl) (by kernel_rfl) (by kernel_rfl) (fun _ _ _ h => h) (Or.inl ⟨by rfl, ?_⟩) HS0.out ?_
    rotate_left
    · intro W hSW
      go_simp
      try with_reducible rfl
    simp only [Act.put, sA, s0, sS]
    refine wpL_take (v := ?_) (oi := ⟨some 20, .pick (.tmp 16) (.tmp 19) (.const (.bool false)), 4, "ref.go:21", #[⟨11, .data⟩, ⟨14, .data⟩], none⟩) (by decide) rfl (by kernel_rfl) (by kernel_rfl) (by kernel_rfl) (by kernel_rfl) (fun _ _ _ h => h) (Or.inl ⟨by rfl, ?_⟩) HS0.out ?_
    rotate_left
    · intro W hSW
      go_simp
      try with_reducible rfl
    simp only [Act.put, sA, s0, sS]
    refine wpL_take (v := ?_) (oi := ⟨some 21, .move (.tmp 20), 4, "ref.go:21", #[⟨15, .data⟩, ⟨11, .chain⟩], none⟩) (by decide) rfl (by kernel_rfl) (by kernel_rfl) (by kernel_rfl) (by kernel_rfl) (fun _ _ _ h => h) (Or.inl ⟨by rfl, ?_⟩) HS0.out ?_
    rotate_left
    · intro W hSW
      go_simp
      try with_reducible rfl
    simp only [Act.put, sA, s0, sS]
    refine wpL_take (v := undef) (oi := ⟨some 22, .fieldAddr 30 (.tmp 3) 1, 0, "ref.go:21", #[⟨16, .guard⟩], some (16, true)⟩) (by decide) rfl (by kernel_rfl) (by kernel_rfl) (by kernel_rfl) (by kernel_rfl) (fun _ _ _ h => h) (Or.inr ⟨by rfl, rfl⟩) HS0.out ?_
    simp only [Act.put, sA, s0, sS]
    refine wpL_take (v := undef) (oi := ⟨some 23, .load 3 (.tmp 22), 3, "ref.go:21", #[⟨17, .data⟩, ⟨16, .guard⟩], some (16, true)⟩) (by decide) rfl (by kernel_rfl) (by kernel_rfl) (by kernel_rfl) (by kernel_rfl) (fun _ _ _ h => h) (Or.inr ⟨by rfl, rfl⟩) HS0.out ?_
    simp only [Act.put, sA, s0, sS]
    refine wpL_take (v := undef) (oi := ⟨some 24, .load 25 (.tmp 2), 25, "ref.go:21", #[⟨16, .guard⟩], some (16, true)⟩) (by decide) rfl (by kernel_rfl) (by kernel_rfl) (by kernel_rfl) (by kernel_rfl) (fun _ _ _ h => h) (Or.inr ⟨by rfl, rfl⟩) HS0.out ?_
    simp only [Act.put, sA, s0, sS]
    refine wpL_take (v := undef) (oi := ⟨some 25, .fieldAddr 30 (.tmp 3) 0, 0, "ref.go:21", #[⟨16, .guard⟩], some (16, true)⟩) (by decide) rfl (by kernel_rfl) (by kernel_rfl) (by kernel_rfl) (by kernel_rfl) (fun _ _ _ h => h) (Or.inr ⟨by rfl, rfl⟩) HS0.out ?_
    simp only [Act.put, sA, s0, sS]
    refine wpL_take (v := undef) (oi := ⟨some 26, .load 3 (.tmp 25), 3, "ref.go:21", #[⟨20, .data⟩, ⟨16, .guard⟩], some (16, true)⟩) (by decide) rfl (by kernel_rfl) (by kernel_rfl) (by kernel_rfl) (by kernel_rfl) (fun _ _ _ h => h) (Or.inr ⟨by rfl, rfl⟩) HS0.out ?_
    simp only [Act.put, sA, s0, sS]
    refine wpL_take (v := undef) (oi := ⟨some 27, .call ⟨.value (.func 31), #[.tmp 24, .tmp 26], #[25, 3]⟩, 52, "ref.go:21", #[⟨19, .data⟩, ⟨21, .data⟩, ⟨16, .chain⟩, ⟨16, .guard⟩], some (16, true)⟩) (by decide) rfl (by kernel_rfl) (by kernel_rfl) (by kernel_rfl) (by kernel_rfl) (fun _ _ _ h => h) (Or.inr ⟨by rfl, rfl⟩) HS0.out ?_
    simp only [Act.put, sA, s0, sS]
    refine wpL_take (v := undef) (oi := ⟨some 28, .call ⟨.builtin .len, #[.tmp 27], #[52]⟩, 3, "ref.go:21", #[⟨22, .data⟩, ⟨16, .guard⟩], some (16, true)⟩) (by decide) rfl (by kernel_rfl) (by kernel_rfl) (by kernel_rfl) (by kernel_rfl) (fun _ _ _ h => h) (Or.inr ⟨by rfl, rfl⟩) HS0.out ?_
    simp only [Act.put, sA, s0, sS]
    refine wpL_take (v := undef) (oi := ⟨some 29, .binOp .leq 3 (.tmp 23) (.tmp 28) 3, 4, "ref.go:21", #[⟨18, .data⟩, ⟨23, .data⟩, ⟨16, .guard⟩], some (16, true)⟩) (by decide) rfl (by kernel_rfl) (by kernel_rfl) (by kernel_rfl) (by kernel_rfl) (fun _ _ _ h => h) (Or.inr ⟨by rfl, rfl⟩) HS0.out ?_
    simp only [Act.put, sA, s0, sS]
    refine wpL_take (v := ?_) (oi := ⟨some 30, .pick (.tmp 21) (.tmp 29) (.const (.bool false)), 4, "ref.go:21", #[⟨16, .data⟩, ⟨24, .data⟩], none⟩) (by decide) rfl (by kernel_rfl) (by kernel_rfl) (by kernel_rfl) (by kernel_rfl) (fun _ _ _ h => h) (Or.inl ⟨by rfl, ?_⟩) HS0.out ?_
    rotate_left
    · intro W hSW
      go_simp
      try with_reducible rfl
    simp only [Act.put, sA, s0, sS]
    refine wpL_take (v := ?_) (oi := ⟨some 31, .move (.tmp 30), 4, "ref.go:21", #[⟨25, .data⟩, ⟨22, .chain⟩], none⟩) (by decide) rfl (by kernel_rfl) (by kernel_rfl) (by kernel_rfl) (by kernel_rfl) (fun _ _ _ h => h) (Or.inl ⟨by rfl, ?_⟩) HS0.out ?_
    rotate_left
    · intro W hSW
      go_simp
      try with_reducible rfl
    simp only [Act.put, sA, s0, sS]
    refine wpL_take (v := undef) (oi := ⟨some 32, .fieldAddr 30 (.tmp 3) 2, 0, "ref.go:21", #[⟨26, .guard⟩], some (26, true)⟩) (by decide) rfl (by kernel_rfl) (by kernel_rfl) (by kernel_rfl) (by kernel_rfl) (fun _ _ _ h => h) (Or.inr ⟨by rfl, rfl⟩) HS0.out ?_
    simp only [Act.put, sA, s0, sS]
    refine wpL_take (v := undef) (oi := ⟨some 33, .load 3 (.tmp 32), 3, "ref.go:21", #[⟨27, .data⟩, ⟨26, .guard⟩], some (26, true)⟩) (by decide) rfl (by kernel_rfl) (by kernel_rfl) (by kernel_rfl) (by kernel_rfl) (fun _ _ _ h => h) (Or.inr ⟨by rfl, rfl⟩) HS0.out ?_
    simp only [Act.put, sA, s0, sS]
    refine wpL_take (v := undef) (oi := ⟨some 34, .binOp .geq 3 (.tmp 33) (.const (.int .i64 0)) 3, 4, "ref.go:21", #[⟨28, .data⟩, ⟨26, .guard⟩], some (26, true)⟩) (by decide) rfl (by kernel_rfl) (by kernel_rfl) (by kernel_rfl) (by kernel_rfl) (fun _ _ _ h => h) (Or.inr ⟨by rfl, rfl⟩) HS0.out ?_
    simp only [Act.put, sA, s0, sS]
    refine wpL_take (v := ?_) (oi := ⟨some 35, .pick (.tmp 31) (.tmp 34) (.const (.bool false)), 4, "ref.go:21", #[⟨26, .data⟩, ⟨29, .data⟩], none⟩) (by decide) rfl (by kernel_rfl) (by kernel_rfl) (by kernel_rfl) (by kernel_rfl) (fun _ _ _ h => h) (Or.inl ⟨by rfl, ?_⟩) HS0.out ?_
    rotate_left
    · intro W hSW
      go_simp
      try with_reducible rfl
    simp only [Act.put, sA, s0, sS]
    refine wpL_take (v := ?_) (oi := ⟨some 36, .move (.tmp 35), 4, "ref.go:21", #[⟨30, .data⟩, ⟨26, .chain⟩], none⟩) (by decide) rfl (by kernel_rfl) (by kernel_rfl) (by kernel_rfl) (by kernel_rfl) (fun _ _ _ h => h) (Or.inl ⟨by rfl, ?_⟩) HS0.out ?_
    rotate_left
    · intro W hSW
      go_simp
      try with_reducible rfl
    simp only [Act.put, sA, s0, sS]
    refine wpL_take (v := undef) (oi := ⟨some 37, .fieldAddr 30 (.tmp 3) 2, 0, "ref.go:21", #[⟨31, .guard⟩], some (31, true)⟩) (by decide) rfl (by kernel_rfl) (by kernel_rfl) (by kernel_rfl) (by kernel_rfl) (fun _ _ _ h => h) (Or.inr ⟨by rfl, rfl⟩) HS0.out ?_
    simp only [Act.put, sA, s0, sS]
    refine wpL_take (v := undef) (oi := ⟨some 38, .load 3 (.tmp 37), 3, "ref.go:21", #[⟨32, .data⟩, ⟨31, .guard⟩], some (31, true)⟩) (by decide) rfl (by kernel_rfl) (by kernel_rfl) (by kernel_rfl) (by kernel_rfl) (fun _ _ _ h => h) (Or.inr ⟨by rfl, rfl⟩) HS0.out ?_
    simp only [Act.put, sA, s0, sS]
    refine wpL_take (v := undef) (oi := ⟨some 39, .fieldAddr 25 (.tmp 2) 0, 0, "ref.go:21", #[⟨31, .guard⟩], some (31, true)⟩) (by decide) rfl (by kernel_rfl) (by kernel_rfl) (by kernel_rfl) (by kernel_rfl) (fun _ _ _ h => h) (Or.inr ⟨by rfl, rfl⟩) HS0.out ?_
    simp only [Act.put, sA, s0, sS]
    refine wpL_take (v := undef) (oi := ⟨some 40, .load 22 (.tmp 39), 22, "ref.go:21", #[⟨34, .data⟩, ⟨31, .guard⟩], some (31, true)⟩) (by decide) rfl (by kernel_rfl) (by kernel_rfl) (by kernel_rfl) (by kernel_rfl) (fun _ _ _ h => h) (Or.inr ⟨by rfl, rfl⟩) HS0.out ?_
    simp only [Act.put, sA, s0, sS]
    refine wpL_take (v := undef) (oi := ⟨some 41, .call ⟨.builtin .len, #[.tmp 40], #[22]⟩, 3, "ref.go:21", #[⟨35, .data⟩, ⟨31, .guard⟩], some (31, true)⟩) (by decide) rfl (by kernel_rfl) (by kernel_rfl) (by kernel_rfl) (by kernel_rfl) (fun _ _ _ h => h) (Or.inr ⟨by rfl, rfl⟩) HS0.out ?_
    simp only [Act.put, sA, s0, sS]
    refine wpL_take (v := undef) (oi := ⟨some 42, .binOp .leq 3 (.tmp 38) (.tmp 41) 3, 4, "ref.go:21", #[⟨33, .data⟩, ⟨36, .data⟩, ⟨31, .guard⟩], some (31, true)⟩) (by decide) rfl (by kernel_rfl) (by kernel_rfl) (by kernel_rfl) (by kernel_rfl) (fun _ _ _ h => h) (Or.inr ⟨by rfl, rfl⟩) HS0.out ?_
    simp only [Act.put, sA, s0, sS]
    refine wpL_take (v := ?_) (oi := ⟨some 43, .pick (.tmp 36) (.tmp 42) (.const (.bool false)), 4, "ref.go:21", #[⟨31, .data⟩, ⟨37, .data⟩], none⟩) (by decide) rfl (by kernel_rfl) (by kernel_rfl) (by kernel_rfl) (by kernel_rfl) (fun _ _ _ h => h) (Or.inl ⟨by rfl, ?_⟩) HS0.out ?_
    rotate_left
    · intro W hSW
      go_simp
      try with_reducible rfl
    simp only [Act.put, sA, s0, sS]
    refine wpL_take (v := ?_) (oi := ⟨some 4, .assign (.tmp 43), 4, "ref.go:21", #[⟨38, .data⟩, ⟨31, .chain⟩, ⟨0, .phase⟩, ⟨1, .phase⟩, ⟨2, .phase⟩, ⟨3, .phase⟩, ⟨4, .phase⟩, ⟨5, .phase⟩, ⟨6, .phase⟩, ⟨7, .phase⟩, ⟨8, .phase⟩, ⟨9, .phase⟩, ⟨10, .phase⟩, ⟨11, .phase⟩, ⟨12, .phase⟩, ⟨13, .phase⟩, ⟨14, .phase⟩, ⟨15, .phase⟩, ⟨16, .phase⟩, ⟨17, .phase⟩, ⟨18, .phase⟩, ⟨19, .phase⟩, ⟨20, .phase⟩, ⟨21, .phase⟩, ⟨22, .phase⟩, ⟨23, .phase⟩, ⟨24, .phase⟩, ⟨25, .phase⟩, ⟨26, .phase⟩, ⟨27, .phase⟩, ⟨28, .phase⟩, ⟨29, .phase⟩, ⟨30, .phase⟩, ⟨31, .phase⟩, ⟨32, .phase⟩, ⟨33, .phase⟩, ⟨34, .phase⟩, ⟨35, .phase⟩, ⟨36, .phase⟩, ⟨37, .phase⟩, ⟨38, .phase⟩], none⟩) (by decide) rfl (by kernel_rfl) (by kernel_rfl) (by kernel_rfl) (by kernel_rfl) (fun _ _ _ h => h) (Or.inl ⟨by rfl, ?_⟩) HS0.out ?_
    rotate_left
    · intro W hSW
      go_simp
      try with_reducible rfl
    simp only [Act.put, sA, s0, sS]
    refine wpAnyL_done (by kernel_rfl) ?_ _
    have HBx : Hid (Below w.heap.size w w0.drew) := HBB.out _ HS0.out.2.2.2.2.2.2
    clear hR' HBB HS0
    go_wp2_with fail
    go_ret
    exact ⟨ret_bool HZ.out.symm, HBx.out⟩
  by_cases d3 : x1 ≤ (L : Int)
  rotate_left
  · have HZ : Hid (fitI f (x0, x1, x2) = false) := by show _ = _; rw [HW.out]; exact decide_eq_false (by omega)
    have e0 : decide ((-1 : Int) ≤ x0) = true := decide_eq_true d0
    have e1 : decide (x0 < (f.prods.length : Int)) = true := decide_eq_true d1
    have e2 : decide (0 ≤ x1) = true := decide_eq_true d2
    have e3 : decide (x1 ≤ (L : Int)) = false := decide_eq_false d3
    clear HW
    refine wp_region_L (fun W => W.cell? ⟨w.heap.size, 0, none⟩ = some (.slice ta f.terms.length tc) ∧ W.cell? ⟨w.heap.size, 1, none⟩ = some (.slice na f.nons.length nc) ∧ W.cell? ⟨w.heap.size, 2, none⟩ = some (.slice pa f.prods.length pc) ∧ W.cell? ⟨w.heap.size + 1, 0, none⟩ = some (.int .i64 x0) ∧ W.cell? ⟨w.heap.size + 1, 1, none⟩ = some (.int .i64 x1) ∧ W.cell? ⟨w.heap.size + 1, 2, none⟩ = some (.int .i64 x2) ∧ Below w0.heap.size w0 W) 40 (by kernel_rfl) 40 rfl ?_
    refine wpL_take (v := ?_) (oi := ⟨some 5, .fieldAddr 30 (.tmp 3) 0, 0, "ref.go:21", #[], none⟩) (by decide) rfl (by kernel_rfl) (by kernel_rfl) (by kernel_rfl) (by kernel_rfl) (fun _ _ _ h => h) (Or.inl ⟨by rfl, ?_⟩) HS0.out ?_
    rotate_left
    · intro W hSW
      go_simp
      try with_reducible rfl
    simp only [Act.put, sA, s0, sS]
    refine wpL_take (v := ?_) (oi := ⟨some 6, .load 3 (.tmp 5), 3, "ref.go:21", #[⟨0, .data⟩], none⟩) (by decide) rfl (by kernel_rfl) (by kernel_rfl) (by kernel_rfl) (by kernel_rfl) (fun _ _ _ h => h) (Or.inl ⟨by rfl, ?_⟩) HS0.out ?_
    rotate_left
    · intro W hSW
      go_simp
      try with_reducible rfl
    simp only [Act.put, sA, s0, sS]
    refine wpL_take (v := ?_) (oi := ⟨some 7, .binOp .geq 3 (.tmp 6) (.const (.int .i64 (-1))) 3, 4, "ref.go:21", #[⟨1, .data⟩], none⟩) (by decide) rfl (by kernel_rfl) (by kernel_rfl) (by kernel_rfl) (by kernel_rfl) (fun _ _ _ h => h) (Or.inl ⟨by rfl, ?_⟩) HS0.out ?_
    rotate_left
    · intro W hSW
      go_simp
      try with_reducible rfl
    simp only [Act.put, sA, s0, sS]
    refine wpL_take (v := ?_) (oi := ⟨some 8, .move (.tmp 7), 4, "ref.go:21", #[⟨2, .data⟩], none⟩) (by decide) rfl (by kernel_rfl) (by kernel_rfl) (by kernel_rfl) (by kernel_rfl) (fun _ _ _ h => h) (Or.inl ⟨by rfl, ?_⟩) HS0.out ?_
    rotate_left
    · intro W hSW
      go_simp
      try with_reducible rfl
    simp only [Act.put, sA, s0, sS]
    refine wpL_take (v := ?_) (oi := ⟨some 9, .fieldAddr 30 (.tmp 3) 0, 0, "ref.go:21", #[⟨3, .guard⟩], some (3, true)⟩) (by decide) rfl (by kernel_rfl) (by kernel_rfl) (by kernel_rfl) (by kernel_rfl) (fun _ _ _ h => h) (Or.inl ⟨by rfl, ?_⟩) HS0.out ?_
    rotate_left
    · intro W hSW
      go_simp
      try with_reducible rfl
    simp only [Act.put, sA, s0, sS]
    refine wpL_take (v := ?_) (oi := ⟨some 10, .load 3 (.tmp 9), 3, "ref.go:21", #[⟨4, .data⟩, ⟨3, .guard⟩], some (3, true)⟩) (by decide) rfl (by kernel_rfl) (by kernel_rfl) (by kernel_rfl) (by kernel_rfl) (fun _ _ _ h => h) (Or.inl ⟨by rfl, ?_⟩) HS0.out ?_
    rotate_left
    · intro W hSW
      go_simp
      try with_reducible rfl
    simp only [Act.put, sA, s0, sS]
    refine wpL_take (v := ?_) (oi := ⟨some 11, .fieldAddr 25 (.tmp 2) 2, 0, "ref.go:21", #[⟨3, .guard⟩], some (3, true)⟩) (by decide) rfl (by kernel_rfl) (by kernel_rfl) (by kernel_rfl) (by kernel_rfl) (fun _ _ _ h => h) (Or.inl ⟨by rfl, ?_⟩) HS0.out ?_
    rotate_left
    · intro W hSW
      go_simp
      try with_reducible rfl
    simp only [Act.put, sA, s0, sS]
    refine wpL_take (v := ?_) (oi := ⟨some 12, .load 23 (.tmp 11), 23, "ref.go:21", #[⟨6, .data⟩, ⟨3, .guard⟩], some (3, true)⟩) (by decide) rfl (by kernel_rfl) (by kernel_rfl) (by kernel_rfl) (by kernel_rfl) (fun _ _ _ h => h) (Or.inl ⟨by rfl, ?_⟩) HS0.out ?_
    rotate_left
    · intro W hSW
      go_simp
      try with_reducible rfl
    simp only [Act.put, sA, s0, sS]
    refine wpL_take (v := ?_) (oi := ⟨some 13, .call ⟨.builtin .len, #[.tmp 12], #[23]⟩, 3, "ref.go:21", #[⟨7, .data⟩, ⟨3, .guard⟩], some (3, true)⟩) (by decide) rfl (by kernel_rfl) (by kernel_rfl) (by kernel_rfl) (by kernel_rfl) (fun _ _ _ h => h) (Or.inl ⟨by rfl, ?_⟩) HS0.out ?_
    rotate_left
    · intro W hSW
      go_simp
      try with_reducible rfl
    simp only [Act.put, sA, s0, sS]
    refine wpL_take (v := ?_) (oi := ⟨some 14, .binOp .lss 3 (.tmp 10) (.tmp 13) 3, 4, "ref.go:21", #[⟨5, .data⟩, ⟨8, .data⟩, ⟨3, .guard⟩], some (3, true)⟩) (by decide) rfl (by kernel_rfl) (by kernel_rfl) (by kernel_rfl) (by kernel_rfl) (fun _ _ _ h => h) (Or.inl ⟨by rfl, ?_⟩) HS0.out ?_
    rotate_left
    · intro W hSW
      go_simp
      try with_reducible rfl
    simp only [Act.put, sA, s0, sS]
    refine wpL_take (v := ?_) (oi := ⟨some 15, .pick (.tmp 8) (.tmp 14) (.const (.bool false)), 4, "ref.go:21", #[⟨3, .data⟩, ⟨9, .data⟩], none⟩) (by decide) rfl (by kernel_rfl) (by kernel_rfl) (by kernel_rfl) (by kernel_rfl) (fun _ _ _ h => h) (Or.inl ⟨by rfl, ?_⟩) HS0.out ?_
    rotate_left
    · intro W hSW
      go_simp
      try with_reducible rfl
    simp only [Act.put, sA, s0, sS]
    refine wpL_take (v := ?_) (oi := ⟨some 16, .move (.tmp 15), 4, "ref.go:21", #[⟨10, .data⟩, ⟨3, .chain⟩], none⟩) (by decide) rfl (by kernel_rfl) (by kernel_rfl) (by kernel_rfl) (by kernel_rfl) (fun _ _ _ h => h) (Or.inl ⟨by rfl, ?_⟩) HS0.out ?_
    rotate_left
    · intro W hSW
      go_simp
      try with_reducible rfl
    simp only [Act.put, sA, s0, sS]
    refine wpL_take (v := ?_) (oi := ⟨some 17, .fieldAddr 30 (.tmp 3) 1, 0, "ref.go:21", #[⟨11, .guard⟩], some (11, true)⟩) (by decide) rfl (by kernel_rfl) (by kernel_rfl) (by kernel_rfl) (by kernel_rfl) (fun _ _ _ h => h) (Or.inl ⟨by rfl, ?_⟩) HS0.out ?_
    rotate_left
    · intro W hSW
      go_simp
      try with_reducible rfl
    simp only [Act.put, sA, s0, sS]
    refine wpL_take (v := ?_) (oi := ⟨some 18, .load 3 (.tmp 17), 3, "ref.go:21", #[⟨12, .data⟩, ⟨11, .guard⟩], some (11, true)⟩) (by decide) rfl (by kernel_rfl) (by kernel_rfl) (by kernel_rfl) (by kernel_rfl) (fun _ _ _ h => h) (Or.inl ⟨by rfl, ?_⟩) HS0.out ?_
    rotate_left
    · intro W hSW
      go_simp
      try with_reducible rfl
    simp only [Act.put, sA, s0, sS]
    refine wpL_take (v := ?_) (oi := ⟨some 19, .binOp .geq 3 (.tmp 18) (.const (.int .i64 0)) 3, 4, "ref.go:21", #[⟨13, .data⟩, ⟨11, .guard⟩], some (11, true)⟩) (by decide) rfl (by kernel_rfl) (by kernel_rfl) (by kernel_rfl) (by kernel_rfl) (fun _ _ _ h => h) (Or.inl ⟨by rfl, ?_⟩) HS0.out ?_
    rotate_left
    · intro W hSW
      go_simp
      try with_reducible rfl
    simp only [Act.put, sA, s0, sS]
    refine wpL_take (v := ?_) (oi := ⟨some 20, .pick (.tmp 16) (.tmp 19) (.const (.bool false)), 4, "ref.go:21", #[⟨11, .data⟩, ⟨14, .data⟩], none⟩) (by decide) rfl (by kernel_rfl) (by kernel_rfl) (by kernel_rfl) (by kernel_rfl) (fun _ _ _ h => h) (Or.inl ⟨by rfl, ?_⟩) HS0.out ?_
    rotate_left
    · intro W hSW
      go_simp
      try with_reducible rfl
    simp only [Act.put, sA, s0, sS]
    refine wpL_take (v := ?_) (oi := ⟨some 21, .move (.tmp 20), 4, "ref.go:21", #[⟨15, .data⟩, ⟨11, .chain⟩], none⟩) (by decide) rfl (by kernel_rfl) (by kernel_rfl) (by kernel_rfl) (by kernel_rfl) (fun _ _ _ h => h) (Or.inl ⟨by rfl, ?_⟩) HS0.out ?_
    rotate_left
    · intro W hSW
      go_simp
      try with_reducible rfl
    simp only [Act.put, sA, s0, sS]
    refine wpL_take (v := ?_) (oi := ⟨some 22, .fieldAddr 30 (.tmp 3) 1, 0, "ref.go:21", #[⟨16, .guard⟩], some (16, true)⟩) (by decide) rfl (by kernel_rfl) (by kernel_rfl) (by kernel_rfl) (by kernel_rfl) (fun _ _ _ h => h) (Or.inl ⟨by rfl, ?_⟩) HS0.out ?_
    rotate_left
    · intro W hSW
      go_simp
      try with_reducible rfl
    simp only [Act.put, sA, s0, sS]
    refine wpL_take (v := ?_) (oi := ⟨some 23, .load 3 (.tmp 22), 3, "ref.go:21", #[⟨17, .data⟩, ⟨16, .guard⟩], some (16, true)⟩) (by decide) rfl (by kernel_rfl) (by kernel_rfl) (by kernel_rfl) (by kernel_rfl) (fun _ _ _ h => h) (Or.inl ⟨by rfl, ?_⟩) HS0.out ?_
    rotate_left
    · intro W hSW
      go_simp
      try with_reducible rfl
    simp only [Act.put, sA, s0, sS]
    refine wpL_take (v := ?_) (oi := ⟨some 24, .load 25 (.tmp 2), 25, "ref.go:21", #[⟨16, .guard⟩], some (16, true)⟩) (by decide) rfl (by kernel_rfl) (by kernel_rfl) (by kernel_rfl) (by kernel_rfl) (fun _ _ _ h => h) (Or.inl ⟨by rfl, ?_⟩) HS0.out ?_
    rotate_left
    · intro W hSW
      go_simp
      try with_reducible rfl
    simp only [Act.put, sA, s0, sS]
    refine wpL_take (v := ?_) (oi := ⟨some 25, .fieldAddr 30 (.tmp 3) 0, 0, "ref.go:21", #[⟨16, .guard⟩], some (16, true)⟩) (by decide) rfl (by kernel_rfl) (by kernel_rfl) (by kernel_rfl) (by kernel_rfl) (fun _ _ _ h => h) (Or.inl ⟨by rfl, ?_⟩) HS0.out ?_
    rotate_left
    · intro W hSW
      go_simp
      try with_reducible rfl
    simp only [Act.put, sA, s0, sS]
    refine wpL_take (v := ?_) (oi := ⟨some 26, .load 3 (.tmp 25), 3, "ref.go:21", #[⟨20, .data⟩, ⟨16, .guard⟩], some (16, true)⟩) (by decide) rfl (by kernel_rfl) (by kernel_rfl) (by kernel_rfl) (by kernel_rfl) (fun _ _ _ h => h) (Or.inl ⟨by rfl, ?_⟩) HS0.out ?_
    rotate_left
    · intro W hSW
      go_simp
      try with_reducible rfl
    simp only [Act.put, sA, s0, sS]
    refine wpL_one (o := ⟨some 27, .call ⟨.value (.func 31), #[.tmp 24, .tmp 26], #[25, 3]⟩, 52, "ref.go:21", #[⟨19, .data⟩, ⟨21, .data⟩, ⟨16, .chain⟩, ⟨16, .guard⟩], some (16, true)⟩) (by decide) (by kernel_rfl) rfl (fun K hK => ?_)
    go_simp
    refine (hR' _ d0 d1 HS0.out).mono ?_
    rintro e w' ⟨va, vc, rfl, hS⟩
    refine hK.out _ _ (fun _ => hS) ?_
    clear hK
    refine wpL_take (v := ?_) (oi := ⟨some 28, .call ⟨.builtin .len, #[.tmp 27], #[52]⟩, 3, "ref.go:21", #[⟨22, .data⟩, ⟨16, .guard⟩], some (16, true)⟩) (by decide) rfl (by kernel_rfl) (by kernel_rfl) (by kernel_rfl) (by kernel_rfl) (fun _ _ _ h => h) (Or.inl ⟨by rfl, ?_⟩) hS ?_
    rotate_left
    · intro W hSW
      go_simp
      try with_reducible rfl
    simp only [Act.put, sA, s0, sS]
    refine wpL_take (v := ?_) (oi := ⟨some 29, .binOp .leq 3 (.tmp 23) (.tmp 28) 3, 4, "ref.go:21", #[⟨18, .data⟩, ⟨23, .data⟩, ⟨16, .guard⟩], some (16, true)⟩) (by decide) rfl (by kernel_rfl) (by kernel_rfl) (by kernel_rfl) (by kernel_rfl) (fun _ _ _ h => h) (Or.inl ⟨by rfl, ?_⟩) hS ?_
    rotate_left
    · intro W hSW
      go_simp
      try with_reducible rfl
    simp only [Act.put, sA, s0, sS]
    refine wpL_take (v := ?_) (oi := ⟨some 30, .pick (.tmp 21) (.tmp 29) (.const (.bool false)), 4, "ref.go:21", #[⟨16, .data⟩, ⟨24, .data⟩], none⟩) (by decide) rfl (by kernel_rfl) (by kernel_rfl) (by kernel_rfl) (by kernel_rfl) (fun _ _ _ h => h) (Or.inl ⟨by rfl, ?_⟩) hS ?_
    rotate_left
    · intro W hSW
      go_simp
      try with_reducible rfl
    simp only [Act.put, sA, s0, sS]
    refine wpL_take (v := ?_) (oi := ⟨some 31, .move (.tmp 30), 4, "ref.go:21", #[⟨25, .data⟩, ⟨22, .chain⟩], none⟩) (by decide) rfl (by kernel_rfl) (by kernel_rfl) (by kernel_rfl) (by kernel_rfl) (fun _ _ _ h => h) (Or.inl ⟨by rfl, ?_⟩) hS ?_
    rotate_left
    · intro W hSW
      go_simp
      try with_reducible rfl
    simp only [Act.put, sA, s0, sS]
    refine wpL_take (v := undef) (oi := ⟨some 32, .fieldAddr 30 (.tmp 3) 2, 0, "ref.go:21", #[⟨26, .guard⟩], some (26, true)⟩) (by decide) rfl (by kernel_rfl) (by kernel_rfl) (by kernel_rfl) (by kernel_rfl) (fun _ _ _ h => h) (Or.inr ⟨by rfl, rfl⟩) hS ?_
    simp only [Act.put, sA, s0, sS]
    refine wpL_take (v := undef) (oi := ⟨some 33, .load 3 (.tmp 32), 3, "ref.go:21", #[⟨27, .data⟩, ⟨26, .guard⟩], some (26, true)⟩) (by decide) rfl (by kernel_rfl) (by kernel_rfl) (by kernel_rfl) (by kernel_rfl) (fun _ _ _ h => h) (Or.inr ⟨by rfl, rfl⟩) hS ?_
    simp only [Act.put, sA, s0, sS]
    refine wpL_take (v := undef) (oi := ⟨some 34, .binOp .geq 3 (.tmp 33) (.const (.int .i64 0)) 3, 4, "ref.go:21", #[⟨28, .data⟩, ⟨26, .guard⟩], some (26, true)⟩) (by decide) rfl (by kernel_rfl) (by kernel_rfl) (by kernel_rfl) (by kernel_rfl) (fun _ _ _ h => h) (Or.inr ⟨by rfl, rfl⟩) hS ?_
    simp only [Act.put, sA, s0, sS]
    refine wpL_take (v := ?_) (oi := ⟨some 35, .pick (.tmp 31) (.tmp 34) (.const (.bool false)), 4, "ref.go:21", #[⟨26, .data⟩, ⟨29, .data⟩], none⟩) (by decide) rfl (by kernel_rfl) (by kernel_rfl) (by kernel_rfl) (by kernel_rfl) (fun _ _ _ h => h) (Or.inl ⟨by rfl, ?_⟩) hS ?_
    rotate_left
    · intro W hSW
      go_simp
      try with_reducible rfl
    simp only [Act.put, sA, s0, sS]
    refine wpL_take (v := ?_) (oi := ⟨some 36, .move (.tmp 35), 4, "ref.go:21", #[⟨30, .data⟩, ⟨26, .chain⟩], none⟩) (by decide) rfl (by kernel_rfl) (by kernel_rfl) (by kernel_rfl) (by kernel_rfl) (fun _ _ _ h => h) (Or.inl ⟨by rfl, ?_⟩) hS ?_
    rotate_left
    · intro W hSW
      go_simp
      try with_reducible rfl
    simp only [Act.put, sA, s0, sS]
    refine wpL_take (v := undef) (oi := ⟨some 37, .fieldAddr 30 (.tmp 3) 2, 0, "ref.go:21", #[⟨31, .guard⟩], some (31, true)⟩) (by decide) rfl (by kernel_rfl) (by kernel_rfl) (by kernel_rfl) (by kernel_rfl) (fun _ _ _ h => h) (Or.inr ⟨by rfl, rfl⟩) hS ?_
    simp only [Act.put, sA, s0, sS]
    refine wpL_take (v := undef) (oi := ⟨some 38, .load 3 (.tmp 37), 3, "ref.go:21", #[⟨32, .data⟩, ⟨31, .guard⟩], some (31, true)⟩) (by decide) rfl (by kernel_rfl) (by kernel_rfl) (by kernel_rfl) (by kernel_rfl) (fun _ _ _ h => h) (Or.inr ⟨by rfl, rfl⟩) hS ?_
    simp only [Act.put, sA, s0, sS]
    refine wpL_take (v := undef) (oi := ⟨some 39, .fieldAddr 25 (.tmp 2) 0, 0, "ref.go:21", #[⟨31, .guard⟩], some (31, true)⟩) (by decide) rfl (by kernel_rfl) (by kernel_rfl) (by kernel_rfl) (by kernel_rfl) (fun _ _ _ h => h) (Or.inr ⟨by rfl, rfl⟩) hS ?_
    simp only [Act.put, sA, s0, sS]
    refine wpL_take (v := undef) (oi := ⟨some 40, .load 22 (.tmp 39), 22, "ref.go:21", #[⟨34, .data⟩, ⟨31, .guard⟩], some (31, true)⟩) (by decide) rfl (by kernel_rfl) (by kernel_rfl) (by kernel_rfl) (by kernel_rfl) (fun _ _ _ h => h) (Or.inr ⟨by rfl, rfl⟩) hS ?_
    simp only [Act.put, sA, s0, sS]
    refine wpL_take (v := undef) (oi := ⟨some 41, .call ⟨.builtin .len, #[.tmp 40], #[22]⟩, 3, "ref.go:21", #[⟨35, .data⟩, ⟨31, .guard⟩], some (31, true)⟩) (by decide) rfl (by kernel_rfl) (by kernel_rfl) (by kernel_rfl) (by kernel_rfl) (fun _ _ _ h => h) (Or.inr ⟨by rfl, rfl⟩) hS ?_
    simp only [Act.put, sA, s0, sS]
    refine wpL_take (v := undef) (oi := ⟨some 42, .binOp .leq 3 (.tmp 38) (.tmp 41) 3, 4, "ref.go:21", #[⟨33, .data⟩, ⟨36, .data⟩, ⟨31, .guard⟩], some (31, true)⟩) (by decide) rfl (by kernel_rfl) (by kernel_rfl) (by kernel_rfl) (by kernel_rfl) (fun _ _ _ h => h) (Or.inr ⟨by rfl, rfl⟩) hS ?_
    simp only [Act.put, sA, s0, sS]
    refine wpL_take (v := ?_) (oi := ⟨some 43, .pick (.tmp 36) (.tmp 42) (.const (.bool false)), 4, "ref.go:21", #[⟨31, .data⟩, ⟨37, .data⟩], none⟩) (by decide) rfl (by kernel_rfl) (by kernel_rfl) (by kernel_rfl) (by kernel_rfl) (fun _ _ _ h => h) (Or.inl ⟨by rfl, ?_⟩) hS ?_
    rotate_left
    · intro W hSW
      go_simp
      try with_reducible rfl
    simp only [Act.put, sA, s0, sS]
    refine wpL_take (v := ?_) (oi := ⟨some 4, .assign (.tmp 43), 4, "ref.go:21", #[⟨38, .data⟩, ⟨31, .chain⟩, ⟨0, .phase⟩, ⟨1, .phase⟩, ⟨2, .phase⟩, ⟨3, .phase⟩, ⟨4, .phase⟩, ⟨5, .phase⟩, ⟨6, .phase⟩, ⟨7, .phase⟩, ⟨8, .phase⟩, ⟨9, .phase⟩, ⟨10, .phase⟩, ⟨11, .phase⟩, ⟨12, .phase⟩, ⟨13, .phase⟩, ⟨14, .phase⟩, ⟨15, .phase⟩, ⟨16, .phase⟩, ⟨17, .phase⟩, ⟨18, .phase⟩, ⟨19, .phase⟩, ⟨20, .phase⟩, ⟨21, .phase⟩, ⟨22, .phase⟩, ⟨23, .phase⟩, ⟨24, .phase⟩, ⟨25, .phase⟩, ⟨26, .phase⟩, ⟨27, .phase⟩, ⟨28, .phase⟩, ⟨29, .phase⟩, ⟨30, .phase⟩, ⟨31, .phase⟩, ⟨32, .phase⟩, ⟨33, .phase⟩, ⟨34, .phase⟩, ⟨35, .phase⟩, ⟨36, .phase⟩, ⟨37, .phase⟩, ⟨38, .phase⟩], none⟩) (by decide) rfl (by kernel_rfl) (by kernel_rfl) (by kernel_rfl) (by kernel_rfl) (fun _ _ _ h => h) (Or.inl ⟨by rfl, ?_⟩) hS ?_
    rotate_left
    · intro W hSW
      go_simp
      try with_reducible rfl
    simp only [Act.put, sA, s0, sS]
    refine wpAnyL_done (by kernel_rfl) ?_ _
    have HBx : Hid (Below w.heap.size w w') := HBB.out _ hS.2.2.2.2.2.2
    clear hS hR' HBB
    go_wp2_with fail
    go_ret
    exact ⟨ret_bool HZ.out.symm, HBx.out⟩
  by_cases d4 : 0 ≤ x2
  rotate_left
  · have HZ : Hid (fitI f (x0, x1, x2) = false) := by show _ = _; rw [HW.out]; exact decide_eq_false (by omega)
    have e0 : decide ((-1 : Int) ≤ x0) = true := decide_eq_true d0
    have e1 : decide (x0 < (f.prods.length : Int)) = true := decide_eq_true d1
    have e2 : decide (0 ≤ x1) = true := decide_eq_true d2
    have e3 : decide (x1 ≤ (L : Int)) = true := decide_eq_true d3
    have e4 : decide (0 ≤ x2) = false := decide_eq_false d4
    clear HW
    refine wp_region_L (fun W => W.cell? ⟨w.heap.size, 0, none⟩ = some (.slice ta f.terms.length tc) ∧ W.cell? ⟨w.heap.size, 1, none⟩ = some (.slice na f.nons.length nc) ∧ W.cell? ⟨w.heap.size, 2, none⟩ = some (.slice pa f.prods.length pc) ∧ W.cell? ⟨w.heap.size + 1, 0, none⟩ = some (.int .i64 x0) ∧ W.cell? ⟨w.heap.size + 1, 1, none⟩ = some (.int .i64 x1) ∧ W.cell? ⟨w.heap.size + 1, 2, none⟩ = some (.int .i64 x2) ∧ Below w0.heap.size w0 W) 40 (by kernel_rfl) 40 rfl ?_
    refine wpL_take (v := ?_) (oi := ⟨some 5, .fieldAddr 30 (.tmp 3) 0, 0, "ref.go:21", #[], none⟩) (by decide) rfl (by kernel_rfl) (by kernel_rfl) (by kernel_rfl) (by kernel_rfl) (fun _ _ _ h => h) (Or.inl ⟨by rfl, ?_⟩) HS0.out ?_
    rotate_left
    · intro W hSW
      go_simp
      try with_reducible rfl
    simp only [Act.put, sA, s0, sS]
    refine wpL_take (v := ?_) (oi := ⟨some 6, .load 3 (.tmp 5), 3, "ref.go:21", #[⟨0, .data⟩], none⟩) (by decide) rfl (by kernel_rfl) (by kernel_rfl) (by kernel_rfl) (by kernel_rfl) (fun _ _ _ h => h) (Or.inl ⟨by rfl, ?_⟩) HS0.out ?_
    rotate_left
    · intro W hSW
      go_simp
      try with_reducible rfl
    simp only [Act.put, sA, s0, sS]
    refine wpL_take (v := ?_) (oi := ⟨some 7, .binOp .geq 3 (.tmp 6) (.const (.int .i64 (-1))) 3, 4, "ref.go:21", #[⟨1, .data⟩], none⟩) (by decide) rfl (by kernel_rfl) (by kernel_rfl) (by kernel_rfl) (by kernel_rfl) (fun _ _ _ h => h) (Or.inl ⟨by rfl, ?_⟩) HS0.out ?_
    rotate_left
    · intro W hSW
      go_simp
      try with_reducible rfl
    simp only [Act.put, sA, s0, sS]
    refine wpL_take (v := ?_) (oi := ⟨some 8, .move (.tmp 7), 4, "ref.go:21", #[⟨2, .data⟩], none⟩) (by decide) rfl (by kernel_rfl) (by kernel_rfl) (by kernel_rfl) (by kernel_rfl) (fun _ _ _ h => h) (Or.inl ⟨by rfl, ?_⟩) HS0.out ?_
    rotate_left
    · intro W hSW
      go_simp
      try with_reducible rfl
    simp only [Act.put, sA, s0, sS]
    refine wpL_take (v := ?_) (oi := ⟨some 9, .fieldAddr 30 (.tmp 3) 0, 0, "ref.go:21", #[⟨3, .guard⟩], some (3, true)⟩) (by decide) rfl (by kernel_rfl) (by kernel_rfl) (by kernel_rfl) (by kernel_rfl) (fun _ _ _ h => h) (Or.inl ⟨by rfl, ?_⟩) HS0.out ?_
    rotate_left
    · intro W hSW
      go_simp
      try with_reducible rfl
    simp only [Act.put, sA, s0, sS]
    refine wpL_take (v := ?_) (oi := ⟨some 10, .load 3 (.tmp 9), 3, "ref.go:21", #[⟨4, .data⟩, ⟨3, .guard⟩], some (3, true)⟩) (by decide) rfl (by kernel_rfl) (by kernel_rfl) (by kernel_rfl) (by kernel_rfl) (fun _ _ _ h => h) (Or.inl ⟨by rfl, ?_⟩) HS0.out ?_
    rotate_left
    · intro W hSW
      go_simp
      try with_reducible rfl
    simp only [Act.put, sA, s0, sS]
    refine wpL_take (v := ?_) (oi := ⟨some 11, .fieldAddr 25 (.tmp 2) 2, 0, "ref.go:21", #[⟨3, .guard⟩], some (3, true)⟩) (by decide) rfl (by kernel_rfl) (by kernel_rfl) (by kernel_rfl) (by kernel_rfl) (fun _ _ _ h => h) (Or.inl ⟨by rfl, ?_⟩) HS0.out ?_
    rotate_left
    · intro W hSW
      go_simp
      try with_reducible rfl
    simp only [Act.put, sA, s0, sS]
    refine wpL_take (v := ?_) (oi := ⟨some 12, .load 23 (.tmp 11), 23, "ref.go:21", #[⟨6, .data⟩, ⟨3, .guard⟩], some (3, true)⟩) (by decide) rfl (by kernel_rfl) (by kernel_rfl) (by kernel_rfl) (by kernel_rfl) (fun _ _ _ h => h) (Or.inl ⟨by rfl, ?_⟩) HS0.out ?_
    rotate_left
    · intro W hSW
      go_simp
      try with_reducible rfl
    simp only [Act.put, sA, s0, sS]
    refine wpL_take (v := ?_) (oi := ⟨some 13, .call ⟨.builtin .len, #[.tmp 12], #[23]⟩, 3, "ref.go:21", #[⟨7, .data⟩, ⟨3, .guard⟩], some (3, true)⟩) (by decide) rfl (by kernel_rfl) (by kernel_rfl) (by kernel_rfl) (by kernel_rfl) (fun _ _ _ h => h) (Or.inl ⟨by rfl, ?_⟩) HS0.out ?_
    rotate_left
    · intro W hSW
      go_simp
      try with_reducible rfl
    simp only [Act.put, sA, s0, sS]
    refine wpL_take (v := ?_) (oi := ⟨some 14, .binOp .lss 3 (.tmp 10) (.tmp 13) 3, 4, "ref.go:21", #[⟨5, .data⟩, ⟨8, .data⟩, ⟨3, .guard⟩], some (3, true)⟩) (by decide) rfl (by kernel_rfl) (by kernel_rfl) (by kernel_rfl) (by kernel_rfl) (fun _ _ _ h => h) (Or.inl ⟨by rfl, ?_⟩) HS0.out ?_
    rotate_left
    · intro W hSW
      go_simp
      try with_reducible rfl
    simp only [Act.put, sA, s0, sS]
    refine wpL_take (v := ?_) (oi := ⟨some 15, .pick (.tmp 8) (.tmp 14) (.const (.bool false)), 4, "ref.go:21", #[⟨3, .data⟩, ⟨9, .data⟩], none⟩) (by decide) rfl (by kernel_rfl) (by kernel_rfl) (by kernel_rfl) (by kernel_rfl) (fun _ _ _ h => h) (Or.inl ⟨by rfl, ?_⟩) HS0.out ?_
    rotate_left
    · intro W hSW
      go_simp
      try with_reducible rfl
    simp only [Act.put, sA, s0, sS]
    refine wpL_take (v := ?_) (oi := ⟨some 16, .move (.tmp 15), 4, "ref.go:21", #[⟨10, .data⟩, ⟨3, .chain⟩], none⟩) (by decide) rfl (by kernel_rfl) (by kernel_rfl) (by kernel_rfl) (by kernel_rfl) (fun _ _ _ h => h) (Or.inl ⟨by rfl, ?_⟩) HS0.out ?_
    rotate_left
    · intro W hSW
      go_simp
      try with_reducible rfl
    simp only [Act.put, sA, s0, sS]
    refine wpL_take (v := ?_) (oi := ⟨some 17, .fieldAddr 30 (.tmp 3) 1, 0, "ref.go:21", #[⟨11, .guard⟩], some (11, true)⟩) (by decide) rfl (by kernel_rfl) (by kernel_rfl) (by kernel_rfl) (by kernel_rfl) (fun _ _ _ h => h) (Or.inl ⟨by rfl, ?_⟩) HS0.out ?_
    rotate_left
    · intro W hSW
      go_simp
      try with_reducible rfl
    simp only [Act.put, sA, s0, sS]
    refine wpL_take (v := ?_) (oi := ⟨some 18, .load 3 (.tmp 17), 3, "ref.go:21", #[⟨12, .data⟩, ⟨11, .guard⟩], some (11, true)⟩) (by decide) rfl (by kernel_rfl) (by kernel_rfl) (by kernel_rfl) (by kernel_rfl) (fun _ _ _ h => h) (Or.inl ⟨by rfl, ?_⟩) HS0.out ?_
    rotate_left
    · intro W hSW
      go_simp
      try with_reducible rfl
    simp only [Act.put, sA, s0, sS]
    refine wpL_take (v := ?_) (oi := ⟨some 19, .binOp .geq 3 (.tmp 18) (.const (.int .i64 0)) 3, 4, "ref.go:21", #[⟨13, .data⟩, ⟨11, .guard⟩], some (11, true)⟩) (by decide) rfl (by kernel_rfl) (by kernel_rfl) (by kernel_rfl) (by kernel_rfl) (fun _ _ _ h => h) (Or.inl ⟨by rfl, ?_⟩) HS0.out ?_
    rotate_left
    · intro W hSW
      go_simp
      try with_reducible rfl
    simp only [Act.put, sA, s0, sS]
    refine wpL_take (v := ?_) (oi := ⟨some 20, .pick (.tmp 16) (.tmp 19) (.const (.bool false)), 4, "ref.go:21", #[⟨11, .data⟩, ⟨14, .data⟩], none⟩) (by decide) rfl (by kernel_rfl) (by kernel_rfl) (by kernel_rfl) (by kernel_rfl) (fun _ _ _ h => h) (Or.inl ⟨by rfl, ?_⟩) HS0.out ?_
    rotate_left
    · intro W hSW
      go_simp
      try with_reducible rfl
    simp only [Act.put, sA, s0, sS]
    refine wpL_take (v := ?_) (oi := ⟨some 21, .move (.tmp 20), 4, "ref.go:21", #[⟨15, .data⟩, ⟨11, .chain⟩], none⟩) (by decide) rfl (by kernel_rfl) (by kernel_rfl) (by kernel_rfl) (by kernel_rfl) (fun _ _ _ h => h) (Or.inl ⟨by rfl, ?_⟩) HS0.out ?_
    rotate_left
    · intro W hSW
      go_simp
      try with_reducible rfl
    simp only [Act.put, sA, s0, sS]
    refine wpL_take (v := ?_) (oi := ⟨some 22, .fieldAddr 30 (.tmp 3) 1, 0, "ref.go:21", #[⟨16, .guard⟩], some (16, true)⟩) (by decide) rfl (by kernel_rfl) (by kernel_rfl) (by kernel_rfl) (by kernel_rfl) (fun _ _ _ h => h) (Or.inl ⟨by rfl, ?_⟩) HS0.out ?_
    rotate_left
    · intro W hSW
      go_simp
      try with_reducible rfl
    simp only [Act.put, sA, s0, sS]
    refine wpL_take (v := ?_) (oi := ⟨some 23, .load 3 (.tmp 22), 3, "ref.go:21", #[⟨17, .data⟩, ⟨16, .guard⟩], some (16, true)⟩) (by decide) rfl (by kernel_rfl) (by kernel_rfl) (by kernel_rfl) (by kernel_rfl) (fun _ _ _ h => h) (Or.inl ⟨by rfl, ?_⟩) HS0.out ?_
    rotate_left
    · intro W hSW
      go_simp
      try with_reducible rfl
    simp only [Act.put, sA, s0, sS]
    refine wpL_take (v := ?_) (oi := ⟨some 24, .load 25 (.tmp 2), 25, "ref.go:21", #[⟨16, .guard⟩], some (16, true)⟩) (by decide) rfl (by kernel_rfl) (by kernel_rfl) (by kernel_rfl) (by kernel_rfl) (fun _ _ _ h => h) (Or.inl ⟨by rfl, ?_⟩) HS0.out ?_
    rotate_left
    · intro W hSW
      go_simp
      try with_reducible rfl
    simp only [Act.put, sA, s0, sS]
    refine wpL_take (v := ?_) (oi := ⟨some 25, .fieldAddr 30 (.tmp 3) 0, 0, "ref.go:21", #[⟨16, .guard⟩], some (16, true)⟩) (by decide) rfl (by kernel_rfl) (by kernel_rfl) (by kernel_rfl) (by kernel_rfl) (fun _ _ _ h => h) (Or.inl ⟨by rfl, ?_⟩) HS0.out ?_
    rotate_left
    · intro W hSW
      go_simp
      try with_reducible rfl
    simp only [Act.put, sA, s0, sS]
    refine wpL_take (v := ?_) (oi := ⟨some 26, .load 3 (.tmp 25), 3, "ref.go:21", #[⟨20, .data⟩, ⟨16, .guard⟩], some (16, true)⟩) (by decide) rfl (by kernel_rfl) (by kernel_rfl) (by kernel_rfl) (by kernel_rfl) (fun _ _ _ h => h) (Or.inl ⟨by rfl, ?_⟩) HS0.out ?_
    rotate_left
    · intro W hSW
      go_simp
      try with_reducible rfl
    simp only [Act.put, sA, s0, sS]
    refine wpL_one (o := ⟨some 27, .call ⟨.value (.func 31), #[.tmp 24, .tmp 26], #[25, 3]⟩, 52, "ref.go:21", #[⟨19, .data⟩, ⟨21, .data⟩, ⟨16, .chain⟩, ⟨16, .guard⟩], some (16, true)⟩) (by decide) (by kernel_rfl) rfl (fun K hK => ?_)
    go_simp
    refine (hR' _ d0 d1 HS0.out).mono ?_
    rintro e w' ⟨va, vc, rfl, hS⟩
    refine hK.out _ _ (fun _ => hS) ?_
    clear hK
    refine wpL_take (v := ?_) (oi := ⟨some 28, .call ⟨.builtin .len, #[.tmp 27], #[52]⟩, 3, "ref.go:21", #[⟨22, .data⟩, ⟨16, .guard⟩], some (16, true)⟩) (by decide) rfl (by kernel_rfl) (by kernel_rfl) (by kernel_rfl) (by kernel_rfl) (fun _ _ _ h => h) (Or.inl ⟨by rfl, ?_⟩) hS ?_
    rotate_left
    · intro W hSW
      go_simp
      try with_reducible rfl
    simp only [Act.put, sA, s0, sS]
    refine wpL_take (v := ?_) (oi := ⟨some 29, .binOp .leq 3 (.tmp 23) (.tmp 28) 3, 4, "ref.go:21", #[⟨18, .data⟩, ⟨23, .data⟩, ⟨16, .guard⟩], some (16, true)⟩) (by decide) rfl (by kernel_rfl) (by kernel_rfl) (by kernel_rfl) (by kernel_rfl) (fun _ _ _ h => h) (Or.inl ⟨by rfl, ?_⟩) hS ?_
    rotate_left
    · intro W hSW
      go_simp
      try with_reducible rfl
    simp only [Act.put, sA, s0, sS]
    refine wpL_take (v := ?_) (oi := ⟨some 30, .pick (.tmp 21) (.tmp 29) (.const (.bool false)), 4, "ref.go:21", #[⟨16, .data⟩, ⟨24, .data⟩], none⟩) (by decide) rfl (by kernel_rfl) (by kernel_rfl) (by kernel_rfl) (by kernel_rfl) (fun _ _ _ h => h) (Or.inl ⟨by rfl, ?_⟩) hS ?_
    rotate_left
    · intro W hSW
      go_simp
      try with_reducible rfl
    simp only [Act.put, sA, s0, sS]
    refine wpL_take (v := ?_) (oi := ⟨some 31, .move (.tmp 30), 4, "ref.go:21", #[⟨25, .data⟩, ⟨22, .chain⟩], none⟩) (by decide) rfl (by kernel_rfl) (by kernel_rfl) (by kernel_rfl) (by kernel_rfl) (fun _ _ _ h => h) (Or.inl ⟨by rfl, ?_⟩) hS ?_
    rotate_left
    · intro W hSW
      go_simp
      try with_reducible rfl
    simp only [Act.put, sA, s0, sS]
    refine wpL_take (v := ?_) (oi := ⟨some 32, .fieldAddr 30 (.tmp 3) 2, 0, "ref.go:21", #[⟨26, .guard⟩], some (26, true)⟩) (by decide) rfl (by kernel_rfl) (by kernel_rfl) (by kernel_rfl) (by kernel_rfl) (fun _ _ _ h => h) (Or.inl ⟨by rfl, ?_⟩) hS ?_
    rotate_left
    · intro W hSW
      go_simp
      try with_reducible rfl
    simp only [Act.put, sA, s0, sS]
    refine wpL_take (v := ?_) (oi := ⟨some 33, .load 3 (.tmp 32), 3, "ref.go:21", #[⟨27, .data⟩, ⟨26, .guard⟩], some (26, true)⟩) (by decide) rfl (by kernel_rfl) (by kernel_rfl) (by kernel_rfl) (by kernel_rfl) (fun _ _ _ h => h) (Or.inl ⟨by rfl, ?_⟩) hS ?_
    rotate_left
    · intro W hSW
      go_simp
      try with_reducible rfl
    simp only [Act.put, sA, s0, sS]
    refine wpL_take (v := ?_) (oi := ⟨some 34, .binOp .geq 3 (.tmp 33) (.const (.int .i64 0)) 3, 4, "ref.go:21", #[⟨28, .data⟩, ⟨26, .guard⟩], some (26, true)⟩) (by decide) rfl (by kernel_rfl) (by kernel_rfl) (by kernel_rfl) (by kernel_rfl) (fun _ _ _ h => h) (Or.inl ⟨by rfl, ?_⟩) hS ?_
    rotate_left
    · intro W hSW
      go_simp
      try with_reducible rfl
    simp only [Act.put, sA, s0, sS]
    refine wpL_take (v := ?_) (oi := ⟨some 35, .pick (.tmp 31) (.tmp 34) (.const (.bool false)), 4, "ref.go:21", #[⟨26, .data⟩, ⟨29, .data⟩], none⟩) (by decide) rfl (by kernel_rfl) (by kernel_rfl) (by kernel_rfl) (by kernel_rfl) (fun _ _ _ h => h) (Or.inl ⟨by rfl, ?_⟩) hS ?_
    rotate_left
    · intro W hSW
      go_simp
      try with_reducible rfl
    simp only [Act.put, sA, s0, sS]
    refine wpL_take (v := ?_) (oi := ⟨some 36, .move (.tmp 35), 4, "ref.go:21", #[⟨30, .data⟩, ⟨26, .chain⟩], none⟩) (by decide) rfl (by kernel_rfl) (by kernel_rfl) (by kernel_rfl) (by kernel_rfl) (fun _ _ _ h => h) (Or.inl ⟨by rfl, ?_⟩) hS ?_
    rotate_left
    · intro W hSW
      go_simp
      try with_reducible rfl
    simp only [Act.put, sA, s0, sS]
    refine wpL_take (v := undef) (oi := ⟨some 37, .fieldAddr 30 (.tmp 3) 2, 0, "ref.go:21", #[⟨31, .guard⟩], some (31, true)⟩) (by decide) rfl (by kernel_rfl) (by kernel_rfl) (by kernel_rfl) (by kernel_rfl) (fun _ _ _ h => h) (Or.inr ⟨by rfl, rfl⟩) hS ?_
    simp only [Act.put, sA, s0, sS]
    refine wpL_take (v := undef) (oi := ⟨some 38, .load 3 (.tmp 37), 3, "ref.go:21", #[⟨32, .data⟩, ⟨31, .guard⟩], some (31, true)⟩) (by decide) rfl (by kernel_rfl) (by kernel_rfl) (by kernel_rfl) (by kernel_rfl) (fun _ _ _ h => h) (Or.inr ⟨by rfl, rfl⟩) hS ?_
    simp only [Act.put, sA, s0, sS]
    refine wpL_take (v := undef) (oi := ⟨some 39, .fieldAddr 25 (.tmp 2) 0, 0, "ref.go:21", #[⟨31, .guard⟩], some (31, true)⟩) (by decide) rfl (by kernel_rfl) (by kernel_rfl) (by kernel_rfl) (by kernel_rfl) (fun _ _ _ h => h) (Or.inr ⟨by rfl, rfl⟩) hS ?_
    simp only [Act.put, sA, s0, sS]
    refine wpL_take (v := undef) (oi := ⟨some 40, .load 22 (.tmp 39), 22, "ref.go:21", #[⟨34, .data⟩, ⟨31, .guard⟩], some (31, true)⟩) (by decide) rfl (by kernel_rfl) (by kernel_rfl) (by kernel_rfl) (by kernel_rfl) (fun _ _ _ h => h) (Or.inr ⟨by rfl, rfl⟩) hS ?_
    simp only [Act.put, sA, s0, sS]
    refine wpL_take (v := undef) (oi := ⟨some 41, .call ⟨.builtin .len, #[.tmp 40], #[22]⟩, 3, "ref.go:21", #[⟨35, .data⟩, ⟨31, .guard⟩], some (31, true)⟩) (by decide) rfl (by kernel_rfl) (by kernel_rfl) (by kernel_rfl) (by kernel_rfl) (fun _ _ _ h => h) (Or.inr ⟨by rfl, rfl⟩) hS ?_
    simp only [Act.put, sA, s0, sS]
    refine wpL_take (v := undef) (oi := ⟨some 42, .binOp .leq 3 (.tmp 38) (.tmp 41) 3, 4, "ref.go:21", #[⟨33, .data⟩, ⟨36, .data⟩, ⟨31, .guard⟩], some (31, true)⟩) (by decide) rfl (by kernel_rfl) (by kernel_rfl) (by kernel_rfl) (by kernel_rfl) (fun _ _ _ h => h) (Or.inr ⟨by rfl, rfl⟩) hS ?_
    simp only [Act.put, sA, s0, sS]
    refine wpL_take (v := ?_) (oi := ⟨some 43, .pick (.tmp 36) (.tmp 42) (.const (.bool false)), 4, "ref.go:21", #[⟨31, .data⟩, ⟨37, .data⟩], none⟩) (by decide) rfl (by kernel_rfl) (by kernel_rfl) (by kernel_rfl) (by kernel_rfl) (fun _ _ _ h => h) (Or.inl ⟨by rfl, ?_⟩) hS ?_
    rotate_left
    · intro W hSW
      go_simp
      try with_reducible rfl
    simp only [Act.put, sA, s0, sS]
    refine wpL_take (v := ?_) (oi := ⟨some 4, .assign (.tmp 43), 4, "ref.go:21", #[⟨38, .data⟩, ⟨31, .chain⟩, ⟨0, .phase⟩, ⟨1, .phase⟩, ⟨2, .phase⟩, ⟨3, .phase⟩, ⟨4, .phase⟩, ⟨5, .phase⟩, ⟨6, .phase⟩, ⟨7, .phase⟩, ⟨8, .phase⟩, ⟨9, .phase⟩, ⟨10, .phase⟩, ⟨11, .phase⟩, ⟨12, .phase⟩, ⟨13, .phase⟩, ⟨14, .phase⟩, ⟨15, .phase⟩, ⟨16, .phase⟩, ⟨17, .phase⟩, ⟨18, .phase⟩, ⟨19, .phase⟩, ⟨20, .phase⟩, ⟨21, .phase⟩, ⟨22, .phase⟩, ⟨23, .phase⟩, ⟨24, .phase⟩, ⟨25, .phase⟩, ⟨26, .phase⟩, ⟨27, .phase⟩, ⟨28, .phase⟩, ⟨29, .phase⟩, ⟨30, .phase⟩, ⟨31, .phase⟩, ⟨32, .phase⟩, ⟨33, .phase⟩, ⟨34, .phase⟩, ⟨35, .phase⟩, ⟨36, .phase⟩, ⟨37, .phase⟩, ⟨38, .phase⟩], none⟩) (by decide) rfl (by kernel_rfl) (by kernel_rfl) (by kernel_rfl) (by kernel_rfl) (fun _ _ _ h => h) (Or.inl ⟨by rfl, ?_⟩) hS ?_
    rotate_left
    · intro W hSW
      go_simp
      try with_reducible rfl
    simp only [Act.put, sA, s0, sS]
    refine wpAnyL_done (by kernel_rfl) ?_ _
    have HBx : Hid (Below w.heap.size w w') := HBB.out _ hS.2.2.2.2.2.2
    clear hS hR' HBB
    go_wp2_with fail
    go_ret
    exact ⟨ret_bool HZ.out.symm, HBx.out⟩
  have e0 : decide ((-1 : Int) ≤ x0) = true := decide_eq_true d0
  have e1 : decide (x0 < (f.prods.length : Int)) = true := decide_eq_true d1
  have e2 : decide (0 ≤ x1) = true := decide_eq_true d2
  have e3 : decide (x1 ≤ (L : Int)) = true := decide_eq_true d3
  have e4 : decide (0 ≤ x2) = true := decide_eq_true d4
  have HZ : Hid (fitI f (x0, x1, x2) = decide (x2 ≤ f.terms.length)) := by
    show _ = _; rw [HW.out, Bool.eq_iff_iff, decide_eq_true_eq, decide_eq_true_eq]; omega
  clear HW
  refine wp_region_L (fun W => W.cell? ⟨w.heap.size, 0, none⟩ = some (.slice ta f.terms.length tc) ∧ W.cell? ⟨w.heap.size, 1, none⟩ = some (.slice na f.nons.length nc) ∧ W.cell? ⟨w.heap.size, 2, none⟩ = some (.slice pa f.prods.length pc) ∧ W.cell? ⟨w.heap.size + 1, 0, none⟩ = some (.int .i64 x0) ∧ W.cell? ⟨w.heap.size + 1, 1, none⟩ = some (.int .i64 x1) ∧ W.cell? ⟨w.heap.size + 1, 2, none⟩ = some (.int .i64 x2) ∧ Below w0.heap.size w0 W) 40 (by kernel_rfl) 40 rfl ?_
  refine wpL_take (v := ?_) (oi := ⟨some 5, .fieldAddr 30 (.tmp 3) 0, 0, "ref.go:21", #[], none⟩) (by decide) rfl (by kernel_rfl) (by kernel_rfl) (by kernel_rfl) (by kernel_rfl) (fun _ _ _ h => h) (Or.inl ⟨by rfl, ?_⟩) HS0.out ?_
  rotate_left
  · intro W hSW
    go_simp
    try with_reducible rfl
  simp only [Act.put, sA, s0, sS]
  refine wpL_take (v := ?_) (oi := ⟨some 6, .load 3 (.tmp 5), 3, "ref.go:21", #[⟨0, .data⟩], none⟩) (by decide) rfl (by kernel_rfl) (by kernel_rfl) (by kernel_rfl) (by kernel_rfl) (fun _ _ _ h => h) (Or.inl ⟨by rfl, ?_⟩) HS0.out ?_
  rotate_left
  · intro W hSW
    go_simp
    try with_reducible rfl
  simp only [Act.put, sA, s0, sS]
  refine wpL_take (v := ?_) (oi := ⟨some 7, .binOp .geq 3 (.tmp 6) (.const (.int .i64 (-1))) 3, 4, "ref.go:21", #[⟨1, .data⟩], none⟩) (by decide) rfl (by kernel_rfl) (by kernel_rfl) (by kernel_rfl) (by kernel_rfl) (fun _ _ _ h => h) (Or.inl ⟨by rfl, ?_⟩) HS0.out ?_
  rotate_left
  · intro W hSW
    go_simp
    try with_reducible rfl
  simp only [Act.put, sA, s0, sS]
  refine wpL_take (v := ?_) (oi := ⟨some 8, .move (.tmp 7), 4, "ref.go:21", #[⟨2, .data⟩], none⟩) (by decide) rfl (by kernel_rfl) (by kernel_rfl) (by kernel_rfl) (by kernel_rfl) (fun _ _ _ h => h) (Or.inl ⟨by rfl, ?_⟩) HS0.out ?_
  rotate_left
  · intro W hSW
    go_simp
    try with_reducible rfl
  simp only [Act.put, sA, s0, sS]
  refine wpL_take (v := ?_) (oi := ⟨some 9, .fieldAddr 30 (.tmp 3) 0, 0, "ref.go:21", #[⟨3, .guard⟩], some (3, true)⟩) (by decide) rfl (by kernel_rfl) (by kernel_rfl) (by kernel_rfl) (by kernel_rfl) (fun _ _ _ h => h) (Or.inl ⟨by rfl, ?_⟩) HS0.out ?_
  rotate_left
  · intro W hSW
    go_simp
    try with_reducible rfl
  simp only [Act.put, sA, s0, sS]
  refine wpL_take (v := ?_) (oi := ⟨some 10, .load 3 (.tmp 9), 3, "ref.go:21", #[⟨4, .data⟩, ⟨3, .guard⟩], some (3, true)⟩) (by decide) rfl (by kernel_rfl) (by kernel_rfl) (by kernel_rfl) (by kernel_rfl) (fun _ _ _ h => h) (Or.inl ⟨by rfl, ?_⟩) HS0.out ?_
  rotate_left
  · intro W hSW
    go_simp
    try with_reducible rfl
  simp only [Act.put, sA, s0, sS]
  refine wpL_take (v := ?_) (oi := ⟨some 11, .fieldAddr 25 (.tmp 2) 2, 0, "ref.go:21", #[⟨3, .guard⟩], some (3, true)⟩) (by decide) rfl (by kernel_rfl) (by kernel_rfl) (by kernel_rfl) (by kernel_rfl) (fun _ _ _ h => h) (Or.inl ⟨by rfl, ?_⟩) HS0.out ?_
  rotate_left
  · intro W hSW
    go_simp
    try with_reducible rfl
  simp only [Act.put, sA, s0, sS]
  refine wpL_take (v := ?_) (oi := ⟨some 12, .load 23 (.tmp 11), 23, "ref.go:21", #[⟨6, .data⟩, ⟨3, .guard⟩], some (3, true)⟩) (by decide) rfl (by kernel_rfl) (by kernel_rfl) (by kernel_rfl) (by kernel_rfl) (fun _ _ _ h => h) (Or.inl ⟨by rfl, ?_⟩) HS0.out ?_
  rotate_left
  · intro W hSW
    go_simp
    try with_reducible rfl
  simp only [Act.put, sA, s0, sS]
  refine wpL_take (v := ?_) (oi := ⟨some 13, .call ⟨.builtin .len, #[.tmp 12], #[23]⟩, 3, "ref.go:21", #[⟨7, .data⟩, ⟨3, .guard⟩], some (3, true)⟩) (by decide) rfl (by kernel_rfl) (by kernel_rfl) (by kernel_rfl) (by kernel_rfl) (fun _ _ _ h => h) (Or.inl ⟨by rfl, ?_⟩) HS0.out ?_
  rotate_left
  · intro W hSW
    go_simp
    try with_reducible rfl
  simp only [Act.put, sA, s0, sS]
  refine wpL_take (v := ?_) (oi := ⟨some 14, .binOp .lss 3 (.tmp 10) (.tmp 13) 3, 4, "ref.go:21", #[⟨5, .data⟩, ⟨8, .data⟩, ⟨3, .guard⟩], some (3, true)⟩) (by decide) rfl (by kernel_rfl) (by kernel_rfl) (by kernel_rfl) (by kernel_rfl) (fun _ _ _ h => h) (Or.inl ⟨by rfl, ?_⟩) HS0.out ?_
  rotate_left
  · intro W hSW
    go_simp
    try with_reducible rfl
  simp only [Act.put, sA, s0, sS]
  refine wpL_take (v := ?_) (oi := ⟨some 15, .pick (.tmp 8) (.tmp 14) (.const (.bool false)), 4, "ref.go:21", #[⟨3, .data⟩, ⟨9, .data⟩], none⟩) (by decide) rfl (by kernel_rfl) (by kernel_rfl) (by kernel_rfl) (by kernel_rfl) (fun _ _ _ h => h) (Or.inl ⟨by rfl, ?_⟩) HS0.out ?_
  rotate_left
  · intro W hSW
    go_simp
    try with_reducible rfl
  simp only [Act.put, sA, s0, sS]
  refine wpL_take (v := ?_) (oi := ⟨some 16, .move (.tmp 15), 4, "ref.go:21", #[⟨10, .data⟩, ⟨3, .chain⟩], none⟩) (by decide) rfl (by kernel_rfl) (by kernel_rfl) (by kernel_rfl) (by kernel_rfl) (fun _ _ _ h => h) (Or.inl ⟨by rfl, ?_⟩) HS0.out ?_
  rotate_left
  · intro W hSW
    go_simp
    try with_reducible rfl
  simp only [Act.put, sA, s0, sS]
  refine wpL_take (v := ?_) (oi := ⟨some 17, .fieldAddr 30 (.tmp 3) 1, 0, "ref.go:21", #[⟨11, .guard⟩], some (11, true)⟩) (by decide) rfl (by kernel_rfl) (by kernel_rfl) (by kernel_rfl) (by kernel_rfl) (fun _ _ _ h => h) (Or.inl ⟨by rfl, ?_⟩) HS0.out ?_
  rotate_left
  · intro W hSW
    go_simp
    try with_reducible rfl
  simp only [Act.put, sA, s0, sS]
  refine wpL_take (v := ?_) (oi := ⟨some 18, .load 3 (.tmp 17), 3, "ref.go:21", #[⟨12, .data⟩, ⟨11, .guard⟩], some (11, true)⟩) (by decide) rfl (by kernel_rfl) (by kernel_rfl) (by kernel_rfl) (by kernel_rfl) (fun _ _ _ h => h) (Or.inl ⟨by rfl, ?_⟩) HS0.out ?_
  rotate_left
  · intro W hSW
    go_simp
    try with_reducible rfl
  simp only [Act.put, sA, s0, sS]
  refine wpL_take (v := ?_) (oi := ⟨some 19, .binOp .geq 3 (.tmp 18) (.const (.int .i64 0)) 3, 4, "ref.go:21", #[⟨13, .data⟩, ⟨11, .guard⟩], some (11, true)⟩) (by decide) rfl (by kernel_rfl) (by kernel_rfl) (by kernel_rfl) (by kernel_rfl) (fun _ _ _ h => h) (Or.inl ⟨by rfl, ?_⟩) HS0.out ?_
  rotate_left
  · intro W hSW
    go_simp
    try with_reducible rfl
  simp only [Act.put, sA, s0, sS]
  refine wpL_take (v := ?_) (oi := ⟨some 20, .pick (.tmp 16) (.tmp 19) (.const (.bool false)), 4, "ref.go:21", #[⟨11, .data⟩, ⟨14, .data⟩], none⟩) (by decide) rfl (by kernel_rfl) (by kernel_rfl) (by kernel_rfl) (by kernel_rfl) (fun _ _ _ h => h) (Or.inl ⟨by rfl, ?_⟩) HS0.out ?_
  rotate_left
  · intro W hSW
    go_simp
    try with_reducible rfl
  simp only [Act.put, sA, s0, sS]
  refine wpL_take (v := ?_) (oi := ⟨some 21, .move (.tmp 20), 4, "ref.go:21", #[⟨15, .data⟩, ⟨11, .chain⟩], none⟩) (by decide) rfl (by kernel_rfl) (by kernel_rfl) (by kernel_rfl) (by kernel_rfl) (fun _ _ _ h => h) (Or.inl ⟨by rfl, ?_⟩) HS0.out ?_
  rotate_left
  · intro W hSW
    go_simp
    try with_reducible rfl
  simp only [Act.put, sA, s0, sS]
  refine wpL_take (v := ?_) (oi := ⟨some 22, .fieldAddr 30 (.tmp 3) 1, 0, "ref.go:21", #[⟨16, .guard⟩], some (16, true)⟩) (by decide) rfl (by kernel_rfl) (by kernel_rfl) (by kernel_rfl) (by kernel_rfl) (fun _ _ _ h => h) (Or.inl ⟨by rfl, ?_⟩) HS0.out ?_
  rotate_left
  · intro W hSW
    go_simp
    try with_reducible rfl
  simp only [Act.put, sA, s0, sS]
  refine wpL_take (v := ?_) (oi := ⟨some 23, .load 3 (.tmp 22), 3, "ref.go:21", #[⟨17, .data⟩, ⟨16, .guard⟩], some (16, true)⟩) (by decide) rfl (by kernel_rfl) (by kernel_rfl) (by kernel_rfl) (by kernel_rfl) (fun _ _ _ h => h) (Or.inl ⟨by rfl, ?_⟩) HS0.out ?_
  rotate_left
  · intro W hSW
    go_simp
    try with_reducible rfl
  simp only [Act.put, sA, s0, sS]
  refine wpL_take (v := ?_) (oi := ⟨some 24, .load 25 (.tmp 2), 25, "ref.go:21", #[⟨16, .guard⟩], some (16, true)⟩) (by decide) rfl (by kernel_rfl) (by kernel_rfl) (by kernel_rfl) (by kernel_rfl) (fun _ _ _ h => h) (Or.inl ⟨by rfl, ?_⟩) HS0.out ?_
  rotate_left
  · intro W hSW
    go_simp
    try with_reducible rfl
  simp only [Act.put, sA, s0, sS]
  refine wpL_take (v := ?_) (oi := ⟨some 25, .fieldAddr 30 (.tmp 3) 0, 0, "ref.go:21", #[⟨16, .guard⟩], some (16, true)⟩) (by decide) rfl (by kernel_rfl) (by kernel_rfl) (by kernel_rfl) (by kernel_rfl) (fun _ _ _ h => h) (Or.inl ⟨by rfl, ?_⟩) HS0.out ?_
  rotate_left
  · intro W hSW
    go_simp
    try with_reducible rfl
  simp only [Act.put, sA, s0, sS]
  refine wpL_take (v := ?_) (oi := ⟨some 26, .load 3 (.tmp 25), 3, "ref.go:21", #[⟨20, .data⟩, ⟨16, .guard⟩], some (16, true)⟩) (by decide) rfl (by kernel_rfl) (by kernel_rfl) (by kernel_rfl) (by kernel_rfl) (fun _ _ _ h => h) (Or.inl ⟨by rfl, ?_⟩) HS0.out ?_
  rotate_left
  · intro W hSW
    go_simp
    try with_reducible rfl
  simp only [Act.put, sA, s0, sS]
  refine wpL_one (o := ⟨some 27, .call ⟨.value (.func 31), #[.tmp 24, .tmp 26], #[25, 3]⟩, 52, "ref.go:21", #[⟨19, .data⟩, ⟨21, .data⟩, ⟨16, .chain⟩, ⟨16, .guard⟩], some (16, true)⟩) (by decide) (by kernel_rfl) rfl (fun K hK => ?_)
  go_simp
  refine (hR' _ d0 d1 HS0.out).mono ?_
  rintro e w' ⟨va, vc, rfl, hS⟩
  refine hK.out _ _ (fun _ => hS) ?_
  clear hK
  refine wpL_take (v := ?_) (oi := ⟨some 28, .call ⟨.builtin .len, #[.tmp 27], #[52]⟩, 3, "ref.go:21", #[⟨22, .data⟩, ⟨16, .guard⟩], some (16, true)⟩) (by decide) rfl (by kernel_rfl) (by kernel_rfl) (by kernel_rfl) (by kernel_rfl) (fun _ _ _ h => h) (Or.inl ⟨by rfl, ?_⟩) hS ?_
  rotate_left
  · intro W hSW
    go_simp
    try with_reducible rfl
  simp only [Act.put, sA, s0, sS]
  refine wpL_take (v := ?_) (oi := ⟨some 29, .binOp .leq 3 (.tmp 23) (.tmp 28) 3, 4, "ref.go:21", #[⟨18, .data⟩, ⟨23, .data⟩, ⟨16, .guard⟩], some (16, true)⟩) (by decide) rfl (by kernel_rfl) (by kernel_rfl) (by kernel_rfl) (by kernel_rfl) (fun _ _ _ h => h) (Or.inl ⟨by rfl, ?_⟩) hS ?_
  rotate_left
  · intro W hSW
    go_simp
    try with_reducible rfl
  simp only [Act.put, sA, s0, sS]
  refine wpL_take (v := ?_) (oi := ⟨some 30, .pick (.tmp 21) (.tmp 29) (.const (.bool false)), 4, "ref.go:21", #[⟨16, .data⟩, ⟨24, .data⟩], none⟩) (by decide) rfl (by kernel_rfl) (by kernel_rfl) (by kernel_rfl) (by kernel_rfl) (fun _ _ _ h => h) (Or.inl ⟨by rfl, ?_⟩) hS ?_
  rotate_left
  · intro W hSW
    go_simp
    try with_reducible rfl
  simp only [Act.put, sA, s0, sS]
  refine wpL_take (v := ?_) (oi := ⟨some 31, .move (.tmp 30), 4, "ref.go:21", #[⟨25, .data⟩, ⟨22, .chain⟩], none⟩) (by decide) rfl (by kernel_rfl) (by kernel_rfl) (by kernel_rfl) (by kernel_rfl) (fun _ _ _ h => h) (Or.inl ⟨by rfl, ?_⟩) hS ?_
  rotate_left
  · intro W hSW
    go_simp
    try with_reducible rfl
  simp only [Act.put, sA, s0, sS]
  refine wpL_take (v := ?_) (oi := ⟨some 32, .fieldAddr 30 (.tmp 3) 2, 0, "ref.go:21", #[⟨26, .guard⟩], some (26, true)⟩) (by decide) rfl (by kernel_rfl) (by kernel_rfl) (by kernel_rfl) (by kernel_rfl) (fun _ _ _ h => h) (Or.inl ⟨by rfl, ?_⟩) hS ?_
  rotate_left
  · intro W hSW
    go_simp
    try with_reducible rfl
  simp only [Act.put, sA, s0, sS]
  refine wpL_take (v := ?_) (oi := ⟨some 33, .load 3 (.tmp 32), 3, "ref.go:21", #[⟨27, .data⟩, ⟨26, .guard⟩], some (26, true)⟩) (by decide) rfl (by kernel_rfl) (by kernel_rfl) (by kernel_rfl) (by kernel_rfl) (fun _ _ _ h => h) (Or.inl ⟨by rfl, ?_⟩) hS ?_
  rotate_left
  · intro W hSW
    go_simp
    try with_reducible rfl
  simp only [Act.put, sA, s0, sS]
  refine wpL_take (v := ?_) (oi := ⟨some 34, .binOp .geq 3 (.tmp 33) (.const (.int .i64 0)) 3, 4, "ref.go:21", #[⟨28, .data⟩, ⟨26, .guard⟩], some (26, true)⟩) (by decide) rfl (by kernel_rfl) (by kernel_rfl) (by kernel_rfl) (by kernel_rfl) (fun _ _ _ h => h) (Or.inl ⟨by rfl, ?_⟩) hS ?_
  rotate_left
  · intro W hSW
    go_simp
    try with_reducible rfl
  simp only [Act.put, sA, s0, sS]
  refine wpL_take (v := ?_) (oi := ⟨some 35, .pick (.tmp 31) (.tmp 34) (.const (.bool false)), 4, "ref.go:21", #[⟨26, .data⟩, ⟨29, .data⟩], none⟩) (by decide) rfl (by kernel_rfl) (by kernel_rfl) (by kernel_rfl) (by kernel_rfl) (fun _ _ _ h => h) (Or.inl ⟨by rfl, ?_⟩) hS ?_
  rotate_left
  · intro W hSW
    go_simp
    try with_reducible rfl
  simp only [Act.put, sA, s0, sS]
  refine wpL_take (v := ?_) (oi := ⟨some 36, .move (.tmp 35), 4, "ref.go:21", #[⟨30, .data⟩, ⟨26, .chain⟩], none⟩) (by decide) rfl (by kernel_rfl) (by kernel_rfl) (by kernel_rfl) (by kernel_rfl) (fun _ _ _ h => h) (Or.inl ⟨by rfl, ?_⟩) hS ?_
  rotate_left
  · intro W hSW
    go_simp
    try with_reducible rfl
  simp only [Act.put, sA, s0, sS]
  refine wpL_take (v := ?_) (oi := ⟨some 37, .fieldAddr 30 (.tmp 3) 2, 0, "ref.go:21", #[⟨31, .guard⟩], some (31, true)⟩) (by decide) rfl (by kernel_rfl) (by kernel_rfl) (by kernel_rfl) (by kernel_rfl) (fun _ _ _ h => h) (Or.inl ⟨by rfl, ?_⟩) hS ?_
  rotate_left
  · intro W hSW
    go_simp
    try with_reducible rfl
  simp only [Act.put, sA, s0, sS]
  refine wpL_take (v := ?_) (oi := ⟨some 38, .load 3 (.tmp 37), 3, "ref.go:21", #[⟨32, .data⟩, ⟨31, .guard⟩], some (31, true)⟩) (by decide) rfl (by kernel_rfl) (by kernel_rfl) (by kernel_rfl) (by kernel_rfl) (fun _ _ _ h => h) (Or.inl ⟨by rfl, ?_⟩) hS ?_
  rotate_left
  · intro W hSW
    go_simp
    try with_reducible rfl
  simp only [Act.put, sA, s0, sS]
  refine wpL_take (v := ?_) (oi := ⟨some 39, .fieldAddr 25 (.tmp 2) 0, 0, "ref.go:21", #[⟨31, .guard⟩], some (31, true)⟩) (by decide) rfl (by kernel_rfl) (by kernel_rfl) (by kernel_rfl) (by kernel_rfl) (fun _ _ _ h => h) (Or.inl ⟨by rfl, ?_⟩) hS ?_
  rotate_left
  · intro W hSW
    go_simp
    try with_reducible rfl
  simp only [Act.put, sA, s0, sS]
  refine wpL_take (v := ?_) (oi := ⟨some 40, .load 22 (.tmp 39), 22, "ref.go:21", #[⟨34, .data⟩, ⟨31, .guard⟩], some (31, true)⟩) (by decide) rfl (by kernel_rfl) (by kernel_rfl) (by kernel_rfl) (by kernel_rfl) (fun _ _ _ h => h) (Or.inl ⟨by rfl, ?_⟩) hS ?_
  rotate_left
  · intro W hSW
    go_simp
    try with_reducible rfl
  simp only [Act.put, sA, s0, sS]
  refine wpL_take (v := ?_) (oi := ⟨some 41, .call ⟨.builtin .len, #[.tmp 40], #[22]⟩, 3, "ref.go:21", #[⟨35, .data⟩, ⟨31, .guard⟩], some (31, true)⟩) (by decide) rfl (by kernel_rfl) (by kernel_rfl) (by kernel_rfl) (by kernel_rfl) (fun _ _ _ h => h) (Or.inl ⟨by rfl, ?_⟩) hS ?_
  rotate_left
  · intro W hSW
    go_simp
    try with_reducible rfl
  simp only [Act.put, sA, s0, sS]
  refine wpL_take (v := ?_) (oi := ⟨some 42, .binOp .leq 3 (.tmp 38) (.tmp 41) 3, 4, "ref.go:21", #[⟨33, .data⟩, ⟨36, .data⟩, ⟨31, .guard⟩], some (31, true)⟩) (by decide) rfl (by kernel_rfl) (by kernel_rfl) (by kernel_rfl) (by kernel_rfl) (fun _ _ _ h => h) (Or.inl ⟨by rfl, ?_⟩) hS ?_
  rotate_left
  · intro W hSW
    go_simp
    try with_reducible rfl
  simp only [Act.put, sA, s0, sS]
  refine wpL_take (v := ?_) (oi := ⟨some 43, .pick (.tmp 36) (.tmp 42) (.const (.bool false)), 4, "ref.go:21", #[⟨31, .data⟩, ⟨37, .data⟩], none⟩) (by decide) rfl (by kernel_rfl) (by kernel_rfl) (by kernel_rfl) (by kernel_rfl) (fun _ _ _ h => h) (Or.inl ⟨by rfl, ?_⟩) hS ?_
  rotate_left
  · intro W hSW
    go_simp
    try with_reducible rfl
  simp only [Act.put, sA, s0, sS]
  refine wpL_take (v := ?_) (oi := ⟨some 4, .assign (.tmp 43), 4, "ref.go:21", #[⟨38, .data⟩, ⟨31, .chain⟩, ⟨0, .phase⟩, ⟨1, .phase⟩, ⟨2, .phase⟩, ⟨3, .phase⟩, ⟨4, .phase⟩, ⟨5, .phase⟩, ⟨6, .phase⟩, ⟨7, .phase⟩, ⟨8, .phase⟩, ⟨9, .phase⟩, ⟨10, .phase⟩, ⟨11, .phase⟩, ⟨12, .phase⟩, ⟨13, .phase⟩, ⟨14, .phase⟩, ⟨15, .phase⟩, ⟨16, .phase⟩, ⟨17, .phase⟩, ⟨18, .phase⟩, ⟨19, .phase⟩, ⟨20, .phase⟩, ⟨21, .phase⟩, ⟨22, .phase⟩, ⟨23, .phase⟩, ⟨24, .phase⟩, ⟨25, .phase⟩, ⟨26, .phase⟩, ⟨27, .phase⟩, ⟨28, .phase⟩, ⟨29, .phase⟩, ⟨30, .phase⟩, ⟨31, .phase⟩, ⟨32, .phase⟩, ⟨33, .phase⟩, ⟨34, .phase⟩, ⟨35, .phase⟩, ⟨36, .phase⟩, ⟨37, .phase⟩, ⟨38, .phase⟩], none⟩) (by decide) rfl (by kernel_rfl) (by kernel_rfl) (by kernel_rfl) (by kernel_rfl) (fun _ _ _ h => h) (Or.inl ⟨by rfl, ?_⟩) hS ?_
  rotate_left
  · intro W hSW
    go_simp
    try with_reducible rfl
  simp only [Act.put, sA, s0, sS]
  refine wpAnyL_done (by kernel_rfl) ?_ _
  have HBx : Hid (Below w.heap.size w w') := HBB.out _ hS.2.2.2.2.2.2
  clear hS hR' HBB
  go_wp2_with fail
  go_ret
  exact ⟨ret_bool HZ.out.symm, HBx.out⟩
end Go.Proofs.YtlaplmmicccbcaaGreatDoor
