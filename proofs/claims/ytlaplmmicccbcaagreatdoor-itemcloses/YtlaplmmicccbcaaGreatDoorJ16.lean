/- ItemTells: which items can be, what they begin with, and where they come to, is the document's. -/
import Derived.Test.YtlaplmmicccbcaaGreatDoorRows
import Derived.Test.YtlaplmmicccbcaaGreatDoorTie
import Derived.Test.YtlaplmmicccbcaaGreatDoorCards
import Derived.Test.YtlaplmmicccbcaaGreatDoorJ01
import Derived.Test.YtlaplmmicccbcaaGreatDoorJ02
import Derived.Test.YtlaplmmicccbcaaGreatDoorJ04
import Derived.Test.YtlaplmmicccbcaaGreatDoorJ05
import Derived.Test.YtlaplmmicccbcaaGreatDoorJ07
import Derived.Test.YtlaplmmicccbcaaGreatDoorJ10
import Derived.Test.YtlaplmmicccbcaaGreatDoorJ15
import Derived.ProofKit
import Derived.OpenShut
import Derived.SizedLaws
import Derived.Lib.SmallJoins
import Derived.Deep.Slices
import Derived.Deep.Strs
import Derived.LaidMore
import Derived.LaidHandle
import Derived.Stop.Joined
import Derived.Stop.LaidErr
import Derived.Lib.LaidTab
import Derived.SevenTiedAt
namespace Go.Proofs.YtlaplmmicccbcaaGreatDoor
open Go.RowKit

theorem same_clos {f : Fl} (hp : FitP f) {S : Ir → Prop} {L M : List Ir} {u v : Value} {W : World} (h1 : ClosI f S L) (h2 : ClosI f S M) (hu : SlL L u W) (hv : SlL M v W) : Calls Tryz.prog 14 #[u, v] W fun e w' => e = .returned (.bool true) ∧ ∃ m, w' = W.drewN m := by
  have e := closI_unique h1 h2
  subst e
  have hl := h1.len hp
  unfold maxI at hl
  have := rsame_any L L u v W hu hv (by omega) (by omega)
  simpa using this

set_option maxRecDepth 100000 in
set_option maxHeartbeats 4000000 in
theorem itemTells_any (f : Fl) (a : FlA) (l : List Ir) (v : Value) (s : Int) (w : World) (hf : FlAt f a w) (hl : SlL l v w) (hT : Tb w) :
    Calls Tryz.prog 3 #[a.val f, v, .int .i64 s] w fun e w' => e = .returned (.bool true) ∧ Below w.heap.size w w' := by
  have h1 := fun W (hb : Below w.heap.size w W) => few11_any f a W (hf.next hb)
  have h2 := fun (x : Ir) W (hb : Below w.heap.size w W) (hn : f.n ≤ 600) => next_item f a x W (hf.next hb) hn
  have h3 := fun (x : Ir) W (hb : Below w.heap.size w W) (hn : f.n ≤ 600) => rnext_item f a x W (hf.next hb) hn
  have h4 := fun (x : Ir) W (hb : Below w.heap.size w W) (hn : f.n ≤ 600) => fit_item f a x W (hf.next hb) hn
  have h5 := fun (x : Ir) W (hb : Below w.heap.size w W) (hn : f.n ≤ 600) => rfit_item f a x W (hf.next hb) hn
  have h6 := fun W (hb : Below w.heap.size w W) (ht : fitB f = true) (hll : l.length ≤ 50) => closureP_any f a l v W (hf.next hb) ht (hT.next hb) (hl.next hb) (by omega)
  have h7 := fun W (hb : Below w.heap.size w W) (ht : fitB f = true) (hll : l.length ≤ 50) => rclos_any f a l v W (hf.next hb) (fit_facts ht) (hl.next hb) (by omega)
  have h8 := fun W (hb : Below w.heap.size w W) (ht : fitB f = true) (hll : l.length ≤ 50) => gotoP_any f a l v s W (hf.next hb) ht (hT.next hb) (hl.next hb) (by omega)
  have h9 := fun W (hb : Below w.heap.size w W) (ht : fitB f = true) (hll : l.length ≤ 50) => rgoto_any f a l v s W (hf.next hb) (fit_facts ht) (hl.next hb) (by omega)
  have h10 := fun W (hb : Below w.heap.size w W) (ht : fitB f = true) => firstP_any f a W (hf.next hb) ht (hT.next hb)
  have h11 := fun W (hb : Below w.heap.size w W) (ht : fitB f = true) => rfirst11_any f a W (hf.next hb) (fit_facts ht)
  have HAW : Hid (∀ W, Below w.heap.size w W → Calls Tryz.prog 9 #[] W fun e w' => e = .returned (.bool true) ∧ Below W.heap.size W w') := fun W hb => awake11_any W (hT.next hb)
  obtain ⟨la, lc, rfl, hI, _, _⟩ := hl
  obtain ⟨ta, tc, na, nc, pa, pc⟩ := a
  have X0 := FBox.new f ⟨ta, tc, na, nc, pa, pc⟩ 25 w
  have B0 : Below w.heap.size w (w.alloc (fobj f ⟨ta, tc, na, nc, pa, pc⟩ 25)) := (Below.refl _ _).alloc (Nat.le_refl _) _
  unfold fobj at X0 B0
  unfold valR at h2 h3 h4 h5
  unfold FlA.val at h1 h2 h3 h4 h5 h6 h7 h8 h9 h10 h11 ⊢
  simp only at *
  have H1 : Hid (∀ W, Below w.heap.size w W → Calls Tryz.prog 8 #[.agg #[.slice ta f.terms.length tc, .slice na f.nons.length nc, .slice pa f.prods.length pc]] W fun e w' => Few1 f W e w') := h1
  have H2 : Hid (∀ (x : Ir) W, Below w.heap.size w W → f.n ≤ 600 → Calls Tryz.prog 10 #[.agg #[.slice ta f.terms.length tc, .slice na f.nons.length nc, .slice pa f.prods.length pc], .agg #[.int .i64 x.1, .int .i64 x.2.1, .int .i64 x.2.2]] W fun e w' => e = .returned (.tuple #[.int .i64 ((nextI f x).getD 0), .bool (nextI f x).isSome]) ∧ Below W.heap.size W w') := h2
  have H3 : Hid (∀ (x : Ir) W, Below w.heap.size w W → f.n ≤ 600 → Calls Tryz.prog 11 #[.agg #[.slice ta f.terms.length tc, .slice na f.nons.length nc, .slice pa f.prods.length pc], .agg #[.int .i64 x.1, .int .i64 x.2.1, .int .i64 x.2.2]] W fun e w' => e = .returned (.tuple #[.int .i64 ((nextI f x).getD 0), .bool (nextI f x).isSome]) ∧ Below W.heap.size W w') := h3
  have H4 : Hid (∀ (x : Ir) W, Below w.heap.size w W → f.n ≤ 600 → Calls Tryz.prog 12 #[.agg #[.slice ta f.terms.length tc, .slice na f.nons.length nc, .slice pa f.prods.length pc], .agg #[.int .i64 x.1, .int .i64 x.2.1, .int .i64 x.2.2]] W fun e w' => e = .returned (.bool (fitI f x)) ∧ Below W.heap.size W w') := h4
  have H5 : Hid (∀ (x : Ir) W, Below w.heap.size w W → f.n ≤ 600 → Calls Tryz.prog 13 #[.agg #[.slice ta f.terms.length tc, .slice na f.nons.length nc, .slice pa f.prods.length pc], .agg #[.int .i64 x.1, .int .i64 x.2.1, .int .i64 x.2.2]] W fun e w' => e = .returned (.bool (fitI f x)) ∧ Below W.heap.size W w') := h5
  have H6 : Hid (∀ W, Below w.heap.size w W → fitB f = true → l.length ≤ 50 → Calls Tryz.prog 15 #[.agg #[.slice ta f.terms.length tc, .slice na f.nons.length nc, .slice pa f.prods.length pc], .slice la l.length lc] W fun e w' => ∃ v' L', e = .returned v' ∧ ClosI f (fun x => x ∈ l) L' ∧ SlL L' v' w' ∧ Apart W.heap.size v' ∧ Below W.heap.size W w') := h6
  have H7 : Hid (∀ W, Below w.heap.size w W → fitB f = true → l.length ≤ 50 → Calls Tryz.prog 16 #[.agg #[.slice ta f.terms.length tc, .slice na f.nons.length nc, .slice pa f.prods.length pc], .slice la l.length lc] W fun e w' => ∃ v' L', e = .returned v' ∧ ClosI f (fun x => x ∈ l) L' ∧ SlL L' v' w' ∧ Apart W.heap.size v' ∧ Below W.heap.size W w') := h7
  have H8 : Hid (∀ W, Below w.heap.size w W → fitB f = true → l.length ≤ 50 → Calls Tryz.prog 17 #[.agg #[.slice ta f.terms.length tc, .slice na f.nons.length nc, .slice pa f.prods.length pc], .slice la l.length lc, .int .i64 s] W fun e w' => ∃ v' L', e = .returned v' ∧ ClosI f (fun x => x ∈ movedL f l s) L' ∧ SlL L' v' w' ∧ Apart W.heap.size v' ∧ Below W.heap.size W w') := h8
  have H9 : Hid (∀ W, Below w.heap.size w W → fitB f = true → l.length ≤ 50 → Calls Tryz.prog 18 #[.agg #[.slice ta f.terms.length tc, .slice na f.nons.length nc, .slice pa f.prods.length pc], .slice la l.length lc, .int .i64 s] W fun e w' => ∃ v' L', e = .returned v' ∧ ClosI f (fun x => x ∈ movedL f l s) L' ∧ SlL L' v' w' ∧ Apart W.heap.size v' ∧ Below W.heap.size W w') := h9
  have H10 : Hid (∀ W, Below w.heap.size w W → fitB f = true → Calls Tryz.prog 19 #[.agg #[.slice ta f.terms.length tc, .slice na f.nons.length nc, .slice pa f.prods.length pc]] W fun e w' => ∃ v' L', e = .returned v' ∧ ClosI f (fun x => x ∈ begL f) L' ∧ SlL L' v' w' ∧ Apart W.heap.size v' ∧ Below W.heap.size W w') := h10
  have H11 : Hid (∀ W, Below w.heap.size w W → fitB f = true → Calls Tryz.prog 20 #[.agg #[.slice ta f.terms.length tc, .slice na f.nons.length nc, .slice pa f.prods.length pc]] W fun e w' => ∃ v' L', e = .returned v' ∧ ClosI f (fun x => x ∈ begL f) L' ∧ SlL L' v' w' ∧ Apart W.heap.size v' ∧ Below W.heap.size W w') := h11
  clear h1 h2 h3 h4 h5 h6 h7 h8 h9 h10 h11 hf hT
  go_enter Tryz.func3, Tryz.ntmps3
  go_wp2_with fail
  obtain ⟨F, hF⟩ : ∃ F, w.heap.size = F := ⟨_, rfl⟩
  have HFF : Hid (w.heap.size = F) := hF
  rw [hF] at X0
  simp only [hF]
  clear hF
  have HI0 := hI.next B0
  generalize w.alloc (Obj.cells #[.slice ta f.terms.length tc, .slice na f.nons.length nc, .slice pa f.prods.length pc] 25) = w0 at *
  refine (H1.out _ B0).mono ?_
  rintro e w1 ⟨b, rfl, hfew, b1⟩
  have B1 := below_then B0 b1 B0.size
  have X1 := X0.next b1
  have HI : Hid (∀ W, Below w1.heap.size w1 W → IrsAt l la W) := fun W hb => (HI0.next b1).next hb
  have HB : Hid (∀ W, Below w1.heap.size w1 W → Below w.heap.size w W) := fun W hb => below_then B1 hb B1.size
  have HX : Hid (∀ W, Below w1.heap.size w1 W → (W.cell? ⟨F, 0, none⟩ = some (.slice ta f.terms.length tc) ∧ W.cell? ⟨F, 1, none⟩ = some (.slice na f.nons.length nc) ∧ W.cell? ⟨F, 2, none⟩ = some (.slice pa f.prods.length pc))) := fun W hb => (X1.next hb).2
  clear X0 B0 b1 H1 hI HI0 X1
  cases b with
  | false =>
    clear hfew
    go_wp2_with fail
    refine (HAW.out _ B1).mono ?_
    rintro e w2 ⟨rfl, b2⟩
    have B2 := below_then B1 b2 B1.size
    clear HAW b2
    go_wp2_with fail
    go_ret
    exact ⟨rfl, B2⟩
  | true =>
  have HFT : Hid (fitB f = true) := (hfew rfl).1
  have hn6 : f.n ≤ 600 := by have := (hfew rfl).2.1; omega
  clear hfew
  by_cases h50 : l.length ≤ 50
  case neg =>
    have hg : decide ((l.length : Int) > 50) = true := decide_eq_true (by omega)
    have hg2 : (l.length : Int) > 50 := by omega
    go_wp2_with fail
    refine (HAW.out _ B1).mono ?_
    rintro e w2 ⟨rfl, b2⟩
    have B2 := below_then B1 b2 B1.size
    clear HAW b2
    go_wp2_with fail
    go_ret
    exact ⟨rfl, B2⟩
  have hg : decide ((l.length : Int) > 50) = false := decide_eq_false (by omega)
  have hg2 : ¬ (l.length : Int) > 50 := by omega
  go_wp2_with fail
  go_loopw [24] (fun i wr => ∃ (j : Nat), i = .int .i64 j ∧ j ≤ l.length ∧ Below w1.heap.size w1 wr) (fun i _ => l.length - (intOf i).toNat)
  case atStart => exact ⟨0, rfl, Nat.zero_le _, Below.refl _ _⟩
  case round =>
  obtain ⟨j, rfl, hj, BR⟩ := hrel
  have hsz := BR.size
  by_cases hlt : j < l.length
  · obtain ⟨b, off, rfl, _, c0, c1, c2, hok⟩ := (HI.out _ BR).at (Below.refl _ _) hlt
    generalize l[j] = x at *
    obtain ⟨x0, x1, x2⟩ := x
    simp only at c0 c1 c2
    have Y0 := RBox.new (x0, x1, x2) 30 wr
    have B2 : Below w1.heap.size w1 (wr.alloc (Obj.cells #[.int .i64 x0, .int .i64 x1, .int .i64 x2] 30)) := BR.alloc hsz _
    obtain ⟨d0, d1, d2⟩ := HX.out _ B2
    obtain ⟨hXl, y0, y1, y2⟩ := Y0
    simp only at y0 y1 y2
    have N1 := H2.out (x0, x1, x2) _ (HB.out _ B2) hn6
    simp only at N1
    obtain ⟨X, hX⟩ : ∃ X, wr.heap.size = X := ⟨_, rfl⟩
    obtain ⟨nz, hnz⟩ : ∃ nz, (nextI f (x0, x1, x2)).getD 0 = nz := ⟨_, rfl⟩
    obtain ⟨nb, hnb⟩ : ∃ nb, (nextI f (x0, x1, x2)).isSome = nb := ⟨_, rfl⟩
    have HNZ : Hid ((nextI f (x0, x1, x2)).getD 0 = nz ∧ (nextI f (x0, x1, x2)).isSome = nb) := ⟨hnz, hnb⟩
    rw [hnz, hnb] at N1
    clear hnz hnb
    go_wp2_with fail
    clear c0 c1 c2
    rw [hX] at hXl y0 y1 y2
    clear hX
    generalize wr.alloc (Obj.cells #[.int .i64 x0, .int .i64 x1, .int .i64 x2] 30) = W1 at *
    refine N1.mono ?_
    rintro e W2 ⟨rfl, b2⟩
    have B3 := below_then B2 b2 B2.size
    obtain ⟨e0, e1, e2⟩ := HX.out _ B3
    have z0 := (b2.cell (p := ⟨X, 0, none⟩) hXl).trans y0
    have z1 := (b2.cell (p := ⟨X, 1, none⟩) hXl).trans y1
    have z2 := (b2.cell (p := ⟨X, 2, none⟩) hXl).trans y2
    have hXl2 : X < W2.heap.size := World.block_lt_of_cell? _ _ z0
    have N2 := H3.out (x0, x1, x2) _ (HB.out _ B3) hn6
    simp only at N2
    rw [HNZ.out.1, HNZ.out.2] at N2
    clear N1 d0 d1 d2 y0 y1 y2 b2 B2 hXl
    go_wp2_with fail
    refine N2.mono ?_
    rintro e W3 ⟨rfl, b3⟩
    have B4 := below_then B3 b3 B3.size
    have HSX : Hid (∀ W, Below W3.heap.size W3 W → (W.cell? ⟨F, 0, none⟩ = some (.slice ta f.terms.length tc) ∧ W.cell? ⟨F, 1, none⟩ = some (.slice na f.nons.length nc) ∧ W.cell? ⟨F, 2, none⟩ = some (.slice pa f.prods.length pc) ∧ W.cell? ⟨X, 0, none⟩ = some (.int .i64 x0) ∧ W.cell? ⟨X, 1, none⟩ = some (.int .i64 x1) ∧ W.cell? ⟨X, 2, none⟩ = some (.int .i64 x2))) := fun W hb => by
      obtain ⟨g0, g1, g2⟩ := HX.out _ (below_then B4 hb B4.size)
      have hb3 := below_then b3 hb b3.size
      exact ⟨g0, g1, g2, (hb3.cell (p := ⟨X, 0, none⟩) hXl2).trans z0, (hb3.cell (p := ⟨X, 1, none⟩) hXl2).trans z1, (hb3.cell (p := ⟨X, 2, none⟩) hXl2).trans z2⟩
    obtain ⟨fb, hfb⟩ : ∃ fb, fitI f (x0, x1, x2) = fb := ⟨_, rfl⟩
    have N4 := H4.out (x0, x1, x2) W3.drew (HB.out _ B4.drew) hn6
    have N5 : Hid (∀ W, Below W3.heap.size W3 W → Calls Tryz.prog 13 #[.agg #[.slice ta f.terms.length tc, .slice na f.nons.length nc, .slice pa f.prods.length pc], .agg #[.int .i64 x0, .int .i64 x1, .int .i64 x2]] W fun e w' => e = .returned (.bool fb) ∧ Below W.heap.size W w') := fun W hb => by
      have := H5.out (x0, x1, x2) W (HB.out _ (below_then B4 hb B4.size)) hn6
      rwa [hfb] at this
    simp only at N4
    rw [hfb] at N4
    clear N2 e0 e1 e2 z0 z1 z2 b3 B3 hfb hok
    have hS0 := HSX.out _ (Below.refl _ W3).drew
    cases fb with
    | true =>
      go_wp2_with fail
      refine wp_region_L (fun W => W.cell? ⟨F, 0, none⟩ = some (.slice ta f.terms.length tc) ∧ W.cell? ⟨F, 1, none⟩ = some (.slice na f.nons.length nc) ∧ W.cell? ⟨F, 2, none⟩ = some (.slice pa f.prods.length pc) ∧ W.cell? ⟨X, 0, none⟩ = some (.int .i64 x0) ∧ W.cell? ⟨X, 1, none⟩ = some (.int .i64 x1) ∧ W.cell? ⟨X, 2, none⟩ = some (.int .i64 x2)) 17 (by kernel_rfl) 17 rfl ?_
      refine tk (i := 0) (v := ?_) (oi := ⟨some 40, .load 25 (.tmp 3), 25, "law.go:33", #[], none⟩) hS0 ?_ ?_
      rotate_left
      · intro W hSW
        go_simp
        try with_reducible rfl
      simp only [Act.put, sA, s0, sS]
      refine tk (i := 1) (v := ?_) (oi := ⟨some 41, .load 30 (.tmp 8), 30, "law.go:33", #[], none⟩) hS0 ?_ ?_
      rotate_left
      · intro W hSW
        go_simp
        try with_reducible rfl
      simp only [Act.put, sA, s0, sS]
      refine tk (i := 3) (v := ?_) (oi := ⟨some 43, .load 25 (.tmp 3), 25, "law.go:33", #[], none⟩) hS0 ?_ ?_
      rotate_left
      · intro W hSW
        go_simp
        try with_reducible rfl
      simp only [Act.put, sA, s0, sS]
      refine tk (i := 4) (v := ?_) (oi := ⟨some 44, .load 30 (.tmp 8), 30, "law.go:33", #[], none⟩) hS0 ?_ ?_
      rotate_left
      · intro W hSW
        go_simp
        try with_reducible rfl
      simp only [Act.put, sA, s0, sS]
      refine wpAnyL_one' (i := 2) (o := ⟨some 42, .call ⟨.value (.func 12), #[.tmp 40, .tmp 41], #[25, 30]⟩, 4, "law.go:33", #[⟨0, .data⟩, ⟨1, .data⟩], none⟩) (by kernel_rfl) rfl rfl (fun K hK => ?_)
      go_simp
      refine N4.mono ?_
      rintro e W4 ⟨rfl, b4⟩
      have B5 : Below W3.heap.size W3 W4 := below_then (Below.refl _ _).drew b4 (Nat.le_refl _)
      have hS4 := HSX.out _ B5
      refine hK.out _ _ (fun _ => hS4) ?_
      clear hK N4
      refine wpAnyL_one' (i := 5) (o := ⟨some 45, .call ⟨.value (.func 13), #[.tmp 43, .tmp 44], #[25, 30]⟩, 4, "law.go:33", #[⟨3, .data⟩, ⟨4, .data⟩, ⟨2, .chain⟩], none⟩) (by kernel_rfl) rfl rfl (fun K hK => ?_)
      go_simp
      refine (N5.out _ B5).mono ?_
      rintro e W5 ⟨rfl, b5⟩
      have B6 : Below W3.heap.size W3 W5 := below_then B5 b5 B5.size
      have hS5 := HSX.out _ B6
      refine hK.out _ _ (fun _ => hS5) ?_
      clear hK N5
      refine tk (i := 6) (v := ?_) (oi := ⟨some 46, .binOp .neq 4 (.tmp 42) (.tmp 45) 4, 4, "law.go:33", #[⟨2, .data⟩, ⟨5, .data⟩], none⟩) hS5 ?_ ?_
      rotate_left
      · intro W hSW
        go_simp
        try with_reducible rfl
      simp only [Act.put, sA, s0, sS]
      refine tk (i := 7) (v := ?_) (oi := ⟨some 47, .move (.tmp 46), 4, "law.go:33", #[⟨6, .data⟩, ⟨5, .chain⟩], none⟩) hS5 ?_ ?_
      rotate_left
      · intro W hSW
        go_simp
        try with_reducible rfl
      simp only [Act.put, sA, s0, sS]
      refine tk (i := 8) (v := ?_) (oi := ⟨some 48, .move (.tmp 9), 3, "law.go:33", #[⟨7, .guard⟩], some (7, false)⟩) hS5 ?_ ?_
      rotate_left
      · intro W hSW
        go_simp
        try with_reducible rfl
      simp only [Act.put, sA, s0, sS]
      refine tk (i := 9) (v := ?_) (oi := ⟨some 49, .move (.tmp 11), 3, "law.go:33", #[⟨7, .guard⟩], some (7, false)⟩) hS5 ?_ ?_
      rotate_left
      · intro W hSW
        go_simp
        try with_reducible rfl
      simp only [Act.put, sA, s0, sS]
      refine tk (i := 10) (v := ?_) (oi := ⟨some 50, .binOp .neq 3 (.tmp 48) (.tmp 49) 3, 4, "law.go:33", #[⟨8, .data⟩, ⟨9, .data⟩, ⟨7, .guard⟩], some (7, false)⟩) hS5 ?_ ?_
      rotate_left
      · intro W hSW
        go_simp
        try with_reducible rfl
      simp only [Act.put, sA, s0, sS]
      refine tk (i := 11) (v := ?_) (oi := ⟨some 51, .pick (.tmp 47) (.const (.bool true)) (.tmp 50), 4, "law.go:33", #[⟨7, .data⟩, ⟨10, .data⟩], none⟩) hS5 ?_ ?_
      rotate_left
      · intro W hSW
        go_simp
        try with_reducible rfl
      simp only [Act.put, sA, s0, sS]
      refine tk (i := 12) (v := ?_) (oi := ⟨some 52, .move (.tmp 51), 4, "law.go:33", #[⟨11, .data⟩, ⟨7, .chain⟩], none⟩) hS5 ?_ ?_
      rotate_left
      · intro W hSW
        go_simp
        try with_reducible rfl
      simp only [Act.put, sA, s0, sS]
      refine tk (i := 13) (v := ?_) (oi := ⟨some 53, .move (.tmp 10), 4, "law.go:33", #[⟨12, .guard⟩], some (12, false)⟩) hS5 ?_ ?_
      rotate_left
      · intro W hSW
        go_simp
        try with_reducible rfl
      simp only [Act.put, sA, s0, sS]
      refine tk (i := 14) (v := ?_) (oi := ⟨some 54, .move (.tmp 12), 4, "law.go:33", #[⟨12, .guard⟩], some (12, false)⟩) hS5 ?_ ?_
      rotate_left
      · intro W hSW
        go_simp
        try with_reducible rfl
      simp only [Act.put, sA, s0, sS]
      refine tk (i := 15) (v := ?_) (oi := ⟨some 55, .binOp .neq 4 (.tmp 53) (.tmp 54) 4, 4, "law.go:33", #[⟨13, .data⟩, ⟨14, .data⟩, ⟨12, .guard⟩], some (12, false)⟩) hS5 ?_ ?_
      rotate_left
      · intro W hSW
        go_simp
        try with_reducible rfl
      simp only [Act.put, sA, s0, sS]
      refine tk (i := 16) (v := ?_) (oi := ⟨some 56, .pick (.tmp 52) (.const (.bool true)) (.tmp 55), 4, "law.go:33", #[⟨12, .data⟩, ⟨15, .data⟩], none⟩) hS5 ?_ ?_
      rotate_left
      · intro W hSW
        go_simp
        try with_reducible rfl
      simp only [Act.put, sA, s0, sS]
      refine wpAnyL_done (by kernel_rfl) ?_ _
      have BF : Below w1.heap.size w1 W5 := below_then B4 B6 B4.size
      clear hS0 hS4 hS5 HSX b4 b5
      go_wp2_with fail
      exact ⟨⟨j + 1, by go_num, by omega, BF⟩, by simp [intOf]; omega⟩
    | false =>
      go_wp2_with fail
      refine wp_region_L (fun W => W.cell? ⟨F, 0, none⟩ = some (.slice ta f.terms.length tc) ∧ W.cell? ⟨F, 1, none⟩ = some (.slice na f.nons.length nc) ∧ W.cell? ⟨F, 2, none⟩ = some (.slice pa f.prods.length pc) ∧ W.cell? ⟨X, 0, none⟩ = some (.int .i64 x0) ∧ W.cell? ⟨X, 1, none⟩ = some (.int .i64 x1) ∧ W.cell? ⟨X, 2, none⟩ = some (.int .i64 x2)) 17 (by kernel_rfl) 17 rfl ?_
      refine tk (i := 0) (v := ?_) (oi := ⟨some 40, .load 25 (.tmp 3), 25, "law.go:33", #[], none⟩) hS0 ?_ ?_
      rotate_left
      · intro W hSW
        go_simp
        try with_reducible rfl
      simp only [Act.put, sA, s0, sS]
      refine tk (i := 1) (v := ?_) (oi := ⟨some 41, .load 30 (.tmp 8), 30, "law.go:33", #[], none⟩) hS0 ?_ ?_
      rotate_left
      · intro W hSW
        go_simp
        try with_reducible rfl
      simp only [Act.put, sA, s0, sS]
      refine tk (i := 3) (v := ?_) (oi := ⟨some 43, .load 25 (.tmp 3), 25, "law.go:33", #[], none⟩) hS0 ?_ ?_
      rotate_left
      · intro W hSW
        go_simp
        try with_reducible rfl
      simp only [Act.put, sA, s0, sS]
      refine tk (i := 4) (v := ?_) (oi := ⟨some 44, .load 30 (.tmp 8), 30, "law.go:33", #[], none⟩) hS0 ?_ ?_
      rotate_left
      · intro W hSW
        go_simp
        try with_reducible rfl
      simp only [Act.put, sA, s0, sS]
      refine wpAnyL_one' (i := 2) (o := ⟨some 42, .call ⟨.value (.func 12), #[.tmp 40, .tmp 41], #[25, 30]⟩, 4, "law.go:33", #[⟨0, .data⟩, ⟨1, .data⟩], none⟩) (by kernel_rfl) rfl rfl (fun K hK => ?_)
      go_simp
      refine N4.mono ?_
      rintro e W4 ⟨rfl, b4⟩
      have B5 : Below W3.heap.size W3 W4 := below_then (Below.refl _ _).drew b4 (Nat.le_refl _)
      have hS4 := HSX.out _ B5
      refine hK.out _ _ (fun _ => hS4) ?_
      clear hK N4
      refine wpAnyL_one' (i := 5) (o := ⟨some 45, .call ⟨.value (.func 13), #[.tmp 43, .tmp 44], #[25, 30]⟩, 4, "law.go:33", #[⟨3, .data⟩, ⟨4, .data⟩, ⟨2, .chain⟩], none⟩) (by kernel_rfl) rfl rfl (fun K hK => ?_)
      go_simp
      refine (N5.out _ B5).mono ?_
      rintro e W5 ⟨rfl, b5⟩
      have B6 : Below W3.heap.size W3 W5 := below_then B5 b5 B5.size
      have hS5 := HSX.out _ B6
      refine hK.out _ _ (fun _ => hS5) ?_
      clear hK N5
      refine tk (i := 6) (v := ?_) (oi := ⟨some 46, .binOp .neq 4 (.tmp 42) (.tmp 45) 4, 4, "law.go:33", #[⟨2, .data⟩, ⟨5, .data⟩], none⟩) hS5 ?_ ?_
      rotate_left
      · intro W hSW
        go_simp
        try with_reducible rfl
      simp only [Act.put, sA, s0, sS]
      refine tk (i := 7) (v := ?_) (oi := ⟨some 47, .move (.tmp 46), 4, "law.go:33", #[⟨6, .data⟩, ⟨5, .chain⟩], none⟩) hS5 ?_ ?_
      rotate_left
      · intro W hSW
        go_simp
        try with_reducible rfl
      simp only [Act.put, sA, s0, sS]
      refine tk (i := 8) (v := ?_) (oi := ⟨some 48, .move (.tmp 9), 3, "law.go:33", #[⟨7, .guard⟩], some (7, false)⟩) hS5 ?_ ?_
      rotate_left
      · intro W hSW
        go_simp
        try with_reducible rfl
      simp only [Act.put, sA, s0, sS]
      refine tk (i := 9) (v := ?_) (oi := ⟨some 49, .move (.tmp 11), 3, "law.go:33", #[⟨7, .guard⟩], some (7, false)⟩) hS5 ?_ ?_
      rotate_left
      · intro W hSW
        go_simp
        try with_reducible rfl
      simp only [Act.put, sA, s0, sS]
      refine tk (i := 10) (v := ?_) (oi := ⟨some 50, .binOp .neq 3 (.tmp 48) (.tmp 49) 3, 4, "law.go:33", #[⟨8, .data⟩, ⟨9, .data⟩, ⟨7, .guard⟩], some (7, false)⟩) hS5 ?_ ?_
      rotate_left
      · intro W hSW
        go_simp
        try with_reducible rfl
      simp only [Act.put, sA, s0, sS]
      refine tk (i := 11) (v := ?_) (oi := ⟨some 51, .pick (.tmp 47) (.const (.bool true)) (.tmp 50), 4, "law.go:33", #[⟨7, .data⟩, ⟨10, .data⟩], none⟩) hS5 ?_ ?_
      rotate_left
      · intro W hSW
        go_simp
        try with_reducible rfl
      simp only [Act.put, sA, s0, sS]
      refine tk (i := 12) (v := ?_) (oi := ⟨some 52, .move (.tmp 51), 4, "law.go:33", #[⟨11, .data⟩, ⟨7, .chain⟩], none⟩) hS5 ?_ ?_
      rotate_left
      · intro W hSW
        go_simp
        try with_reducible rfl
      simp only [Act.put, sA, s0, sS]
      refine tk (i := 13) (v := ?_) (oi := ⟨some 53, .move (.tmp 10), 4, "law.go:33", #[⟨12, .guard⟩], some (12, false)⟩) hS5 ?_ ?_
      rotate_left
      · intro W hSW
        go_simp
        try with_reducible rfl
      simp only [Act.put, sA, s0, sS]
      refine tk (i := 14) (v := ?_) (oi := ⟨some 54, .move (.tmp 12), 4, "law.go:33", #[⟨12, .guard⟩], some (12, false)⟩) hS5 ?_ ?_
      rotate_left
      · intro W hSW
        go_simp
        try with_reducible rfl
      simp only [Act.put, sA, s0, sS]
      refine tk (i := 15) (v := ?_) (oi := ⟨some 55, .binOp .neq 4 (.tmp 53) (.tmp 54) 4, 4, "law.go:33", #[⟨13, .data⟩, ⟨14, .data⟩, ⟨12, .guard⟩], some (12, false)⟩) hS5 ?_ ?_
      rotate_left
      · intro W hSW
        go_simp
        try with_reducible rfl
      simp only [Act.put, sA, s0, sS]
      refine tk (i := 16) (v := ?_) (oi := ⟨some 56, .pick (.tmp 52) (.const (.bool true)) (.tmp 55), 4, "law.go:33", #[⟨12, .data⟩, ⟨15, .data⟩], none⟩) hS5 ?_ ?_
      rotate_left
      · intro W hSW
        go_simp
        try with_reducible rfl
      simp only [Act.put, sA, s0, sS]
      refine wpAnyL_done (by kernel_rfl) ?_ _
      have BF : Below w1.heap.size w1 W5 := below_then B4 B6 B4.size
      clear hS0 hS4 hS5 HSX b4 b5
      go_wp2_with fail
      exact ⟨⟨j + 1, by go_num, by omega, BF⟩, by simp [intOf]; omega⟩
  · have hS0 := HX.out _ BR.drew
    have HZ : Hid (∀ W, Below w1.heap.size w1 W → (W.cell? ⟨F, 0, none⟩ = some (.slice ta f.terms.length tc) ∧ W.cell? ⟨F, 1, none⟩ = some (.slice na f.nons.length nc) ∧ W.cell? ⟨F, 2, none⟩ = some (.slice pa f.prods.length pc))) := HX.out
    have HP : Hid (FitP f) := fit_facts HFT.out
    clear HI hj HX H2 H3 H4 H5
    go_wp2_with fail
    refine wp_region_L (fun W => W.cell? ⟨F, 0, none⟩ = some (.slice ta f.terms.length tc) ∧ W.cell? ⟨F, 1, none⟩ = some (.slice na f.nons.length nc) ∧ W.cell? ⟨F, 2, none⟩ = some (.slice pa f.prods.length pc)) 29 (by kernel_rfl) 29 rfl ?_
    refine tk (i := 0) (v := ?_) (oi := ⟨some 58, .load 25 (.tmp 3), 25, "law.go:37", #[], none⟩) hS0 ?_ ?_
    rotate_left
    · intro W hSW
      go_simp
      try with_reducible rfl
    simp only [Act.put, sA, s0, sS]
    refine tk (i := 1) (v := ?_) (oi := ⟨some 59, .move (.tmp 1), 26, "law.go:37", #[], none⟩) hS0 ?_ ?_
    rotate_left
    · intro W hSW
      go_simp
      try with_reducible rfl
    simp only [Act.put, sA, s0, sS]
    refine tk (i := 3) (v := ?_) (oi := ⟨some 61, .load 25 (.tmp 3), 25, "law.go:37", #[], none⟩) hS0 ?_ ?_
    rotate_left
    · intro W hSW
      go_simp
      try with_reducible rfl
    simp only [Act.put, sA, s0, sS]
    refine tk (i := 4) (v := ?_) (oi := ⟨some 62, .move (.tmp 1), 26, "law.go:37", #[], none⟩) hS0 ?_ ?_
    rotate_left
    · intro W hSW
      go_simp
      try with_reducible rfl
    simp only [Act.put, sA, s0, sS]
    have BW0 : Below w1.heap.size w1 wr.drew := BR.drew
    refine wpAnyL_one' (i := 2) (o := ⟨some 60, .call ⟨.value (.func 15), #[.tmp 58, .tmp 59], #[25, 26]⟩, 26, "law.go:37", #[⟨0, .data⟩, ⟨1, .data⟩], none⟩) (by kernel_rfl) rfl rfl (fun KQ hK => ?_)
    go_simp
    refine (H6.out _ (HB.out _ BW0) HFT.out h50).mono ?_
    rintro e W1 ⟨v1, L1, rfl, q1, r1, _, b1⟩
    have BW1 : Below w1.heap.size w1 W1 := below_then BW0 b1 BW0.size
    have hSW1 := HZ.out _ BW1
    refine hK.out _ _ (fun _ => hSW1) ?_
    clear hK
    refine wpAnyL_one' (i := 5) (o := ⟨some 63, .call ⟨.value (.func 16), #[.tmp 61, .tmp 62], #[25, 26]⟩, 26, "law.go:37", #[⟨3, .data⟩, ⟨4, .data⟩, ⟨2, .chain⟩], none⟩) (by kernel_rfl) rfl rfl (fun KQ hK => ?_)
    go_simp
    refine (H7.out _ (HB.out _ BW1) HFT.out h50).mono ?_
    rintro e W2 ⟨v2, L2, rfl, q2, r2, _, b2⟩
    have BW2 : Below w1.heap.size w1 W2 := below_then BW1 b2 BW1.size
    have hSW2 := HZ.out _ BW2
    refine hK.out _ _ (fun _ => hSW2) ?_
    clear hK
    refine wpAnyL_one' (i := 6) (o := ⟨some 64, .call ⟨.value (.func 14), #[.tmp 60, .tmp 63], #[26, 26]⟩, 4, "law.go:37", #[⟨2, .data⟩, ⟨5, .data⟩, ⟨5, .chain⟩], none⟩) (by kernel_rfl) rfl rfl (fun KQ hK => ?_)
    go_simp
    refine (same_clos HP.out q1 q2 (r1.next b2) r2).mono ?_
    rintro e W3 ⟨rfl, mW3, rfl⟩
    have BW3 : Below w1.heap.size w1 (W2.drewN mW3) := below_drewN BW2 mW3
    have hSW3 := HZ.out _ BW3
    refine hK.out _ _ (fun _ => hSW3) ?_
    clear hK
    refine tk (i := 7) (v := ?_) (oi := ⟨some 65, .move (.tmp 64), 4, "law.go:37", #[⟨6, .data⟩, ⟨6, .chain⟩], none⟩) hSW3 ?_ ?_
    rotate_left
    · intro W hSW
      go_simp
      try with_reducible rfl
    simp only [Act.put, sA, s0, sS]
    refine tk (i := 8) (v := ?_) (oi := ⟨some 66, .load 25 (.tmp 3), 25, "law.go:37", #[⟨7, .guard⟩], some (7, true)⟩) hSW3 ?_ ?_
    rotate_left
    · intro W hSW
      go_simp
      try with_reducible rfl
    simp only [Act.put, sA, s0, sS]
    refine tk (i := 9) (v := ?_) (oi := ⟨some 67, .move (.tmp 1), 26, "law.go:37", #[⟨7, .guard⟩], some (7, true)⟩) hSW3 ?_ ?_
    rotate_left
    · intro W hSW
      go_simp
      try with_reducible rfl
    simp only [Act.put, sA, s0, sS]
    refine tk (i := 10) (v := ?_) (oi := ⟨some 68, .move (.tmp 2), 3, "law.go:37", #[⟨7, .guard⟩], some (7, true)⟩) hSW3 ?_ ?_
    rotate_left
    · intro W hSW
      go_simp
      try with_reducible rfl
    simp only [Act.put, sA, s0, sS]
    refine tk (i := 12) (v := ?_) (oi := ⟨some 70, .load 25 (.tmp 3), 25, "law.go:37", #[⟨7, .guard⟩], some (7, true)⟩) hSW3 ?_ ?_
    rotate_left
    · intro W hSW
      go_simp
      try with_reducible rfl
    simp only [Act.put, sA, s0, sS]
    refine tk (i := 13) (v := ?_) (oi := ⟨some 71, .move (.tmp 1), 26, "law.go:37", #[⟨7, .guard⟩], some (7, true)⟩) hSW3 ?_ ?_
    rotate_left
    · intro W hSW
      go_simp
      try with_reducible rfl
    simp only [Act.put, sA, s0, sS]
    refine tk (i := 14) (v := ?_) (oi := ⟨some 72, .move (.tmp 2), 3, "law.go:37", #[⟨7, .guard⟩], some (7, true)⟩) hSW3 ?_ ?_
    rotate_left
    · intro W hSW
      go_simp
      try with_reducible rfl
    simp only [Act.put, sA, s0, sS]
    refine wpAnyL_one' (i := 11) (o := ⟨some 69, .call ⟨.value (.func 17), #[.tmp 66, .tmp 67, .tmp 68], #[25, 26, 3]⟩, 26, "law.go:37", #[⟨8, .data⟩, ⟨9, .data⟩, ⟨10, .data⟩, ⟨7, .chain⟩, ⟨7, .guard⟩], some (7, true)⟩) (by kernel_rfl) rfl rfl (fun KQ hK => ?_)
    rw [if_pos (by rfl)]
    go_simp
    refine (H8.out _ (HB.out _ BW3) HFT.out h50).mono ?_
    rintro e W4 ⟨v3, L3, rfl, q3, r3, _, b3⟩
    have BW4 : Below w1.heap.size w1 W4 := below_then BW3 b3 BW3.size
    have hSW4 := HZ.out _ BW4
    refine hK.out _ _ (fun _ => hSW4) ?_
    clear hK
    refine wpAnyL_one' (i := 15) (o := ⟨some 73, .call ⟨.value (.func 18), #[.tmp 70, .tmp 71, .tmp 72], #[25, 26, 3]⟩, 26, "law.go:37", #[⟨12, .data⟩, ⟨13, .data⟩, ⟨14, .data⟩, ⟨11, .chain⟩, ⟨7, .guard⟩], some (7, true)⟩) (by kernel_rfl) rfl rfl (fun KQ hK => ?_)
    rw [if_pos (by rfl)]
    go_simp
    refine (H9.out _ (HB.out _ BW4) HFT.out h50).mono ?_
    rintro e W5 ⟨v4, L4, rfl, q4, r4, _, b4⟩
    have BW5 : Below w1.heap.size w1 W5 := below_then BW4 b4 BW4.size
    have hSW5 := HZ.out _ BW5
    refine hK.out _ _ (fun _ => hSW5) ?_
    clear hK
    refine wpAnyL_one' (i := 16) (o := ⟨some 74, .call ⟨.value (.func 14), #[.tmp 69, .tmp 73], #[26, 26]⟩, 4, "law.go:37", #[⟨11, .data⟩, ⟨15, .data⟩, ⟨15, .chain⟩, ⟨7, .guard⟩], some (7, true)⟩) (by kernel_rfl) rfl rfl (fun KQ hK => ?_)
    rw [if_pos (by rfl)]
    go_simp
    refine (same_clos HP.out q3 q4 (r3.next b4) r4).mono ?_
    rintro e W6 ⟨rfl, mW6, rfl⟩
    have BW6 : Below w1.heap.size w1 (W5.drewN mW6) := below_drewN BW5 mW6
    have hSW6 := HZ.out _ BW6
    refine hK.out _ _ (fun _ => hSW6) ?_
    clear hK
    refine tk (i := 17) (v := ?_) (oi := ⟨some 75, .pick (.tmp 65) (.tmp 74) (.const (.bool false)), 4, "law.go:37", #[⟨7, .data⟩, ⟨16, .data⟩], none⟩) hSW6 ?_ ?_
    rotate_left
    · intro W hSW
      go_simp
      try with_reducible rfl
    simp only [Act.put, sA, s0, sS]
    refine tk (i := 18) (v := ?_) (oi := ⟨some 76, .move (.tmp 75), 4, "law.go:37", #[⟨17, .data⟩, ⟨16, .chain⟩], none⟩) hSW6 ?_ ?_
    rotate_left
    · intro W hSW
      go_simp
      try with_reducible rfl
    simp only [Act.put, sA, s0, sS]
    refine tk (i := 19) (v := ?_) (oi := ⟨some 77, .load 25 (.tmp 3), 25, "law.go:37", #[⟨18, .guard⟩], some (18, true)⟩) hSW6 ?_ ?_
    rotate_left
    · intro W hSW
      go_simp
      try with_reducible rfl
    simp only [Act.put, sA, s0, sS]
    refine tk (i := 21) (v := ?_) (oi := ⟨some 79, .load 25 (.tmp 3), 25, "law.go:37", #[⟨18, .guard⟩], some (18, true)⟩) hSW6 ?_ ?_
    rotate_left
    · intro W hSW
      go_simp
      try with_reducible rfl
    simp only [Act.put, sA, s0, sS]
    refine wpAnyL_one' (i := 20) (o := ⟨some 78, .call ⟨.value (.func 19), #[.tmp 77], #[25]⟩, 26, "law.go:37", #[⟨19, .data⟩, ⟨18, .chain⟩, ⟨18, .guard⟩], some (18, true)⟩) (by kernel_rfl) rfl rfl (fun KQ hK => ?_)
    rw [if_pos (by rfl)]
    go_simp
    refine (H10.out _ (HB.out _ BW6) HFT.out).mono ?_
    rintro e W7 ⟨v5, L5, rfl, q5, r5, _, b5⟩
    have BW7 : Below w1.heap.size w1 W7 := below_then BW6 b5 BW6.size
    have hSW7 := HZ.out _ BW7
    refine hK.out _ _ (fun _ => hSW7) ?_
    clear hK
    refine wpAnyL_one' (i := 22) (o := ⟨some 80, .call ⟨.value (.func 20), #[.tmp 79], #[25]⟩, 26, "law.go:37", #[⟨21, .data⟩, ⟨20, .chain⟩, ⟨18, .guard⟩], some (18, true)⟩) (by kernel_rfl) rfl rfl (fun KQ hK => ?_)
    rw [if_pos (by rfl)]
    go_simp
    refine (H11.out _ (HB.out _ BW7) HFT.out).mono ?_
    rintro e W8 ⟨v6, L6, rfl, q6, r6, _, b6⟩
    have BW8 : Below w1.heap.size w1 W8 := below_then BW7 b6 BW7.size
    have hSW8 := HZ.out _ BW8
    refine hK.out _ _ (fun _ => hSW8) ?_
    clear hK
    refine wpAnyL_one' (i := 23) (o := ⟨some 81, .call ⟨.value (.func 14), #[.tmp 78, .tmp 80], #[26, 26]⟩, 4, "law.go:37", #[⟨20, .data⟩, ⟨22, .data⟩, ⟨22, .chain⟩, ⟨18, .guard⟩], some (18, true)⟩) (by kernel_rfl) rfl rfl (fun KQ hK => ?_)
    rw [if_pos (by rfl)]
    go_simp
    refine (same_clos HP.out q5 q6 (r5.next b6) r6).mono ?_
    rintro e W9 ⟨rfl, mW9, rfl⟩
    have BW9 : Below w1.heap.size w1 (W8.drewN mW9) := below_drewN BW8 mW9
    have hSW9 := HZ.out _ BW9
    refine hK.out _ _ (fun _ => hSW9) ?_
    clear hK
    refine tk (i := 24) (v := ?_) (oi := ⟨some 82, .pick (.tmp 76) (.tmp 81) (.const (.bool false)), 4, "law.go:37", #[⟨18, .data⟩, ⟨23, .data⟩], none⟩) hSW9 ?_ ?_
    rotate_left
    · intro W hSW
      go_simp
      try with_reducible rfl
    simp only [Act.put, sA, s0, sS]
    refine tk (i := 25) (v := ?_) (oi := ⟨some 83, .move (.tmp 82), 4, "law.go:37", #[⟨24, .data⟩, ⟨23, .chain⟩], none⟩) hSW9 ?_ ?_
    rotate_left
    · intro W hSW
      go_simp
      try with_reducible rfl
    simp only [Act.put, sA, s0, sS]
    refine wpAnyL_one' (i := 26) (o := ⟨some 84, .call ⟨.value (.func 9), #[], #[]⟩, 4, "law.go:37", #[⟨25, .chain⟩, ⟨25, .guard⟩], some (25, true)⟩) (by kernel_rfl) rfl rfl (fun KQ hK => ?_)
    rw [if_pos (by rfl)]
    go_simp
    refine (HAW.out _ (HB.out _ BW9)).mono ?_
    rintro e WA ⟨rfl, bA⟩
    have BWA : Below w1.heap.size w1 WA := below_then BW9 bA BW9.size
    have hSWA := HZ.out _ BWA
    refine hK.out _ _ (fun _ => hSWA) ?_
    clear hK
    refine tk (i := 27) (v := ?_) (oi := ⟨some 85, .pick (.tmp 83) (.tmp 84) (.const (.bool false)), 4, "law.go:37", #[⟨25, .data⟩, ⟨26, .data⟩], none⟩) hSWA ?_ ?_
    rotate_left
    · intro W hSW
      go_simp
      try with_reducible rfl
    simp only [Act.put, sA, s0, sS]
    refine tk (i := 28) (v := ?_) (oi := ⟨some 6, .assign (.tmp 85), 4, "law.go:37", #[⟨27, .data⟩, ⟨26, .chain⟩, ⟨0, .phase⟩, ⟨1, .phase⟩, ⟨2, .phase⟩, ⟨3, .phase⟩, ⟨4, .phase⟩, ⟨5, .phase⟩, ⟨6, .phase⟩, ⟨7, .phase⟩, ⟨8, .phase⟩, ⟨9, .phase⟩, ⟨10, .phase⟩, ⟨11, .phase⟩, ⟨12, .phase⟩, ⟨13, .phase⟩, ⟨14, .phase⟩, ⟨15, .phase⟩, ⟨16, .phase⟩, ⟨17, .phase⟩, ⟨18, .phase⟩, ⟨19, .phase⟩, ⟨20, .phase⟩, ⟨21, .phase⟩, ⟨22, .phase⟩, ⟨23, .phase⟩, ⟨24, .phase⟩, ⟨25, .phase⟩, ⟨26, .phase⟩, ⟨27, .phase⟩], none⟩) hSWA ?_ ?_
    rotate_left
    · intro W hSW
      go_simp
      try with_reducible rfl
    simp only [Act.put, sA, s0, sS]
    refine wpAnyL_done (by kernel_rfl) ?_ _
    have BF := HB.out _ BWA
    go_wp2_with fail
    go_ret
    exact ⟨rfl, BF⟩
end Go.Proofs.YtlaplmmicccbcaaGreatDoor
/- ItemCloses: what items begin with is closed, and grows with the items. -/
namespace Go.Proofs.YtlaplmmicccbcaaGreatDoor
open Go.RowKit

/-- How many of a were met among the first j of b. -/
structure Sub (a b : List Ir) (j k : Nat) : Prop where
  le : k ≤ a.length
  got : ∀ i, (h : i < a.length) → i < k → a[i] ∈ b.take j
  not : ∀ i, (h : i < a.length) → k ≤ i → a[i] ∉ b.take j
theorem risingI_get {l : List Ir} (h : RisingI l) {i j : Nat} (hi : i < j) (hj : j < l.length) : ltI l[i] l[j] := (List.pairwise_iff_getElem.1 h) i j (by omega) hj hi
theorem Sub.start (a b : List Ir) : Sub a b 0 0 := ⟨Nat.zero_le _, fun i _ h => by omega, fun i _ _ => by simp⟩
theorem Sub.hit {a b : List Ir} {j k : Nat} (h : Sub a b j k) (ha : RisingI a) (hj : j < b.length) (hk : k < a.length) (e : a[k] = b[j]) : Sub a b (j + 1) (k + 1) := by
  refine ⟨hk, fun i hi hik => ?_, fun i hi hki hm => ?_⟩
  · rw [List.take_succ_eq_append_getElem hj]
    rcases Nat.lt_or_ge i k with h' | h'
    · exact List.mem_append_left _ (h.got i hi h')
    · obtain rfl : i = k := by omega
      exact List.mem_append_right _ (by rw [e]; exact List.mem_singleton.2 rfl)
  · rw [List.take_succ_eq_append_getElem hj] at hm
    rcases List.mem_append.1 hm with hm | hm
    · exact h.not i hi (by omega) hm
    · simp at hm
      have := risingI_get ha (show k < i by omega) hi
      rw [hm, e] at this
      exact ltI_irrefl _ this
theorem Sub.miss {a b : List Ir} {j k : Nat} (h : Sub a b j k) (ha : RisingI a) (hb : RisingI b) (hab : ∀ x ∈ a, x ∈ b) (hj : j < b.length) (hne : ∀ (hk : k < a.length), a[k] ≠ b[j]) : Sub a b (j + 1) k := by
  refine ⟨h.le, fun i hi hik => ?_, fun i hi hki hm => ?_⟩
  · rw [List.take_succ_eq_append_getElem hj]
    exact List.mem_append_left _ (h.got i hi hik)
  · rw [List.take_succ_eq_append_getElem hj] at hm
    rcases List.mem_append.1 hm with hm | hm
    · exact h.not i hi hki hm
    · simp at hm
      have hk : k < a.length := by omega
      have hki' : k < i := by
        rcases Nat.eq_or_lt_of_le hki with e | e
        · subst e; exact absurd hm (hne hk)
        · exact e
      have h1 := risingI_get ha hki' hi
      obtain ⟨q, hq, hqe⟩ := List.getElem_of_mem (hab a[k] (by simp))
      rcases Nat.lt_trichotomy q j with h2 | h2 | h2
      · refine h.not k hk (Nat.le_refl _) ?_
        rw [← hqe]
        exact List.mem_take_iff_getElem.2 ⟨q, by omega, rfl⟩
      · subst h2; exact hne hk hqe.symm
      · have h3 := risingI_get hb h2 hq
        rw [hqe, ← hm] at h3
        exact ltI_irrefl _ (ltI_trans h1 h3)
theorem Sub.all {a b : List Ir} {k : Nat} (h : Sub a b b.length k) (hab : ∀ x ∈ a, x ∈ b) : k = a.length := by
  rcases Nat.eq_or_lt_of_le h.le with e | e
  · exact e
  · have := h.not k e (Nat.le_refl _)
    rw [List.take_of_length_le (Nat.le_refl _)] at this
    exact absurd (hab _ (by simp)) this
theorem clos_self {f : Fl} {S : Ir → Prop} {L M : List Ir} (h : ClosI f S L) (k : ClosI f (fun x => x ∈ L) M) : M = L :=
  risingI_ext k.1 h.1 (fun x => by
    rw [k.2]
    constructor
    · intro hx
      exact (h.2 x).2 (cl_idem.1 (cl_mono (fun y hy => (h.2 y).1 hy) hx))
    · intro hx
      exact .base hx (cl_fit ((h.2 x).1 hx)))
theorem newsAll {l : List Ir} {ao : Option Addr} {W : World} (h : IrsAt l ao W) : ∀ ad, ao = some ad → ∀ (j : Nat) (u : Value), (l.flatMap encR)[j]? = some u → W.cell? (ad.add j) = some u := by
  rintro ad rfl j u hj
  have hl : l ≠ [] := by rintro rfl; simp at hj
  obtain ⟨x, l', rfl⟩ := List.exists_cons_of_ne_nil hl
  obtain ⟨b, off, e, _⟩ := h 0 x rfl
  cases e
  have := newsR h 0 (x :: l').length j u (by simpa using hj)
  simpa using this

set_option maxRecDepth 100000 in
set_option maxHeartbeats 4000000 in
theorem itemCloses_any (f : Fl) (a : FlA) (l m : List Ir) (v u : Value) (w : World) (hf : FlAt f a w) (hl : SlL l v w) (hm : SlL m u w) (hT : Tb w) :
    Calls Tryz.prog 5 #[a.val f, v, u] w fun e w' => e = .returned (.bool true) ∧ Below w.heap.size w w' := by
  have h1 := fun W (hb : Below w.heap.size w W) => few11_any f a W (hf.next hb)
  have h6 := fun (l : List Ir) (v : Value) W (hb : Below w.heap.size w W) (ht : fitB f = true) (hl : SlL l v W) (hll : l.length ≤ maxI) => closureP_any f a l v W (hf.next hb) ht (hT.next hb) hl (by unfold maxI at hll; omega)
  have HAW : Hid (∀ W, Below w.heap.size w W → Calls Tryz.prog 9 #[] W fun e w' => e = .returned (.bool true) ∧ Below W.heap.size W w') := fun W hb => awake11_any W (hT.next hb)
  have HL : Hid (∀ W, Below w.heap.size w W → SlL l v W ∧ SlL m u W) := fun W hb => ⟨hl.next hb, hm.next hb⟩
  obtain ⟨la, lc, rfl, _, hln, _⟩ := hl
  obtain ⟨ma, mc, rfl, _, hmn, _⟩ := hm
  obtain ⟨i0, hi0, hz0, hz1, hz2⟩ := info_parts infoLr
  obtain ⟨ta, tc, na, nc, pa, pc⟩ := a
  have X0 := FBox.new f ⟨ta, tc, na, nc, pa, pc⟩ 25 w
  have B0 : Below w.heap.size w (w.alloc (fobj f ⟨ta, tc, na, nc, pa, pc⟩ 25)) := (Below.refl _ _).alloc (Nat.le_refl _) _
  unfold fobj at X0 B0
  unfold FlA.val at h1 h6 ⊢
  simp only at *
  have H1 : Hid (∀ W, Below w.heap.size w W → Calls Tryz.prog 8 #[.agg #[.slice ta f.terms.length tc, .slice na f.nons.length nc, .slice pa f.prods.length pc]] W fun e w' => Few1 f W e w') := h1
  have H6 : Hid (∀ (l : List Ir) (v : Value) W, Below w.heap.size w W → fitB f = true → SlL l v W → l.length ≤ maxI → Calls Tryz.prog 15 #[.agg #[.slice ta f.terms.length tc, .slice na f.nons.length nc, .slice pa f.prods.length pc], v] W fun e w' => ∃ v' L', e = .returned v' ∧ ClosI f (fun x => x ∈ l) L' ∧ SlL L' v' w' ∧ Apart W.heap.size v' ∧ Below W.heap.size W w') := h6
  have HNN : Hid ((la = none → lc = 0) ∧ (ma = none → mc = 0)) := ⟨hln, hmn⟩
  clear h1 h6 hf hT hln hmn
  go_enter Tryz.func5, Tryz.ntmps5
  go_wp2_with fail
  obtain ⟨F, hF⟩ : ∃ F, w.heap.size = F := ⟨_, rfl⟩
  have HFF : Hid (w.heap.size = F) := hF
  rw [hF] at X0
  simp only [hF]
  clear hF
  generalize w.alloc (Obj.cells #[.slice ta f.terms.length tc, .slice na f.nons.length nc, .slice pa f.prods.length pc] 25) = w0 at *
  refine (H1.out _ B0).mono ?_
  rintro e w1 ⟨b, rfl, hfew, b1⟩
  have B1 := below_then B0 b1 B0.size
  have X1 := X0.next b1
  have HB : Hid (∀ W, Below w1.heap.size w1 W → Below w.heap.size w W) := fun W hb => below_then B1 hb B1.size
  have HX : Hid (∀ W, Below w1.heap.size w1 W → (W.cell? ⟨F, 0, none⟩ = some (.slice ta f.terms.length tc) ∧ W.cell? ⟨F, 1, none⟩ = some (.slice na f.nons.length nc) ∧ W.cell? ⟨F, 2, none⟩ = some (.slice pa f.prods.length pc))) := fun W hb => (X1.next hb).2
  clear X0 B0 b1 H1 X1
  cases b with
  | false =>
    clear hfew
    go_wp2_with fail
    refine (HAW.out _ B1).mono ?_
    rintro e w2 ⟨rfl, b2⟩
    have B2 := below_then B1 b2 B1.size
    clear HAW b2
    go_wp2_with fail
    go_ret
    exact ⟨rfl, B2⟩
  | true =>
  have HFT : Hid (fitB f = true) := (hfew rfl).1
  have HP : Hid (FitP f) := fit_facts (hfew rfl).1
  clear hfew
  by_cases h50 : l.length ≤ 50
  case neg =>
    have hg : decide ((l.length : Int) > 50) = true := decide_eq_true (by omega)
    have hg2 : (l.length : Int) > 50 := by omega
    go_wp2_with fail
    refine (HAW.out _ B1).mono ?_
    rintro e w2 ⟨rfl, b2⟩
    have B2 := below_then B1 b2 B1.size
    clear HAW b2
    go_wp2_with fail
    go_ret
    exact ⟨rfl, B2⟩
  have hg : decide ((l.length : Int) > 50) = false := decide_eq_false (by omega)
  have hg2 : ¬ (l.length : Int) > 50 := by omega
  by_cases m50 : m.length ≤ 50
  case neg =>
    have hg3 : decide ((m.length : Int) > 50) = true := decide_eq_true (by omega)
    have hg4 : (m.length : Int) > 50 := by omega
    go_wp2_with fail
    refine (HAW.out _ B1).mono ?_
    rintro e w2 ⟨rfl, b2⟩
    have B2 := below_then B1 b2 B1.size
    clear HAW b2
    go_wp2_with fail
    go_ret
    exact ⟨rfl, B2⟩
  have hg3 : decide ((m.length : Int) > 50) = false := decide_eq_false (by omega)
  have hg4 : ¬ (m.length : Int) > 50 := by omega
  obtain ⟨d0, d1, d2⟩ := HX.out _ (Below.refl _ _)
  go_wp2_with fail
  refine (H6.out l _ _ B1 HFT.out (HL.out _ B1).1 (by unfold maxI; omega)).mono ?_
  rintro e w2 ⟨va, La, rfl, qa, ra, _, b2⟩
  obtain ⟨aa, ac, rfl, _⟩ := id ra
  have HQA : Hid (ClosI f (fun x => x ∈ l) La) := qa
  have HRA : Hid (∀ W, Below w2.heap.size w2 W → SlL La (.slice aa La.length ac) W) := fun W hb => ra.next hb
  have hLa : La.length ≤ 16000000 := by have := qa.len HP.out; unfold maxI at this; exact this
  have HX2 : Hid (∀ W, Below w2.heap.size w2 W → (W.cell? ⟨F, 0, none⟩ = some (.slice ta f.terms.length tc) ∧ W.cell? ⟨F, 1, none⟩ = some (.slice na f.nons.length nc) ∧ W.cell? ⟨F, 2, none⟩ = some (.slice pa f.prods.length pc))) := fun W hb => HX.out W (below_then b2 hb b2.size)
  have HB2 : Hid (∀ W, Below w2.heap.size w2 W → Below w.heap.size w W) := fun W hb => HB.out W (below_then b2 hb b2.size)
  clear qa ra b2 d0 d1 d2 HX
  have hS0 := HX2.out _ (Below.refl _ w2).drew
  have Bn : Below w2.heap.size w2 (w2.drew.alloc (Obj.cells #[] 30)) := (Below.refl _ _).drew.alloc (Nat.le_refl _) _
  have hSn := HX2.out _ Bn
  have HO0 : Hid ((w2.drew.alloc (Obj.cells #[] 30)).ownsRow w2.heap.size 30 3 (.slice (some ⟨w2.heap.size, 0, none⟩) 0 0) 0 []) := World.ownsRow_lit w2.drew #[] 0 (Nat.le_refl _) (by unfold maxLen; omega) rfl
  go_wp2_with fail
  refine wp_region_L (fun W => W.cell? ⟨F, 0, none⟩ = some (.slice ta f.terms.length tc) ∧ W.cell? ⟨F, 1, none⟩ = some (.slice na f.nons.length nc) ∧ W.cell? ⟨F, 2, none⟩ = some (.slice pa f.prods.length pc)) 8 (by kernel_rfl) 8 rfl ?_
  refine tk (i := 0) (v := ?_) (oi := ⟨some 29, .load 25 (.tmp 3), 25, "law.go:56", #[], none⟩) hS0 ?_ ?_
  rotate_left
  · intro W hSW
    go_simp
    try with_reducible rfl
  simp only [Act.put, sA, s0, sS]
  refine tk (i := 2) (v := ?_) (oi := ⟨some 31, .move (.tmp 1), 26, "law.go:56", #[], none⟩) hS0 ?_ ?_
  rotate_left
  · intro W hSW
    go_simp
    try with_reducible rfl
  simp only [Act.put, sA, s0, sS]
  refine tk (i := 4) (v := ?_) (oi := ⟨some 33, .move (.tmp 2), 26, "law.go:56", #[], none⟩) hS0 ?_ ?_
  rotate_left
  · intro W hSW
    go_simp
    try with_reducible rfl
  simp only [Act.put, sA, s0, sS]
  refine wpAnyL_one' (i := 1) (o := ⟨some 30, .buildSlice 26 0 #[], 26, "law.go:56", #[], none⟩) (by kernel_rfl) rfl rfl (fun K hK => ?_)
  go_simp
  refine hK.out _ _ (fun _ => hSn) ?_
  clear hK
  refine wpAnyL_one' (i := 3) (o := ⟨some 32, .call ⟨.builtin .append, #[.tmp 30, .tmp 31], #[26, 26]⟩, 26, "law.go:56", #[⟨1, .data⟩, ⟨2, .data⟩], none⟩) (by kernel_rfl) rfl rfl (fun KQ hK => ?_)
  rw [if_pos (by rfl)]
  refine wp_append_any (.tmp 30) (.tmp 31) 26 rfl w2.heap.size 30 i0 _ 3 24 Tryz.underlying26 hi0 hz0 hz1 hz2 rfl (by decide) _ 0 [] rfl HO0.out la l.length lc (l.flatMap encR) rfl (fun e => ?_) (flatR_len l) (newsAll ?_) (one_rowR l) (by unfold maxLen; omega) (by omega) Bn.size ?_
  · subst e
    obtain ⟨_, _, e0, hI, hc, hle⟩ := (HL.out _ (HB2.out _ Bn)).1
    cases e0
    have := hc rfl
    exact ⟨by omega, this⟩
  · obtain ⟨_, _, e0, hI, _, _⟩ := (HL.out _ (HB2.out _ Bn)).1
    cases e0
    exact hI
  intro v3 w3 hown3 hg3
  simp only [Nat.zero_add, List.nil_append] at hown3
  have B3 : Below w2.heap.size w2 w3 := Bn.grown hg3 Bn.size (fun k e => (World.ownsRow.lt HO0.out k e).1)
  obtain ⟨a3, c3, e3⟩ := slice_of_ownK hown3
  subst e3
  have HO3 : Hid (w3.ownsRow w2.heap.size 30 3 (.slice a3 l.length c3) l.length (l.flatMap encR)) := hown3
  have hS3 := HX2.out _ B3
  refine hK.out _ _ (fun _ => hS3) ?_
  clear hK hown3 hg3
  simp only [Act.put, sA, s0, sS]
  refine wpAnyL_one' (i := 5) (o := ⟨some 34, .call ⟨.builtin .append, #[.tmp 32, .tmp 33], #[26, 26]⟩, 26, "law.go:56", #[⟨3, .data⟩, ⟨4, .data⟩, ⟨3, .chain⟩], none⟩) (by kernel_rfl) rfl rfl (fun KQ hK => ?_)
  rw [if_pos (by rfl)]
  refine wp_append_any (.tmp 32) (.tmp 33) 26 rfl w2.heap.size 30 i0 _ 3 24 Tryz.underlying26 hi0 hz0 hz1 hz2 rfl (by decide) _ _ _ rfl HO3.out ma m.length mc (m.flatMap encR) rfl (fun e => ?_) (flatR_len m) (newsAll ?_) (one_rowR m) (by unfold maxLen; omega) (by omega) B3.size ?_
  · subst e
    obtain ⟨_, _, e0, hI, hc, hle⟩ := (HL.out _ (HB2.out _ B3)).2
    cases e0
    have := hc rfl
    exact ⟨by omega, this⟩
  · obtain ⟨_, _, e0, hI, _, _⟩ := (HL.out _ (HB2.out _ B3)).2
    cases e0
    exact hI
  intro v4 w4 hown4 hg4
  have B4 : Below w2.heap.size w2 w4 := B3.grown hg4 B3.size (fun k e => (World.ownsRow.lt HO3.out k e).1)
  obtain ⟨a4, c4, e4⟩ := slice_of_ownK hown4
  subst e4
  have HS4 : Hid (SlL (l ++ m) (.slice a4 (l.length + m.length) c4) w4) := by
    have h0 : OwnL w2.heap.size (l ++ m) (.slice a4 (l.length + m.length) c4) w4 := by
      unfold OwnL
      simpa using hown4
    have := OwnL.sl h0 (fun x hx => by
      rcases List.mem_append.1 hx with hx | hx
      · obtain ⟨_, _, e0, hI, _⟩ := (HL.out _ (HB2.out _ B4)).1
        exact hI.ok x hx
      · obtain ⟨_, _, e0, hI, _⟩ := (HL.out _ (HB2.out _ B4)).2
        exact hI.ok x hx)
    exact this
  have hS4 := HX2.out _ B4
  refine hK.out _ _ (fun _ => hS4) ?_
  clear hK hown4 hg4
  simp only [Act.put, sA, s0, sS]
  refine wpAnyL_one' (i := 6) (o := ⟨some 35, .call ⟨.value (.func 15), #[.tmp 29, .tmp 34], #[25, 26]⟩, 26, "law.go:56", #[⟨0, .data⟩, ⟨5, .data⟩, ⟨5, .chain⟩], none⟩) (by kernel_rfl) rfl rfl (fun KQ hK => ?_)
  go_simp
  refine (H6.out (l ++ m) _ _ (HB2.out _ B4) HFT.out HS4.out (by rw [List.length_append]; unfold maxI; omega)).mono ?_
  rintro e w5 ⟨vb, Lb, rfl, qb, rb, _, b5⟩
  obtain ⟨ba, bc, rfl, _⟩ := id rb
  have HQB : Hid (ClosI f (fun x => x ∈ l ++ m) Lb) := qb
  have B5 := below_then B4 b5 B4.size
  have HRB : Hid (∀ W, Below w5.heap.size w5 W → SlL Lb (.slice ba Lb.length bc) W) := fun W hb => rb.next hb
  have hLb : Lb.length ≤ 16000000 := by have := qb.len HP.out; unfold maxI at this; exact this
  have hS5 := HX2.out _ B5
  refine hK.out _ _ (fun _ => hS5) ?_
  clear hK qb rb b5
  refine tk (i := 7) (v := ?_) (oi := ⟨some 8, .assign (.tmp 35), 26, "law.go:56", #[⟨6, .data⟩, ⟨6, .chain⟩, ⟨0, .phase⟩, ⟨1, .phase⟩, ⟨2, .phase⟩, ⟨3, .phase⟩, ⟨4, .phase⟩, ⟨5, .phase⟩, ⟨6, .phase⟩], none⟩) hS5 ?_ ?_
  rotate_left
  · intro W hSW
    go_simp
    try with_reducible rfl
  simp only [Act.put, sA, s0, sS]
  refine wpAnyL_done (by kernel_rfl) ?_ _
  have HAB : Hid (∀ x ∈ La, x ∈ Lb) := fun x hx => (HQB.out.2 x).2 (cl_mono (fun y hy => List.mem_append_left _ hy) ((HQA.out.2 x).1 hx))
  clear hS0 hSn hS3 hS4 hS5 HO0 HO3 HS4 Bn B3 B4 HL HNN
  go_wp2_with fail
  go_loopw [9, 38] (fun kv i wr => ∃ (j k : Nat), kv = .int .i64 k ∧ i = .int .i64 j ∧ j ≤ Lb.length ∧ Sub La Lb j k ∧ Below w5.heap.size w5 wr) (fun _ i _ => Lb.length - (intOf i).toNat)
  case atStart => exact ⟨0, 0, rfl, rfl, Nat.zero_le _, Sub.start _ _, Below.refl _ _⟩
  case round =>
  obtain ⟨j, k, rfl, rfl, hj, hsub, BR⟩ := hrel
  have HSub : Hid (Sub La Lb j k) := hsub
  have hkl := hsub.le
  have hsz := BR.size
  clear hsub
  have BRW := below_then B5 BR B5.size
  by_cases hlt : j < Lb.length
  case neg =>
    obtain rfl : j = Lb.length := by omega
    obtain rfl : k = La.length := HSub.out.all HAB.out
    obtain ⟨d0, d1, d2⟩ := HX2.out _ BRW
    have HC := H6.out La _ _ (HB2.out _ BRW) HFT.out (HRA.out _ BRW) (by unfold maxI; omega)
    clear HSub HRB
    go_wp2_with fail
    refine HC.mono ?_
    rintro e w6 ⟨vc, Lc, rfl, qc, rc, _, b6⟩
    have B6 := below_then BRW b6 BRW.size
    obtain rfl := clos_self HQA.out qc
    have HS : Calls Tryz.prog 14 #[vc, .slice aa Lc.length ac] w6 fun e w' => e = .returned (.bool true) ∧ ∃ m, w' = w6.drewN m := by
      have := rsame_any Lc Lc _ _ w6 rc (HRA.out _ B6) (by omega) (by omega)
      simpa using this
    clear HC qc rc b6 d0 d1 d2
    go_wp2_with fail
    refine HS.mono ?_
    rintro e w7 ⟨rfl, dm, rfl⟩
    have B7 := HB2.out _ (below_drewN B6 dm)
    clear HS
    go_wp2_with fail
    refine (HAW.out _ B7).mono ?_
    rintro e w8 ⟨rfl, b8⟩
    have B8 := below_then B7 b8 B7.size
    clear HAW b8
    go_wp2_with fail
    go_ret
    exact ⟨rfl, B8⟩
  obtain ⟨_, _, e0, hIB, _, _⟩ := HRB.out _ BR
  cases e0
  obtain ⟨b, off, rfl, _, c0, c1, c2, _⟩ := hIB.at (Below.refl _ _) hlt
  obtain ⟨_, _, e0, hIA, _, _⟩ := HRA.out _ BRW
  cases e0
  have HMI : Hid ((∀ (hk : k < La.length), La[k] ≠ Lb[j]) → Sub La Lb (j + 1) k) := fun h => HSub.out.miss HQA.out.1 HQB.out.1 HAB.out hlt h
  have HHI : Hid (∀ (hk : k < La.length), La[k] = Lb[j] → Sub La Lb (j + 1) (k + 1)) := fun hk e => HSub.out.hit HQA.out.1 hlt hk e
  generalize Lb[j] = x at *
  obtain ⟨x0, x1, x2⟩ := x
  simp only at c0 c1 c2
  have Y0 := RBox.new (x0, x1, x2) 30 wr
  have Bx : Below wr.heap.size wr (wr.alloc (Obj.cells #[.int .i64 x0, .int .i64 x1, .int .i64 x2] 30)) := (Below.refl _ _).alloc (Nat.le_refl _) _
  have B2 : Below w5.heap.size w5 (wr.alloc (Obj.cells #[.int .i64 x0, .int .i64 x1, .int .i64 x2] 30)) := BR.alloc hsz _
  have hIA2 := hIA.next Bx
  obtain ⟨hXl, y0, y1, y2⟩ := Y0
  simp only at y0 y1 y2
  clear hIB hIA BRW
  go_wp2_with fail
  clear c0 c1 c2 Bx
  generalize wr.heap.size = X at *
  generalize wr.alloc (Obj.cells #[.int .i64 x0, .int .i64 x1, .int .i64 x2] 30) = W1 at *
  by_cases hk : k < La.length
  case neg =>
    have hkd : decide ((k : Int) < La.length) = false := decide_eq_false (by omega)
    have hkn : ¬ (k : Int) < La.length := by omega
    have HN := HMI.out (fun h => absurd h hk)
    have HN2 : Hid (Sub La Lb (j + 1) k) := HN
    clear HMI HHI HN hIA2 HSub
    go_quiet (fail)
    go_wp2_with fail
    exact ⟨⟨j + 1, k, rfl, by go_num, by omega, HN2.out, below_drewN B2 _⟩, by simp [intOf]; omega⟩
  have hkd : decide ((k : Int) < La.length) = true := decide_eq_true (by omega)
  have hkI : (k : Int) < La.length := by omega
  obtain ⟨b', off', rfl, _, g0, g1, g2, _⟩ := hIA2.at (Below.refl _ _) hk
  have HMJ : Hid (La[k] ≠ (x0, x1, x2) → Sub La Lb (j + 1) k) := fun h => HMI.out (fun _ => h)
  have HHJ : Hid (La[k] = (x0, x1, x2) → Sub La Lb (j + 1) (k + 1)) := fun h => HHI.out hk h
  generalize La[k] = z at *
  obtain ⟨z0, z1, z2⟩ := z
  simp only at g0 g1 g2
  clear HMI HHI HSub hIA2
  by_cases e0 : z0 = x0
  · subst e0
    by_cases e1 : z1 = x1
    · subst e1
      by_cases e2 : z2 = x2
      · subst e2
        have HN2 : Hid (Sub La Lb (j + 1) (k + 1)) := HHJ.out rfl
        clear HMJ HHJ
        go_quiet (fail)
        go_wp2_with fail
        exact ⟨⟨j + 1, k + 1, by go_num, by go_num, by omega, HN2.out, below_drewN B2 _⟩, by simp [intOf]; omega⟩
      · have e2' : (z2 == x2) = false := by simpa using e2
        have HN2 : Hid (Sub La Lb (j + 1) k) := HMJ.out (fun h => e2 (by cases h; rfl))
        clear HMJ HHJ e2
        go_quiet (fail)
        go_wp2_with fail
        exact ⟨⟨j + 1, k, rfl, by go_num, by omega, HN2.out, below_drewN B2 _⟩, by simp [intOf]; omega⟩
    · have e1' : (z1 == x1) = false := by simpa using e1
      have HN2 : Hid (Sub La Lb (j + 1) k) := HMJ.out (fun h => e1 (by cases h; rfl))
      clear HMJ HHJ e1
      go_quiet (fail)
      go_wp2_with fail
      exact ⟨⟨j + 1, k, rfl, by go_num, by omega, HN2.out, below_drewN B2 _⟩, by simp [intOf]; omega⟩
  · have e0' : (z0 == x0) = false := by simpa using e0
    have HN2 : Hid (Sub La Lb (j + 1) k) := HMJ.out (fun h => e0 (by cases h; rfl))
    clear HMJ HHJ e0
    go_quiet (fail)
    go_wp2_with fail
    exact ⟨⟨j + 1, k, rfl, by go_num, by omega, HN2.out, below_drewN B2 _⟩, by simp [intOf]; omega⟩
end Go.Proofs.YtlaplmmicccbcaaGreatDoor
/- A plain grammar, items, a production, and numbers among the arguments, opened: what they hold as cells. -/
namespace Go.Proofs.YtlaplmmicccbcaaGreatDoor
open Go.ChangeShapes Go.WideShapes Go.ChangeAt Go.RowKit Go.Joins Go.Deep

theorem own : ownKnob Tryz.prog.godebug = none := by kernel_rfl
theorem cellsItem : Tryz.prog.cellsOf 56 = 3 := by kernel_rfl
theorem cellsProd : Tryz.prog.cellsOf 54 = 3 := by kernel_rfl
theorem cellsFlat : Tryz.prog.cellsOf 25 = 3 := by kernel_rfl
theorem cellsInt : Tryz.prog.cellsOf 3 = 1 := by kernel_rfl
theorem cellsStr : Tryz.prog.cellsOf 9 = 1 := by kernel_rfl
theorem cellsItems : Tryz.prog.cellsOf 52 = 1 := by kernel_rfl
theorem cellsStrs : Tryz.prog.cellsOf 22 = 1 := by kernel_rfl
theorem cellsProds : Tryz.prog.cellsOf 23 = 1 := by kernel_rfl
theorem laidOut : laidOutB Tryz.prog = true := by kernel_rfl
theorem cell_plain {W : World} {a : Addr} {v : Value} (h : W.cell? a = some v) : ∃ b off, a = ⟨b, off, none⟩ := by
  obtain ⟨b, off, spot⟩ := a
  have hs : spot = none := by simpa using World.cell?_spot h
  subst hs
  exact ⟨b, off, rfl⟩
theorem i64_of {a : Int} (w : (Lit.int .i64 a).wf = true) : i64B a := by
  have := bounds_i64 w
  exact ⟨this.1, this.2⟩
theorem three_of : ∀ {l : List Value}, l.length = 3 → ∃ a b c, l = [a, b, c]
  | [a, b, c], _ => ⟨a, b, c, rfl⟩
theorem getR {α : Type} {l n : Nat} {q : Nat → α} (hl : l = n) {i : Nat} {x : α} (h : ((List.range l).map q)[i]? = some x) : i < n ∧ x = q i := by
  have hi : i < l := by
    have := (List.getElem?_eq_some_iff.1 h).1
    simpa using this
  rw [List.getElem?_map, List.getElem?_range hi] at h
  exact ⟨by omega, (Option.some.inj h).symm⟩

variable {H : Type} {enc : TypeId × Value → H} {W : World}

theorem weights_all {P : Program} {e : TypeId} : ∀ {l : List (DataW H)} {x : DataW H}, x ∈ l → ∀ n ∈ x.weights P e, n ∈ DataW.weightsAll P e l
  | d :: r, x, h, n, hn => by
    rw [DataW.weightsAll, List.mem_append]
    rcases List.mem_cons.1 h with rfl | h
    · exact .inl hn
    · exact .inr (weights_all h n hn)
/-- A slice's own weight, and those of its elements, out of what it weighs. -/
theorem weigh_slice {t e : TypeId} {l m : Nat} {D : Nat → DataW H} (hu : Tryz.prog.underlying t = some (.slice e)) (hlm : l ≤ m)
    (hw : ∀ n ∈ (DataW.slice ((List.range l).map D) ((List.range (m - l)).map fun j => D (l + j)) : DataW H).weights Tryz.prog t, n ≤ reachBytes) :
    m * Tryz.prog.bytesOf e ≤ reachBytes ∧ ∀ i, i < l → ∀ n ∈ (D i).weights Tryz.prog e, n ≤ reachBytes := by
  rw [DataW.weights, hu] at hw
  simp only at hw
  refine ⟨?_, fun i hi n hn => hw n ?_⟩
  · have := hw _ (List.mem_cons_self ..)
    simp only [List.length_map, List.length_range] at this
    rw [show l + (m - l) = m by omega] at this
    exact this
  · refine List.mem_cons_of_mem _ (List.mem_append.2 (.inl (weights_all (List.mem_map.2 ⟨i, List.mem_range.2 hi, rfl⟩) n hn)))
theorem bytesItem : Tryz.prog.bytesOf 56 = 40 := by kernel_rfl
theorem bytesProd : Tryz.prog.bytesOf 54 = 40 := by kernel_rfl
theorem bytesStr : Tryz.prog.bytesOf 9 = 16 := by kernel_rfl

theorem open_nums {fuel : Nat} {sp : Nat → Bool} {cs : List Value} {x : DataW H × List MemPlace} (hf : DataW.trod enc Tryz.prog W 0 sp true fuel 47 cs = some x) :
    ∃ (es : List Int) (v : Value), cs = [v] ∧ SlI es v W := by
  rcases open_slice Tryz.underlying47 hf with ⟨hcs, _⟩ | ⟨a, l, c, m, n, D, Pl, hcs, _, hl, hmx, hmm, hx, hel⟩
  · exact ⟨[], _, hcs, none, 0, rfl, RowAt.nil _ _ _, fun _ => rfl, Nat.le_refl _, by simp⟩
  · have hlm : l ≤ m := by rw [hmm]; split <;> omega
    have each : ∀ i, i < l → ∃ q : Int, W.cell? (a.add i) = some (.int .i64 q) ∧ i64B q := by
      intro i hi
      obtain ⟨cs', h1, h2⟩ := hel i (by omega)
      rw [cellsInt] at h1
      obtain ⟨_, hlen', hcell⟩ := World.cells?_some h1
      obtain ⟨x0, e0, _, w0⟩ := DataW.trod_int Tryz.underlying3 h2
      subst e0
      have q0 := hcell 0 (by omega)
      rw [add_add] at q0
      exact ⟨x0, by simpa using q0, i64_of w0⟩
    obtain ⟨q, hq⟩ := choose_lt each
    refine ⟨(List.range l).map q, _, hcs, some a, c, by simp, fun i r hr => ?_, (fun h => by cases h), by simpa using hl, fun y hy => ?_⟩
    · obtain ⟨hi, rfl⟩ := getR rfl hr
      have c0 := (hq i hi).1
      have hc' : W.cell? a = some (.int .i64 (q 0)) := by simpa [Addr.add] using (hq 0 (by omega)).1
      obtain ⟨b, off, rfl⟩ := cell_plain hc'
      rw [add_plain] at c0
      exact ⟨b, off, rfl, World.block_lt_of_cell? W _ hc', c0⟩
    · obtain ⟨i, hi, rfl⟩ := List.mem_map.1 hy
      exact (hq i (List.mem_range.1 hi)).2

theorem open_texts {fuel : Nat} {cs : List Value} {x : DataW H × List MemPlace} (hf : DataW.trod enc Tryz.prog W 0 (fun _ => true) true fuel 22 cs = some x) (hw : ∀ n ∈ x.1.weights Tryz.prog 22, n ≤ reachBytes) :
    ∃ (es : List ByteArray) (ao : Option Addr) (cap : Nat), cs = [.slice ao es.length cap] ∧ RowAt Value.string es ao W ∧ es.length ≤ 140737488351232 := by
  rcases open_slice Tryz.underlying22 hf with ⟨hcs, _⟩ | ⟨a, l, c, m, n, D, Pl, hcs, _, hl, hmx, hmm, hx, hel⟩
  · exact ⟨[], none, 0, hcs, RowAt.nil _ _ _, by simp⟩
  · have hlm : l ≤ m := by rw [hmm]; split <;> omega
    rw [hx] at hw
    have hwt := weigh_slice Tryz.underlying22 hlm hw
    rw [bytesStr] at hwt
    unfold reachBytes at hwt
    have each : ∀ i, i < l → ∃ q : ByteArray, W.cell? (a.add i) = some (.string q) := by
      intro i hi
      obtain ⟨cs', h1, h2⟩ := hel i (by omega)
      rw [cellsStr] at h1
      obtain ⟨_, hlen', hcell⟩ := World.cells?_some h1
      obtain ⟨s, e0, _⟩ := DataW.trod_string Tryz.underlying9 h2
      subst e0
      have q0 := hcell 0 (by omega)
      rw [add_add] at q0
      exact ⟨s, by simpa using q0⟩
    obtain ⟨q, hq⟩ := choose_lt each
    refine ⟨(List.range l).map q, some a, c, by simpa using hcs, fun i r hr => ?_, by simp; omega⟩
    obtain ⟨hi, rfl⟩ := getR rfl hr
    have c0 := hq i hi
    have hc' : W.cell? a = some (.string (q 0)) := by simpa [Addr.add] using hq 0 (by omega)
    obtain ⟨b, off, rfl⟩ := cell_plain hc'
    rw [add_plain] at c0
    exact ⟨b, off, rfl, World.block_lt_of_cell? W _ hc', c0⟩

theorem open_items {fuel : Nat} {cs : List Value} {x : DataW H × List MemPlace} (hf : DataW.trod enc Tryz.prog W 0 (fun _ => true) true fuel 52 cs = some x) (hw : ∀ n ∈ x.1.weights Tryz.prog 52, n ≤ reachBytes) :
    ∃ (es : List It) (v : Value), cs = [v] ∧ SlT es v W := by
  rcases open_slice Tryz.underlying52 hf with ⟨hcs, _⟩ | ⟨a, l, c, m, n, D, Pl, hcs, _, hl, hmx, hmm, hx, hel⟩
  · exact ⟨[], _, hcs, none, 0, rfl, fun i x hi => by simp at hi, fun _ => rfl, Nat.le_refl _, by omega⟩
  · have hm : m = c := by simpa using hmm
    subst hm
    rw [hx] at hw
    have hwt := weigh_slice Tryz.underlying52 hl hw
    rw [bytesItem] at hwt
    unfold reachBytes at hwt
    have each : ∀ i, i < l → ∃ q : It, W.cell? (a.add (i * 3)) = some (.int .i64 q.sym) ∧ W.cell? (a.add (i * 3 + 1)) = some (.string q.fld) ∧ W.cell? (a.add (i * 3 + 2)) = some (.string q.als) ∧ i64B q.sym ∧ q.fld.size ≤ 9223372036854775807 ∧ q.als.size ≤ 9223372036854775807 := by
      intro i hi
      obtain ⟨cs', h1, h2⟩ := hel i (by omega)
      rw [cellsItem] at h1
      obtain ⟨_, hlen', hcell⟩ := World.cells?_some h1
      obtain ⟨y0, y1, y2, k, hy, _, g0, g1, g2⟩ := trod_struct3 Tryz.underlying56 h2
      obtain ⟨v0, v1, v2, rfl⟩ := three_of hlen'
      simp [cellsInt, cellsStr] at g0 g1 g2
      obtain ⟨x0, e0, _, w0⟩ := DataW.trod_int Tryz.underlying3 g0
      obtain ⟨s1, e1, _, w1⟩ := DataW.trod_string Tryz.underlying9 g1
      obtain ⟨s2, e2, _, w2⟩ := DataW.trod_string Tryz.underlying9 g2
      simp at e0 e1 e2
      subst e0 e1 e2
      have q0 := hcell 0 (by omega)
      have q1 := hcell 1 (by omega)
      have q2 := hcell 2 (by omega)
      rw [add_add] at q0 q1 q2
      unfold maxLen at w1 w2
      exact ⟨⟨x0, s1, s2⟩, by simpa using q0, by simpa using q1, by simpa using q2, i64_of w0, w1, w2⟩
    haveI : Inhabited It := ⟨⟨0, ByteArray.empty, ByteArray.empty⟩⟩
    obtain ⟨q, hq⟩ := choose_lt each
    refine ⟨(List.range l).map q, _, hcs, some a, m, by simp, fun i r hr => ?_, (fun h => by cases h), by simpa using hl, by omega⟩
    obtain ⟨hi, rfl⟩ := getR rfl hr
    obtain ⟨c0, c1, c2, c3⟩ := hq i hi
    have hc' : W.cell? a = some (.int .i64 (q 0).sym) := by simpa [Addr.add] using (hq 0 (by omega)).1
    obtain ⟨b, off, rfl⟩ := cell_plain hc'
    rw [add_plain] at c0 c1 c2
    exact ⟨b, off, rfl, World.block_lt_of_cell? W _ hc', c0, c1, c2, c3⟩

set_option maxRecDepth 100000 in
theorem open_prods {fuel : Nat} {cs : List Value} {x : DataW H × List MemPlace} (hf : DataW.trod enc Tryz.prog W 0 (fun _ => true) true fuel 23 cs = some x) (hw : ∀ n ∈ x.1.weights Tryz.prog 23, n ≤ reachBytes) :
    ∃ (es : List Pr) (ao : Option Addr) (cap : Nat), cs = [.slice ao es.length cap] ∧ PrsAt es ao W ∧ es.length ≤ 140737488351232 ∧ es.length ≤ cap ∧ (ao = none → cap = 0) := by
  rcases open_slice Tryz.underlying23 hf with ⟨hcs, _⟩ | ⟨a, l, c, m, n, D, Pl, hcs, _, hl, hmx, hmm, hx, hel⟩
  · exact ⟨[], none, 0, hcs, fun i x hi => by simp at hi, by simp, by simp, fun _ => rfl⟩
  · have hm : m = c := by simpa using hmm
    subst hm
    rw [hx] at hw
    have hwt := weigh_slice Tryz.underlying23 hl hw
    rw [bytesProd] at hwt
    have hb := hwt.1
    unfold reachBytes at hb
    have each : ∀ i, i < l → ∃ q : Pr × Value, W.cell? (a.add (i * 3)) = some (.int .i64 q.1.left) ∧ W.cell? (a.add (i * 3 + 1)) = some q.2 ∧ W.cell? (a.add (i * 3 + 2)) = some (.int .i64 q.1.prec) ∧ SlT q.1.right q.2 W ∧ i64B q.1.left ∧ i64B q.1.prec := by
      intro i hi
      obtain ⟨cs', h1, h2⟩ := hel i (by omega)
      rw [cellsProd] at h1
      obtain ⟨_, hlen', hcell⟩ := World.cells?_some h1
      obtain ⟨y0, y1, y2, k, hy, _, g0, g1, g2⟩ := trod_struct3 Tryz.underlying54 h2
      have hwi := hwt.2 i hi
      have hy1 : D i = .agg [y0.1, y1.1, y2.1] := by have := congrArg Prod.fst hy; exact this
      rw [hy1, DataW.weights, Tryz.underlying54] at hwi
      obtain ⟨v0, v1, v2, rfl⟩ := three_of hlen'
      simp [cellsInt, cellsItems] at g0 g1 g2
      obtain ⟨x0, e0, _, w0⟩ := DataW.trod_int Tryz.underlying3 g0
      obtain ⟨x2, e2, _, w2⟩ := DataW.trod_int Tryz.underlying3 g2
      obtain ⟨its, vv, e1, hT⟩ := open_items g1 (fun n hn => hwi n (by simp [DataW.weightsEach, hn]))
      simp at e0 e1 e2
      subst e0 e1 e2
      have q0 := hcell 0 (by omega)
      have q1 := hcell 1 (by omega)
      have q2 := hcell 2 (by omega)
      rw [add_add] at q0 q1 q2
      exact ⟨(⟨x0, its, x2⟩, v1), by simpa using q0, by simpa using q1, by simpa using q2, hT, i64_of w0, i64_of w2⟩
    haveI : Inhabited (Pr × Value) := ⟨(⟨0, [], 0⟩, .bool false)⟩
    obtain ⟨q, hq⟩ := choose_lt each
    refine ⟨(List.range l).map fun i => (q i).1, some a, m, by simpa using hcs, fun i r hr => ?_, by simp; omega, by simpa using hl, (fun h => by cases h)⟩
    obtain ⟨hi, rfl⟩ := getR rfl hr
    obtain ⟨c0, c1, c2, c3⟩ := hq i hi
    have hc' : W.cell? a = some (.int .i64 (q 0).1.left) := by simpa [Addr.add] using (hq 0 (by omega)).1
    obtain ⟨b, off, rfl⟩ := cell_plain hc'
    rw [add_plain] at c0 c1 c2
    exact ⟨b, off, _, rfl, World.block_lt_of_cell? W _ hc', c0, c1, c2, c3⟩

set_option maxRecDepth 100000 in
theorem open_flat {r : Reach} {b0 : Nat} {v : Value} {d : DataW H} {p : List MemPlace} (hv : Value.okWide Tryz.prog W r b0 25 v) (h : DataW.Trod enc Tryz.prog W 0 (fun _ => true) true 25 v d p) (hw : ∀ n ∈ d.weights Tryz.prog 25, n ≤ reachBytes) :
    ∃ f a, v = FlA.val a f ∧ FlAt f a W := by
  obtain ⟨v0, v1, v2, y0, y1, y2, n, rfl, rfl, _, g0, g1, g2⟩ := open_agg3 Tryz.underlying25 (by kernel_rfl) cellsFlat hv h
  rw [DataW.weights, Tryz.underlying25] at hw
  obtain ⟨ts, ta, tc, e0, hT, lt⟩ := open_texts g0 (fun n hn => hw n (by simp [DataW.weightsEach, hn]))
  obtain ⟨ns, na, nc, e1, hN, ln⟩ := open_texts g1 (fun n hn => hw n (by simp [DataW.weightsEach, hn]))
  obtain ⟨ps, pa, pc, e2, hP, lp, lc, ln0⟩ := open_prods g2 (fun n hn => hw n (by simp [DataW.weightsEach, hn]))
  simp at e0 e1 e2
  subst e0 e1 e2
  exact ⟨⟨ts, ns, ps⟩, ⟨ta, tc, na, nc, pa, pc⟩, rfl, hT, hN, hP, lt, ln, lp, lc, ln0⟩
set_option maxRecDepth 100000 in
theorem open_prod {r : Reach} {b0 : Nat} {v : Value} {d : DataW H} {p : List MemPlace} (hv : Value.okWide Tryz.prog W r b0 54 v) (h : DataW.Trod enc Tryz.prog W 0 (fun _ => true) true 54 v d p) (hw : ∀ n ∈ d.weights Tryz.prog 54, n ≤ reachBytes) :
    ∃ (q : Pr) (u : Value), v = .agg #[.int .i64 q.left, u, .int .i64 q.prec] ∧ SlT q.right u W ∧ i64B q.left ∧ i64B q.prec := by
  obtain ⟨v0, v1, v2, y0, y1, y2, n, rfl, rfl, _, g0, g1, g2⟩ := open_agg3 Tryz.underlying54 (by kernel_rfl) cellsProd hv h
  rw [DataW.weights, Tryz.underlying54] at hw
  obtain ⟨x0, e0, _, w0⟩ := DataW.trod_int Tryz.underlying3 g0
  obtain ⟨x2, e2, _, w2⟩ := DataW.trod_int Tryz.underlying3 g2
  obtain ⟨its, vv, e1, hT⟩ := open_items g1 (fun n hn => hw n (by simp [DataW.weightsEach, hn]))
  simp at e0 e1 e2
  subst e0 e1 e2
  exact ⟨⟨x0, its, x2⟩, v1, rfl, hT, i64_of w0, i64_of w2⟩
end Go.Proofs.YtlaplmmicccbcaaGreatDoor
/- Items among the arguments, opened. -/
namespace Go.Proofs.YtlaplmmicccbcaaGreatDoor
open Go.ChangeShapes Go.WideShapes Go.ChangeAt Go.RowKit Go.Joins Go.Deep

variable {H : Type} {enc : TypeId × Value → H} {W : World}
theorem cellsLr : Tryz.prog.cellsOf 30 = 3 := by kernel_rfl
theorem bytesLr : Tryz.prog.bytesOf 30 = 24 := by kernel_rfl
theorem open_irs {fuel : Nat} {cs : List Value} {x : DataW H × List MemPlace} (hf : DataW.trod enc Tryz.prog W 0 (fun _ => true) true fuel 26 cs = some x) :
    ∃ (es : List Ir) (v : Value), cs = [v] ∧ SlL es v W := by
  rcases open_slice Tryz.underlying26 hf with ⟨hcs, _⟩ | ⟨a, l, c, m, n, D, Pl, hcs, _, hl, hmx, hmm, hx, hel⟩
  · exact ⟨[], _, hcs, none, 0, rfl, fun i x hi => by simp at hi, fun _ => rfl, Nat.le_refl _⟩
  · have hm : m = c := by simpa using hmm
    subst hm
    have each : ∀ i, i < l → ∃ q : Ir, W.cell? (a.add (i * 3)) = some (.int .i64 q.1) ∧ W.cell? (a.add (i * 3 + 1)) = some (.int .i64 q.2.1) ∧ W.cell? (a.add (i * 3 + 2)) = some (.int .i64 q.2.2) ∧ okR q := by
      intro i hi
      obtain ⟨cs', h1, h2⟩ := hel i (by omega)
      rw [cellsLr] at h1
      obtain ⟨_, hlen', hcell⟩ := World.cells?_some h1
      obtain ⟨y0, y1, y2, k, hy, _, g0, g1, g2⟩ := trod_struct3 Tryz.underlying30 h2
      obtain ⟨v0, v1, v2, rfl⟩ := three_of hlen'
      simp [cellsInt] at g0 g1 g2
      obtain ⟨x0, e0, _, w0⟩ := DataW.trod_int Tryz.underlying3 g0
      obtain ⟨x1, e1, _, w1⟩ := DataW.trod_int Tryz.underlying3 g1
      obtain ⟨x2, e2, _, w2⟩ := DataW.trod_int Tryz.underlying3 g2
      simp at e0 e1 e2
      subst e0 e1 e2
      have q0 := hcell 0 (by omega)
      have q1 := hcell 1 (by omega)
      have q2 := hcell 2 (by omega)
      rw [add_add] at q0 q1 q2
      exact ⟨(x0, x1, x2), by simpa using q0, by simpa using q1, by simpa using q2, i64_of w0, i64_of w1, i64_of w2⟩
    haveI : Inhabited Ir := ⟨(0, 0, 0)⟩
    obtain ⟨q, hq⟩ := choose_lt each
    refine ⟨(List.range l).map q, _, hcs, some a, m, by simp, fun i r hr => ?_, (fun h => by cases h), by simpa using hl⟩
    obtain ⟨hi, rfl⟩ := getR rfl hr
    obtain ⟨c0, c1, c2, c3⟩ := hq i hi
    have hc' : W.cell? a = some (.int .i64 (q 0).1) := by simpa [Addr.add] using (hq 0 (by omega)).1
    obtain ⟨b, off, rfl⟩ := cell_plain hc'
    rw [add_plain] at c0 c1 c2
    exact ⟨b, off, rfl, World.block_lt_of_cell? W _ hc', c0, c1, c2, c3⟩
end Go.Proofs.YtlaplmmicccbcaaGreatDoor
/- The listed variable (the table of the trailing zeros), as the cards tie it. -/
namespace Go.Proofs.YtlaplmmicccbcaaGreatDoor
open Go.ChangeShapes Go.WideShapes Go.ChangeAt Go.RowKit Go.Joins Go.Deep

abbrev laidL : List (String × DataW Unit) := [("math/bits.deBruijn64tab", Rows.laid_math_bits_deBruijn64tab)]
theorem Tryz.gTab : Tryz.prog.globalNamed "math/bits.deBruijn64tab" = some 0 := by kernel_rfl
theorem tTab : (Tryz.prog.globals[0]?).map (·.type) = some 154 := by kernel_rfl
theorem tb_of_laid {W : World} (h : laidMetH Tryz.prog laidL W) : Tb W := by
  rw [MakeChecks.laidMetH_plain _ _ _ (by kernel_rfl)] at h
  have htab := Lib.tabIs_of_head (k := .u8) (zs := Lib.deBruijn64tab.map (fun n : Nat => (n : Int))) Tryz.gTab tTab Tryz.underlying154 Tryz.underlying5 (by kernel_rfl) (by kernel_rfl) h
  unfold Lib.TabIs at htab
  have key : TabAt 0 Lib.deBruijn64tab W := fun j hj => by
    have := World.var?_cell Tryz.gTab htab j
    rw [this]
    simp [hj]
  exact ⟨key, World.block_lt_of_cell? W _ (key 0 (by decide))⟩
theorem door_met (os : Os) (args : Array Value) : laidMetH Tryz.prog laidL ((World.doorLaid Tryz.prog 200 os).forCall (fun _ _ => 0) ⟨#[], args, []⟩).memory :=
  laidMetH_of_parts3 (fuel := 8) (laidMet_of_run' 8 (by kernel_rfl) (by kernel_rfl)) (by kernel_rfl) (by kernel_rfl)
end Go.Proofs.YtlaplmmicccbcaaGreatDoor
