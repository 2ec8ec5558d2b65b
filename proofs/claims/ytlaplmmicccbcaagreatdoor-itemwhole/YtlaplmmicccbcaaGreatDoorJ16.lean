/- ItemTells: which items can be, what they begin with, and where they come to, is the document's. -/
import Derived.Test.YtlaplmmicccbcaaGreatDoorRows
import Derived.Test.YtlaplmmicccbcaaGreatDoorTie
import Derived.Test.YtlaplmmicccbcaaGreatDoorCards
import Derived.Test.YtlaplmmicccbcaaGreatDoorJ01
import Derived.Test.YtlaplmmicccbcaaGreatDoorJ02
import Derived.Test.YtlaplmmicccbcaaGreatDoorJ04
import Derived.Test.YtlaplmmicccbcaaGreatDoorJ05
import Derived.Test.YtlaplmmicccbcaaGreatDoorJ07
import Derived.Test.YtlaplmmicccbcaaGreatDoorJ10
import Derived.Test.YtlaplmmicccbcaaGreatDoorJ15
import Derived.ProofKit
import Derived.OpenShut
import Derived.SizedLaws
import Derived.Lib.SmallJoins
import Derived.Deep.Slices
import Derived.Deep.Strs
import Derived.LaidMore
import Derived.LaidHandle
import Derived.Stop.Joined
import Derived.Stop.LaidErr
import Derived.Lib.LaidTab
import Derived.SevenTiedAt
namespace Go.Proofs.YtlaplmmicccbcaaGreatDoor
open Go.RowKit

theorem same_clos {f : Fl} (hp : FitP f) {S : Ir → Prop} {L M : List Ir} {u v : Value} {W : World} (h1 : ClosI f S L) (h2 : ClosI f S M) (hu : SlL L u W) (hv : SlL M v W) : Calls Tryz.prog 14 #[u, v] W fun e w' => e = .returned (.bool true) ∧ ∃ m, w' = W.drewN m := by
  have e := closI_unique h1 h2
  subst e
  have hl := h1.len hp
  unfold maxI at hl
  have := rsame_any L L u v W hu hv (by omega) (by omega)
  simpa using this

set_option maxRecDepth 100000 in
set_option maxHeartbeats 4000000 in
theorem itemTells_any (f : Fl) (a : FlA) (l : List Ir) (v : Value) (s : Int) (w : World) (hf : FlAt f a w) (hl : SlL l v w) (hT : Tb w) :
    Calls Tryz.prog 3 #[a.val f, v, .int .i64 s] w fun e w' => e = .returned (.bool true) ∧ Below w.heap.size w w' := by
  have h1 := fun W (hb : Below w.heap.size w W) => few11_any f a W (hf.next hb)
  have h2 := fun (x : Ir) W (hb : Below w.heap.size w W) (hn : f.n ≤ 600) => next_item f a x W (hf.next hb) hn
  have h3 := fun (x : Ir) W (hb : Below w.heap.size w W) (hn : f.n ≤ 600) => rnext_item f a x W (hf.next hb) hn
  have h4 := fun (x : Ir) W (hb : Below w.heap.size w W) (hn : f.n ≤ 600) => fit_item f a x W (hf.next hb) hn
  have h5 := fun (x : Ir) W (hb : Below w.heap.size w W) (hn : f.n ≤ 600) => rfit_item f a x W (hf.next hb) hn
  have h6 := fun W (hb : Below w.heap.size w W) (ht : fitB f = true) (hll : l.length ≤ 50) => closureP_any f a l v W (hf.next hb) ht (hT.next hb) (hl.next hb) (by omega)
  have h7 := fun W (hb : Below w.heap.size w W) (ht : fitB f = true) (hll : l.length ≤ 50) => rclos_any f a l v W (hf.next hb) (fit_facts ht) (hl.next hb) (by omega)
  have h8 := fun W (hb : Below w.heap.size w W) (ht : fitB f = true) (hll : l.length ≤ 50) => gotoP_any f a l v s W (hf.next hb) ht (hT.next hb) (hl.next hb) (by omega)
  have h9 := fun W (hb : Below w.heap.size w W) (ht : fitB f = true) (hll : l.length ≤ 50) => rgoto_any f a l v s W (hf.next hb) (fit_facts ht) (hl.next hb) (by omega)
  have h10 := fun W (hb : Below w.heap.size w W) (ht : fitB f = true) => firstP_any f a W (hf.next hb) ht (hT.next hb)
  have h11 := fun W (hb : Below w.heap.size w W) (ht : fitB f = true) => rfirst11_any f a W (hf.next hb) (fit_facts ht)
  have HAW : Hid (∀ W, Below w.heap.size w W → Calls Tryz.prog 9 #[] W fun e w' => e = .returned (.bool true) ∧ Below W.heap.size W w') := fun W hb => awake11_any W (hT.next hb)
  obtain ⟨la, lc, rfl, hI, _, _⟩ := hl
  obtain ⟨ta, tc, na, nc, pa, pc⟩ := a
  have X0 := FBox.new f ⟨ta, tc, na, nc, pa, pc⟩ 25 w
  have B0 : Below w.heap.size w (w.alloc (fobj f ⟨ta, tc, na, nc, pa, pc⟩ 25)) := (Below.refl _ _).alloc (Nat.le_refl _) _
  unfold fobj at X0 B0
  unfold valR at h2 h3 h4 h5
  unfold FlA.val at h1 h2 h3 h4 h5 h6 h7 h8 h9 h10 h11 ⊢
  simp only at *
  have H1 : Hid (∀ W, Below w.heap.size w W → Calls Tryz.prog 8 #[.agg #[.slice ta f.terms.length tc, .slice na f.nons.length nc, .slice pa f.prods.length pc]] W fun e w' => Few1 f W e w') := h1
  have H2 : Hid (∀ (x : Ir) W, Below w.heap.size w W → f.n ≤ 600 → Calls Tryz.prog 10 #[.agg #[.slice ta f.terms.length tc, .slice na f.nons.length nc, .slice pa f.prods.length pc], .agg #[.int .i64 x.1, .int .i64 x.2.1, .int .i64 x.2.2]] W fun e w' => e = .returned (.tuple #[.int .i64 ((nextI f x).getD 0), .bool (nextI f x).isSome]) ∧ Below W.heap.size W w') := h2
  have H3 : Hid (∀ (x : Ir) W, Below w.heap.size w W → f.n ≤ 600 → Calls Tryz.prog 11 #[.agg #[.slice ta f.terms.length tc, .slice na f.nons.length nc, .slice pa f.prods.length pc], .agg #[.int .i64 x.1, .int .i64 x.2.1, .int .i64 x.2.2]] W fun e w' => e = .returned (.tuple #[.int .i64 ((nextI f x).getD 0), .bool (nextI f x).isSome]) ∧ Below W.heap.size W w') := h3
  have H4 : Hid (∀ (x : Ir) W, Below w.heap.size w W → f.n ≤ 600 → Calls Tryz.prog 12 #[.agg #[.slice ta f.terms.length tc, .slice na f.nons.length nc, .slice pa f.prods.length pc], .agg #[.int .i64 x.1, .int .i64 x.2.1, .int .i64 x.2.2]] W fun e w' => e = .returned (.bool (fitI f x)) ∧ Below W.heap.size W w') := h4
  have H5 : Hid (∀ (x : Ir) W, Below w.heap.size w W → f.n ≤ 600 → Calls Tryz.prog 13 #[.agg #[.slice ta f.terms.length tc, .slice na f.nons.length nc, .slice pa f.prods.length pc], .agg #[.int .i64 x.1, .int .i64 x.2.1, .int .i64 x.2.2]] W fun e w' => e = .returned (.bool (fitI f x)) ∧ Below W.heap.size W w') := h5
  have H6 : Hid (∀ W, Below w.heap.size w W → fitB f = true → l.length ≤ 50 → Calls Tryz.prog 15 #[.agg #[.slice ta f.terms.length tc, .slice na f.nons.length nc, .slice pa f.prods.length pc], .slice la l.length lc] W fun e w' => ∃ v' L', e = .returned v' ∧ ClosI f (fun x => x ∈ l) L' ∧ SlL L' v' w' ∧ Apart W.heap.size v' ∧ Below W.heap.size W w') := h6
  have H7 : Hid (∀ W, Below w.heap.size w W → fitB f = true → l.length ≤ 50 → Calls Tryz.prog 16 #[.agg #[.slice ta f.terms.length tc, .slice na f.nons.length nc, .slice pa f.prods.length pc], .slice la l.length lc] W fun e w' => ∃ v' L', e = .returned v' ∧ ClosI f (fun x => x ∈ l) L' ∧ SlL L' v' w' ∧ Apart W.heap.size v' ∧ Below W.heap.size W w') := h7
  have H8 : Hid (∀ W, Below w.heap.size w W → fitB f = true → l.length ≤ 50 → Calls Tryz.prog 17 #[.agg #[.slice ta f.terms.length tc, .slice na f.nons.length nc, .slice pa f.prods.length pc], .slice la l.length lc, .int .i64 s] W fun e w' => ∃ v' L', e = .returned v' ∧ ClosI f (fun x => x ∈ movedL f l s) L' ∧ SlL L' v' w' ∧ Apart W.heap.size v' ∧ Below W.heap.size W w') := h8
  have H9 : Hid (∀ W, Below w.heap.size w W → fitB f = true → l.length ≤ 50 → Calls Tryz.prog 18 #[.agg #[.slice ta f.terms.length tc, .slice na f.nons.length nc, .slice pa f.prods.length pc], .slice la l.length lc, .int .i64 s] W fun e w' => ∃ v' L', e = .returned v' ∧ ClosI f (fun x => x ∈ movedL f l s) L' ∧ SlL L' v' w' ∧ Apart W.heap.size v' ∧ Below W.heap.size W w') := h9
  have H10 : Hid (∀ W, Below w.heap.size w W → fitB f = true → Calls Tryz.prog 19 #[.agg #[.slice ta f.terms.length tc, .slice na f.nons.length nc, .slice pa f.prods.length pc]] W fun e w' => ∃ v' L', e = .returned v' ∧ ClosI f (fun x => x ∈ begL f) L' ∧ SlL L' v' w' ∧ Apart W.heap.size v' ∧ Below W.heap.size W w') := h10
  have H11 : Hid (∀ W, Below w.heap.size w W → fitB f = true → Calls Tryz.prog 20 #[.agg #[.slice ta f.terms.length tc, .slice na f.nons.length nc, .slice pa f.prods.length pc]] W fun e w' => ∃ v' L', e = .returned v' ∧ ClosI f (fun x => x ∈ begL f) L' ∧ SlL L' v' w' ∧ Apart W.heap.size v' ∧ Below W.heap.size W w') := h11
  clear h1 h2 h3 h4 h5 h6 h7 h8 h9 h10 h11 hf hT
  go_enter Tryz.func3, Tryz.ntmps3
  go_wp2_with fail
  obtain ⟨F, hF⟩ : ∃ F, w.heap.size = F := ⟨_, rfl⟩
  have HFF : Hid (w.heap.size = F) := hF
  rw [hF] at X0
  simp only [hF]
  clear hF
  have HI0 := hI.next B0
  generalize w.alloc (Obj.cells #[.slice ta f.terms.length tc, .slice na f.nons.length nc, .slice pa f.prods.length pc] 25) = w0 at *
  refine (H1.out _ B0).mono ?_
  rintro e w1 ⟨b, rfl, hfew, b1⟩
  have B1 := below_then B0 b1 B0.size
  have X1 := X0.next b1
  have HI : Hid (∀ W, Below w1.heap.size w1 W → IrsAt l la W) := fun W hb => (HI0.next b1).next hb
  have HB : Hid (∀ W, Below w1.heap.size w1 W → Below w.heap.size w W) := fun W hb => below_then B1 hb B1.size
  have HX : Hid (∀ W, Below w1.heap.size w1 W → (W.cell? ⟨F, 0, none⟩ = some (.slice ta f.terms.length tc) ∧ W.cell? ⟨F, 1, none⟩ = some (.slice na f.nons.length nc) ∧ W.cell? ⟨F, 2, none⟩ = some (.slice pa f.prods.length pc))) := fun W hb => (X1.next hb).2
  clear X0 B0 b1 H1 hI HI0 X1
  cases b with
  | false =>
    clear hfew
    go_wp2_with fail
    refine (HAW.out _ B1).mono ?_
    rintro e w2 ⟨rfl, b2⟩
    have B2 := below_then B1 b2 B1.size
    clear HAW b2
    go_wp2_with fail
    go_ret
    exact ⟨rfl, B2⟩
  | true =>
  have HFT : Hid (fitB f = true) := (hfew rfl).1
  have hn6 : f.n ≤ 600 := by have := (hfew rfl).2.1; omega
  clear hfew
  by_cases h50 : l.length ≤ 50
  case neg =>
    have hg : decide ((l.length : Int) > 50) = true := decide_eq_true (by omega)
    have hg2 : (l.length : Int) > 50 := by omega
    go_wp2_with fail
    refine (HAW.out _ B1).mono ?_
    rintro e w2 ⟨rfl, b2⟩
    have B2 := below_then B1 b2 B1.size
    clear HAW b2
    go_wp2_with fail
    go_ret
    exact ⟨rfl, B2⟩
  have hg : decide ((l.length : Int) > 50) = false := decide_eq_false (by omega)
  have hg2 : ¬ (l.length : Int) > 50 := by omega
  go_wp2_with fail
  go_loopw [24] (fun i wr => ∃ (j : Nat), i = .int .i64 j ∧ j ≤ l.length ∧ Below w1.heap.size w1 wr) (fun i _ => l.length - (intOf i).toNat)
  case atStart => exact ⟨0, rfl, Nat.zero_le _, Below.refl _ _⟩
  case round =>
  obtain ⟨j, rfl, hj, BR⟩ := hrel
  have hsz := BR.size
  by_cases hlt : j < l.length
  · obtain ⟨b, off, rfl, _, c0, c1, c2, hok⟩ := (HI.out _ BR).at (Below.refl _ _) hlt
    generalize l[j] = x at *
    obtain ⟨x0, x1, x2⟩ := x
    simp only at c0 c1 c2
    have Y0 := RBox.new (x0, x1, x2) 30 wr
    have B2 : Below w1.heap.size w1 (wr.alloc (Obj.cells #[.int .i64 x0, .int .i64 x1, .int .i64 x2] 30)) := BR.alloc hsz _
    obtain ⟨d0, d1, d2⟩ := HX.out _ B2
    obtain ⟨hXl, y0, y1, y2⟩ := Y0
    simp only at y0 y1 y2
    have N1 := H2.out (x0, x1, x2) _ (HB.out _ B2) hn6
    simp only at N1
    obtain ⟨X, hX⟩ : ∃ X, wr.heap.size = X := ⟨_, rfl⟩
    obtain ⟨nz, hnz⟩ : ∃ nz, (nextI f (x0, x1, x2)).getD 0 = nz := ⟨_, rfl⟩
    obtain ⟨nb, hnb⟩ : ∃ nb, (nextI f (x0, x1, x2)).isSome = nb := ⟨_, rfl⟩
    have HNZ : Hid ((nextI f (x0, x1, x2)).getD 0 = nz ∧ (nextI f (x0, x1, x2)).isSome = nb) := ⟨hnz, hnb⟩
    rw [hnz, hnb] at N1
    clear hnz hnb
    go_wp2_with fail
    clear c0 c1 c2
    rw [hX] at hXl y0 y1 y2
    clear hX
    generalize wr.alloc (Obj.cells #[.int .i64 x0, .int .i64 x1, .int .i64 x2] 30) = W1 at *
    refine N1.mono ?_
    rintro e W2 ⟨rfl, b2⟩
    have B3 := below_then B2 b2 B2.size
    obtain ⟨e0, e1, e2⟩ := HX.out _ B3
    have z0 := (b2.cell (p := ⟨X, 0, none⟩) hXl).trans y0
    have z1 := (b2.cell (p := ⟨X, 1, none⟩) hXl).trans y1
    have z2 := (b2.cell (p := ⟨X, 2, none⟩) hXl).trans y2
    have hXl2 : X < W2.heap.size := World.block_lt_of_cell? _ _ z0
    have N2 := H3.out (x0, x1, x2) _ (HB.out _ B3) hn6
    simp only at N2
    rw [HNZ.out.1, HNZ.out.2] at N2
    clear N1 d0 d1 d2 y0 y1 y2 b2 B2 hXl
    go_wp2_with fail
    refine N2.mono ?_
    rintro e W3 ⟨rfl, b3⟩
    have B4 := below_then B3 b3 B3.size
    have HSX : Hid (∀ W, Below W3.heap.size W3 W → (W.cell? ⟨F, 0, none⟩ = some (.slice ta f.terms.length tc) ∧ W.cell? ⟨F, 1, none⟩ = some (.slice na f.nons.length nc) ∧ W.cell? ⟨F, 2, none⟩ = some (.slice pa f.prods.length pc) ∧ W.cell? ⟨X, 0, none⟩ = some (.int .i64 x0) ∧ W.cell? ⟨X, 1, none⟩ = some (.int .i64 x1) ∧ W.cell? ⟨X, 2, none⟩ = some (.int .i64 x2))) := fun W hb => by
      obtain ⟨g0, g1, g2⟩ := HX.out _ (below_then B4 hb B4.size)
      have hb3 := below_then b3 hb b3.size
      exact ⟨g0, g1, g2, (hb3.cell (p := ⟨X, 0, none⟩) hXl2).trans z0, (hb3.cell (p := ⟨X, 1, none⟩) hXl2).trans z1, (hb3.cell (p := ⟨X, 2, none⟩) hXl2).trans z2⟩
    obtain ⟨fb, hfb⟩ : ∃ fb, fitI f (x0, x1, x2) = fb := ⟨_, rfl⟩
    have N4 := H4.out (x0, x1, x2) W3.drew (HB.out _ B4.drew) hn6
    have N5 : Hid (∀ W, Below W3.heap.size W3 W → Calls Tryz.prog 13 #[.agg #[.slice ta f.terms.length tc, .slice na f.nons.length nc, .slice pa f.prods.length pc], .agg #[.int .i64 x0, .int .i64 x1, .int .i64 x2]] W fun e w' => e = .returned (.bool fb) ∧ Below W.heap.size W w') := fun W hb => by
      have := H5.out (x0, x1, x2) W (HB.out _ (below_then B4 hb B4.size)) hn6
      rwa [hfb] at this
    simp only at N4
    rw [hfb] at N4
    clear N2 e0 e1 e2 z0 z1 z2 b3 B3 hfb hok
    have hS0 := HSX.out _ (Below.refl _ W3).drew
    cases fb with
    | true =>
      go_wp2_with fail
      refine wp_region_L (fun W => W.cell? ⟨F, 0, none⟩ = some (.slice ta f.terms.length tc) ∧ W.cell? ⟨F, 1, none⟩ = some (.slice na f.nons.length nc) ∧ W.cell? ⟨F, 2, none⟩ = some (.slice pa f.prods.length pc) ∧ W.cell? ⟨X, 0, none⟩ = some (.int .i64 x0) ∧ W.cell? ⟨X, 1, none⟩ = some (.int .i64 x1) ∧ W.cell? ⟨X, 2, none⟩ = some (.int .i64 x2)) 17 (by kernel_rfl) 17 rfl ?_
      refine tk (i := 0) (v := ?_) (oi := ⟨some 40, .load 25 (.tmp 3), 25, "law.go:33", #[], none⟩) hS0 ?_ ?_
      rotate_left
      · intro W hSW
        go_simp
        try with_reducible rfl
      simp only [Act.put, sA, s0, sS]
      refine tk (i := 1) (v := ?_) (oi := ⟨some 41, .load 30 (.tmp 8), 30, "law.go:33", #[], none⟩) hS0 ?_ ?_
      rotate_left
      · intro W hSW
        go_simp
        try with_reducible rfl
      simp only [Act.put, sA, s0, sS]
      refine tk (i := 3) (v := ?_) (oi := ⟨some 43, .load 25 (.tmp 3), 25, "law.go:33", #[], none⟩) hS0 ?_ ?_
      rotate_left
      · intro W hSW
        go_simp
        try with_reducible rfl
      simp only [Act.put, sA, s0, sS]
      refine tk (i := 4) (v := ?_) (oi := ⟨some 44, .load 30 (.tmp 8), 30, "law.go:33", #[], none⟩) hS0 ?_ ?_
      rotate_left
      · intro W hSW
        go_simp
        try with_reducible rfl
      simp only [Act.put, sA, s0, sS]
      refine wpAnyL_one' (i := 2) (o := ⟨some 42, .call ⟨.value (.func 12), #[.tmp 40, .tmp 41], #[25, 30]⟩, 4, "law.go:33", #[⟨0, .data⟩, ⟨1, .data⟩], none⟩) (by kernel_rfl) rfl rfl (fun K hK => ?_)
      go_simp
      refine N4.mono ?_
      rintro e W4 ⟨rfl, b4⟩
      have B5 : Below W3.heap.size W3 W4 := below_then (Below.refl _ _).drew b4 (Nat.le_refl _)
      have hS4 := HSX.out _ B5
      refine hK.out _ _ (fun _ => hS4) ?_
      clear hK N4
      refine wpAnyL_one' (i := 5) (o := ⟨some 45, .call ⟨.value (.func 13), #[.tmp 43, .tmp 44], #[25, 30]⟩, 4, "law.go:33", #[⟨3, .data⟩, ⟨4, .data⟩, ⟨2, .chain⟩], none⟩) (by kernel_rfl) rfl rfl (fun K hK => ?_)
      go_simp
      refine (N5.out _ B5).mono ?_
      rintro e W5 ⟨rfl, b5⟩
      have B6 : Below W3.heap.size W3 W5 := below_then B5 b5 B5.size
      have hS5 := HSX.out _ B6
      refine hK.out _ _ (fun _ => hS5) ?_
      clear hK N5
      refine tk (i := 6) (v := ?_) (oi := ⟨some 46, .binOp .neq 4 (.tmp 42) (.tmp 45) 4, 4, "law.go:33", #[⟨2, .data⟩, ⟨5, .data⟩], none⟩) hS5 ?_ ?_
      rotate_left
      · intro W hSW
        go_simp
        try with_reducible rfl
      simp only [Act.put, sA, s0, sS]
      refine tk (i := 7) (v := ?_) (oi := ⟨some 47, .move (.tmp 46), 4, "law.go:33", #[⟨6, .data⟩, ⟨5, .chain⟩], none⟩) hS5 ?_ ?_
      rotate_left
      · intro W hSW
        go_simp
        try with_reducible rfl
      simp only [Act.put, sA, s0, sS]
      refine tk (i := 8) (v := ?_) (oi := ⟨some 48, .move (.tmp 9), 3, "law.go:33", #[⟨7, .guard⟩], some (7, false)⟩) hS5 ?_ ?_
      rotate_left
      · intro W hSW
        go_simp
        try with_reducible rfl
      simp only [Act.put, sA, s0, sS]
      refine tk (i := 9) (v := ?_) (oi := ⟨some 49, .move (.tmp 11), 3, "law.go:33", #[⟨7, .guard⟩], some (7, false)⟩) hS5 ?_ ?_
      rotate_left
      · intro W hSW
        go_simp
        try with_reducible rfl
      simp only [Act.put, sA, s0, sS]
      refine tk (i := 10) (v := ?_) (oi := ⟨some 50, .binOp .neq 3 (.tmp 48) (.tmp 49) 3, 4, "law.go:33", #[⟨8, .data⟩, ⟨9, .data⟩, ⟨7, .guard⟩], some (7, false)⟩) hS5 ?_ ?_
      rotate_left
      · intro W hSW
        go_simp
        try with_reducible rfl
      simp only [Act.put, sA, s0, sS]
      refine tk (i := 11) (v := ?_) (oi := ⟨some 51, .pick (.tmp 47) (.const (.bool true)) (.tmp 50), 4, "law.go:33", #[⟨7, .data⟩, ⟨10, .data⟩], none⟩) hS5 ?_ ?_
      rotate_left
      · intro W hSW
        go_simp
        try with_reducible rfl
      simp only [Act.put, sA, s0, sS]
      refine tk (i := 12) (v := ?_) (oi := ⟨some 52, .move (.tmp 51), 4, "law.go:33", #[⟨11, .data⟩, ⟨7, .chain⟩], none⟩) hS5 ?_ ?_
      rotate_left
      · intro W hSW
        go_simp
        try with_reducible rfl
      simp only [Act.put, sA, s0, sS]
      refine tk (i := 13) (v := ?_) (oi := ⟨some 53, .move (.tmp 10), 4, "law.go:33", #[⟨12, .guard⟩], some (12, false)⟩) hS5 ?_ ?_
      rotate_left
      · intro W hSW
        go_simp
        try with_reducible rfl
      simp only [Act.put, sA, s0, sS]
      refine tk (i := 14) (v := ?_) (oi := ⟨some 54, .move (.tmp 12), 4, "law.go:33", #[⟨12, .guard⟩], some (12, false)⟩) hS5 ?_ ?_
      rotate_left
      · intro W hSW
        go_simp
        try with_reducible rfl
      simp only [Act.put, sA, s0, sS]
      refine tk (i := 15) (v := ?_) (oi := ⟨some 55, .binOp .neq 4 (.tmp 53) (.tmp 54) 4, 4, "law.go:33", #[⟨13, .data⟩, ⟨14, .data⟩, ⟨12, .guard⟩], some (12, false)⟩) hS5 ?_ ?_
      rotate_left
      · intro W hSW
        go_simp
        try with_reducible rfl
      simp only [Act.put, sA, s0, sS]
      refine tk (i := 16) (v := ?_) (oi := ⟨some 56, .pick (.tmp 52) (.const (.bool true)) (.tmp 55), 4, "law.go:33", #[⟨12, .data⟩, ⟨15, .data⟩], none⟩) hS5 ?_ ?_
      rotate_left
      · intro W hSW
        go_simp
        try with_reducible rfl
      simp only [Act.put, sA, s0, sS]
      refine wpAnyL_done (by kernel_rfl) ?_ _
      have BF : Below w1.heap.size w1 W5 := below_then B4 B6 B4.size
      clear hS0 hS4 hS5 HSX b4 b5
      go_wp2_with fail
      exact ⟨⟨j + 1, by go_num, by omega, BF⟩, by simp [intOf]; omega⟩
    | false =>
      go_wp2_with fail
      refine wp_region_L (fun W => W.cell? ⟨F, 0, none⟩ = some (.slice ta f.terms.length tc) ∧ W.cell? ⟨F, 1, none⟩ = some (.slice na f.nons.length nc) ∧ W.cell? ⟨F, 2, none⟩ = some (.slice pa f.prods.length pc) ∧ W.cell? ⟨X, 0, none⟩ = some (.int .i64 x0) ∧ W.cell? ⟨X, 1, none⟩ = some (.int .i64 x1) ∧ W.cell? ⟨X, 2, none⟩ = some (.int .i64 x2)) 17 (by kernel_rfl) 17 rfl ?_
      refine tk (i := 0) (v := ?_) (oi := ⟨some 40, .load 25 (.tmp 3), 25, "law.go:33", #[], none⟩) hS0 ?_ ?_
      rotate_left
      · intro W hSW
        go_simp
        try with_reducible rfl
      simp only [Act.put, sA, s0, sS]
      refine tk (i := 1) (v := ?_) (oi := ⟨some 41, .load 30 (.tmp 8), 30, "law.go:33", #[], none⟩) hS0 ?_ ?_
      rotate_left
      · intro W hSW
        go_simp
        try with_reducible rfl
      simp only [Act.put, sA, s0, sS]
      refine tk (i := 3) (v := ?_) (oi := ⟨some 43, .load 25 (.tmp 3), 25, "law.go:33", #[], none⟩) hS0 ?_ ?_
      rotate_left
      · intro W hSW
        go_simp
        try with_reducible rfl
      simp only [Act.put, sA, s0, sS]
      refine tk (i := 4) (v := ?_) (oi := ⟨some 44, .load 30 (.tmp 8), 30, "law.go:33", #[], none⟩) hS0 ?_ ?_
      rotate_left
      · intro W hSW
        go_simp
        try with_reducible rfl
      simp only [Act.put, sA, s0, sS]
      refine wpAnyL_one' (i := 2) (o := ⟨some 42, .call ⟨.value (.func 12), #[.tmp 40, .tmp 41], #[25, 30]⟩, 4, "law.go:33", #[⟨0, .data⟩, ⟨1, .data⟩], none⟩) (by kernel_rfl) rfl rfl (fun K hK => ?_)
      go_simp
      refine N4.mono ?_
      rintro e W4 ⟨rfl, b4⟩
      have B5 : Below W3.heap.size W3 W4 := below_then (Below.refl _ _).drew b4 (Nat.le_refl _)
      have hS4 := HSX.out _ B5
      refine hK.out _ _ (fun _ => hS4) ?_
      clear hK N4
      refine wpAnyL_one' (i := 5) (o := ⟨some 45, .call ⟨.value (.func 13), #[.tmp 43, .tmp 44], #[25, 30]⟩, 4, "law.go:33", #[⟨3, .data⟩, ⟨4, .data⟩, ⟨2, .chain⟩], none⟩) (by kernel_rfl) rfl rfl (fun K hK => ?_)
      go_simp
      refine (N5.out _ B5).mono ?_
      rintro e W5 ⟨rfl, b5⟩
      have B6 : Below W3.heap.size W3 W5 := below_then B5 b5 B5.size
      have hS5 := HSX.out _ B6
      refine hK.out _ _ (fun _ => hS5) ?_
      clear hK N5
      refine tk (i := 6) (v := ?_) (oi := ⟨some 46, .binOp .neq 4 (.tmp 42) (.tmp 45) 4, 4, "law.go:33", #[⟨2, .data⟩, ⟨5, .data⟩], none⟩) hS5 ?_ ?_
      rotate_left
      · intro W hSW
        go_simp
        try with_reducible rfl
      simp only [Act.put, sA, s0, sS]
      refine tk (i := 7) (v := ?_) (oi := ⟨some 47, .move (.tmp 46), 4, "law.go:33", #[⟨6, .data⟩, ⟨5, .chain⟩], none⟩) hS5 ?_ ?_
      rotate_left
      · intro W hSW
        go_simp
        try with_reducible rfl
      simp only [Act.put, sA, s0, sS]
      refine tk (i := 8) (v := ?_) (oi := ⟨some 48, .move (.tmp 9), 3, "law.go:33", #[⟨7, .guard⟩], some (7, false)⟩) hS5 ?_ ?_
      rotate_left
      · intro W hSW
        go_simp
        try with_reducible rfl
      simp only [Act.put, sA, s0, sS]
      refine tk (i := 9) (v := ?_) (oi := ⟨some 49, .move (.tmp 11), 3, "law.go:33", #[⟨7, .guard⟩], some (7, false)⟩) hS5 ?_ ?_
      rotate_left
      · intro W hSW
        go_simp
        try with_reducible rfl
      simp only [Act.put, sA, s0, sS]
      refine tk (i := 10) (v := ?_) (oi := ⟨some 50, .binOp .neq 3 (.tmp 48) (.tmp 49) 3, 4, "law.go:33", #[⟨8, .data⟩, ⟨9, .data⟩, ⟨7, .guard⟩], some (7, false)⟩) hS5 ?_ ?_
      rotate_left
      · intro W hSW
        go_simp
        try with_reducible rfl
      simp only [Act.put, sA, s0, sS]
      refine tk (i := 11) (v := ?_) (oi := ⟨some 51, .pick (.tmp 47) (.const (.bool true)) (.tmp 50), 4, "law.go:33", #[⟨7, .data⟩, ⟨10, .data⟩], none⟩) hS5 ?_ ?_
      rotate_left
      · intro W hSW
        go_simp
        try with_reducible rfl
      simp only [Act.put, sA, s0, sS]
      refine tk (i := 12) (v := ?_) (oi := ⟨some 52, .move (.tmp 51), 4, "law.go:33", #[⟨11, .data⟩, ⟨7, .chain⟩], none⟩) hS5 ?_ ?_
      rotate_left
      · intro W hSW
        go_simp
        try with_reducible rfl
      simp only [Act.put, sA, s0, sS]
      refine tk (i := 13) (v := ?_) (oi := ⟨some 53, .move (.tmp 10), 4, "law.go:33", #[⟨12, .guard⟩], some (12, false)⟩) hS5 ?_ ?_
      rotate_left
      · intro W hSW
        go_simp
        try with_reducible rfl
      simp only [Act.put, sA, s0, sS]
      refine tk (i := 14) (v := ?_) (oi := ⟨some 54, .move (.tmp 12), 4, "law.go:33", #[⟨12, .guard⟩], some (12, false)⟩) hS5 ?_ ?_
      rotate_left
      · intro W hSW
        go_simp
        try with_reducible rfl
      simp only [Act.put, sA, s0, sS]
      refine tk (i := 15) (v := ?_) (oi := ⟨some 55, .binOp .neq 4 (.tmp 53) (.tmp 54) 4, 4, "law.go:33", #[⟨13, .data⟩, ⟨14, .data⟩, ⟨12, .guard⟩], some (12, false)⟩) hS5 ?_ ?_
      rotate_left
      · intro W hSW
        go_simp
        try with_reducible rfl
      simp only [Act.put, sA, s0, sS]
      refine tk (i := 16) (v := ?_) (oi := ⟨some 56, .pick (.tmp 52) (.const (.bool true)) (.tmp 55), 4, "law.go:33", #[⟨12, .data⟩, ⟨15, .data⟩], none⟩) hS5 ?_ ?_
      rotate_left
      · intro W hSW
        go_simp
        try with_reducible rfl
      simp only [Act.put, sA, s0, sS]
      refine wpAnyL_done (by kernel_rfl) ?_ _
      have BF : Below w1.heap.size w1 W5 := below_then B4 B6 B4.size
      clear hS0 hS4 hS5 HSX b4 b5
      go_wp2_with fail
      exact ⟨⟨j + 1, by go_num, by omega, BF⟩, by simp [intOf]; omega⟩
  · have hS0 := HX.out _ BR.drew
    have HZ : Hid (∀ W, Below w1.heap.size w1 W → (W.cell? ⟨F, 0, none⟩ = some (.slice ta f.terms.length tc) ∧ W.cell? ⟨F, 1, none⟩ = some (.slice na f.nons.length nc) ∧ W.cell? ⟨F, 2, none⟩ = some (.slice pa f.prods.length pc))) := HX.out
    have HP : Hid (FitP f) := fit_facts HFT.out
    clear HI hj HX H2 H3 H4 H5
    go_wp2_with fail
    refine wp_region_L (fun W => W.cell? ⟨F, 0, none⟩ = some (.slice ta f.terms.length tc) ∧ W.cell? ⟨F, 1, none⟩ = some (.slice na f.nons.length nc) ∧ W.cell? ⟨F, 2, none⟩ = some (.slice pa f.prods.length pc)) 29 (by kernel_rfl) 29 rfl ?_
    refine tk (i := 0) (v := ?_) (oi := ⟨some 58, .load 25 (.tmp 3), 25, "law.go:37", #[], none⟩) hS0 ?_ ?_
    rotate_left
    · intro W hSW
      go_simp
      try with_reducible rfl
    simp only [Act.put, sA, s0, sS]
    refine tk (i := 1) (v := ?_) (oi := ⟨some 59, .move (.tmp 1), 26, "law.go:37", #[], none⟩) hS0 ?_ ?_
    rotate_left
    · intro W hSW
      go_simp
      try with_reducible rfl
    simp only [Act.put, sA, s0, sS]
    refine tk (i := 3) (v := ?_) (oi := ⟨some 61, .load 25 (.tmp 3), 25, "law.go:37", #[], none⟩) hS0 ?_ ?_
    rotate_left
    · intro W hSW
      go_simp
      try with_reducible rfl
    simp only [Act.put, sA, s0, sS]
    refine tk (i := 4) (v := ?_) (oi := ⟨some 62, .move (.tmp 1), 26, "law.go:37", #[], none⟩) hS0 ?_ ?_
    rotate_left
    · intro W hSW
      go_simp
      try with_reducible rfl
    simp only [Act.put, sA, s0, sS]
    have BW0 : Below w1.heap.size w1 wr.drew := BR.drew
    refine wpAnyL_one' (i := 2) (o := ⟨some 60, .call ⟨.value (.func 15), #[.tmp 58, .tmp 59], #[25, 26]⟩, 26, "law.go:37", #[⟨0, .data⟩, ⟨1, .data⟩], none⟩) (by kernel_rfl) rfl rfl (fun KQ hK => ?_)
    go_simp
    refine (H6.out _ (HB.out _ BW0) HFT.out h50).mono ?_
    rintro e W1 ⟨v1, L1, rfl, q1, r1, _, b1⟩
    have BW1 : Below w1.heap.size w1 W1 := below_then BW0 b1 BW0.size
    have hSW1 := HZ.out _ BW1
    refine hK.out _ _ (fun _ => hSW1) ?_
    clear hK
    refine wpAnyL_one' (i := 5) (o := ⟨some 63, .call ⟨.value (.func 16), #[.tmp 61, .tmp 62], #[25, 26]⟩, 26, "law.go:37", #[⟨3, .data⟩, ⟨4, .data⟩, ⟨2, .chain⟩], none⟩) (by kernel_rfl) rfl rfl (fun KQ hK => ?_)
    go_simp
    refine (H7.out _ (HB.out _ BW1) HFT.out h50).mono ?_
    rintro e W2 ⟨v2, L2, rfl, q2, r2, _, b2⟩
    have BW2 : Below w1.heap.size w1 W2 := below_then BW1 b2 BW1.size
    have hSW2 := HZ.out _ BW2
    refine hK.out _ _ (fun _ => hSW2) ?_
    clear hK
    refine wpAnyL_one' (i := 6) (o := ⟨some 64, .call ⟨.value (.func 14), #[.tmp 60, .tmp 63], #[26, 26]⟩, 4, "law.go:37", #[⟨2, .data⟩, ⟨5, .data⟩, ⟨5, .chain⟩], none⟩) (by kernel_rfl) rfl rfl (fun KQ hK => ?_)
    go_simp
    refine (same_clos HP.out q1 q2 (r1.next b2) r2).mono ?_
    rintro e W3 ⟨rfl, mW3, rfl⟩
    have BW3 : Below w1.heap.size w1 (W2.drewN mW3) := below_drewN BW2 mW3
    have hSW3 := HZ.out _ BW3
    refine hK.out _ _ (fun _ => hSW3) ?_
    clear hK
    refine tk (i := 7) (v := ?_) (oi := ⟨some 65, .move (.tmp 64), 4, "law.go:37", #[⟨6, .data⟩, ⟨6, .chain⟩], none⟩) hSW3 ?_ ?_
    rotate_left
    · intro W hSW
      go_simp
      try with_reducible rfl
    simp only [Act.put, sA, s0, sS]
    refine tk (i := 8) (v := ?_) (oi := ⟨some 66, .load 25 (.tmp 3), 25, "law.go:37", #[⟨7, .guard⟩], some (7, true)⟩) hSW3 ?_ ?_
    rotate_left
    · intro W hSW
      go_simp
      try with_reducible rfl
    simp only [Act.put, sA, s0, sS]
    refine tk (i := 9) (v := ?_) (oi := ⟨some 67, .move (.tmp 1), 26, "law.go:37", #[⟨7, .guard⟩], some (7, true)⟩) hSW3 ?_ ?_
    rotate_left
    · intro W hSW
      go_simp
      try with_reducible rfl
    simp only [Act.put, sA, s0, sS]
    refine tk (i := 10) (v := ?_) (oi := ⟨some 68, .move (.tmp 2), 3, "law.go:37", #[⟨7, .guard⟩], some (7, true)⟩) hSW3 ?_ ?_
    rotate_left
    · intro W hSW
      go_simp
      try with_reducible rfl
    simp only [Act.put, sA, s0, sS]
    refine tk (i := 12) (v := ?_) (oi := ⟨some 70, .load 25 (.tmp 3), 25, "law.go:37", #[⟨7, .guard⟩], some (7, true)⟩) hSW3 ?_ ?_
    rotate_left
    · intro W hSW
      go_simp
      try with_reducible rfl
    simp only [Act.put, sA, s0, sS]
    refine tk (i := 13) (v := ?_) (oi := ⟨some 71, .move (.tmp 1), 26, "law.go:37", #[⟨7, .guard⟩], some (7, true)⟩) hSW3 ?_ ?_
    rotate_left
    · intro W hSW
      go_simp
      try with_reducible rfl
    simp only [Act.put, sA, s0, sS]
    refine tk (i := 14) (v := ?_) (oi := ⟨some 72, .move (.tmp 2), 3, "law.go:37", #[⟨7, .guard⟩], some (7, true)⟩) hSW3 ?_ ?_
    rotate_left
    · intro W hSW
      go_simp
      try with_reducible rfl
    simp only [Act.put, sA, s0, sS]
    refine wpAnyL_one' (i := 11) (o := ⟨some 69, .call ⟨.value (.func 17), #[.tmp 66, .tmp 67, .tmp 68], #[25, 26, 3]⟩, 26, "law.go:37", #[⟨8, .data⟩, ⟨9, .data⟩, ⟨10, .data⟩, ⟨7, .chain⟩, ⟨7, .guard⟩], some (7, true)⟩) (by kernel_rfl) rfl rfl (fun KQ hK => ?_)
    rw [if_pos (by rfl)]
    go_simp
    refine (H8.out _ (HB.out _ BW3) HFT.out h50).mono ?_
    rintro e W4 ⟨v3, L3, rfl, q3, r3, _, b3⟩
    have BW4 : Below w1.heap.size w1 W4 := below_then BW3 b3 BW3.size
    have hSW4 := HZ.out _ BW4
    refine hK.out _ _ (fun _ => hSW4) ?_
    clear hK
    refine wpAnyL_one' (i := 15) (o := ⟨some 73, .call ⟨.value (.func 18), #[.tmp 70, .tmp 71, .tmp 72], #[25, 26, 3]⟩, 26, "law.go:37", #[⟨12, .data⟩, ⟨13, .data⟩, ⟨14, .data⟩, ⟨11, .chain⟩, ⟨7, .guard⟩], some (7, true)⟩) (by kernel_rfl) rfl rfl (fun KQ hK => ?_)
    rw [if_pos (by rfl)]
    go_simp
    refine (H9.out _ (HB.out _ BW4) HFT.out h50).mono ?_
    rintro e W5 ⟨v4, L4, rfl, q4, r4, _, b4⟩
    have BW5 : Below w1.heap.size w1 W5 := below_then BW4 b4 BW4.size
    have hSW5 := HZ.out _ BW5
    refine hK.out _ _ (fun _ => hSW5) ?_
    clear hK
    refine wpAnyL_one' (i := 16) (o := ⟨some 74, .call ⟨.value (.func 14), #[.tmp 69, .tmp 73], #[26, 26]⟩, 4, "law.go:37", #[⟨11, .data⟩, ⟨15, .data⟩, ⟨15, .chain⟩, ⟨7, .guard⟩], some (7, true)⟩) (by kernel_rfl) rfl rfl (fun KQ hK => ?_)
    rw [if_pos (by rfl)]
    go_simp
    refine (same_clos HP.out q3 q4 (r3.next b4) r4).mono ?_
    rintro e W6 ⟨rfl, mW6, rfl⟩
    have BW6 : Below w1.heap.size w1 (W5.drewN mW6) := below_drewN BW5 mW6
    have hSW6 := HZ.out _ BW6
    refine hK.out _ _ (fun _ => hSW6) ?_
    clear hK
    refine tk (i := 17) (v := ?_) (oi := ⟨some 75, .pick (.tmp 65) (.tmp 74) (.const (.bool false)), 4, "law.go:37", #[⟨7, .data⟩, ⟨16, .data⟩], none⟩) hSW6 ?_ ?_
    rotate_left
    · intro W hSW
      go_simp
      try with_reducible rfl
    simp only [Act.put, sA, s0, sS]
    refine tk (i := 18) (v := ?_) (oi := ⟨some 76, .move (.tmp 75), 4, "law.go:37", #[⟨17, .data⟩, ⟨16, .chain⟩], none⟩) hSW6 ?_ ?_
    rotate_left
    · intro W hSW
      go_simp
      try with_reducible rfl
    simp only [Act.put, sA, s0, sS]
    refine tk (i := 19) (v := ?_) (oi := ⟨some 77, .load 25 (.tmp 3), 25, "law.go:37", #[⟨18, .guard⟩], some (18, true)⟩) hSW6 ?_ ?_
    rotate_left
    · intro W hSW
      go_simp
      try with_reducible rfl
    simp only [Act.put, sA, s0, sS]
    refine tk (i := 21) (v := ?_) (oi := ⟨some 79, .load 25 (.tmp 3), 25, "law.go:37", #[⟨18, .guard⟩], some (18, true)⟩) hSW6 ?_ ?_
    rotate_left
    · intro W hSW
      go_simp
      try with_reducible rfl
    simp only [Act.put, sA, s0, sS]
    refine wpAnyL_one' (i := 20) (o := ⟨some 78, .call ⟨.value (.func 19), #[.tmp 77], #[25]⟩, 26, "law.go:37", #[⟨19, .data⟩, ⟨18, .chain⟩, ⟨18, .guard⟩], some (18, true)⟩) (by kernel_rfl) rfl rfl (fun KQ hK => ?_)
    rw [if_pos (by rfl)]
    go_simp
    refine (H10.out _ (HB.out _ BW6) HFT.out).mono ?_
    rintro e W7 ⟨v5, L5, rfl, q5, r5, _, b5⟩
    have BW7 : Below w1.heap.size w1 W7 := below_then BW6 b5 BW6.size
    have hSW7 := HZ.out _ BW7
    refine hK.out _ _ (fun _ => hSW7) ?_
    clear hK
    refine wpAnyL_one' (i := 22) (o := ⟨some 80, .call ⟨.value (.func 20), #[.tmp 79], #[25]⟩, 26, "law.go:37", #[⟨21, .data⟩, ⟨20, .chain⟩, ⟨18, .guard⟩], some (18, true)⟩) (by kernel_rfl) rfl rfl (fun KQ hK => ?_)
    rw [if_pos (by rfl)]
    go_simp
    refine (H11.out _ (HB.out _ BW7) HFT.out).mono ?_
    rintro e W8 ⟨v6, L6, rfl, q6, r6, _, b6⟩
    have BW8 : Below w1.heap.size w1 W8 := below_then BW7 b6 BW7.size
    have hSW8 := HZ.out _ BW8
    refine hK.out _ _ (fun _ => hSW8) ?_
    clear hK
    refine wpAnyL_one' (i := 23) (o := ⟨some 81, .call ⟨.value (.func 14), #[.tmp 78, .tmp 80], #[26, 26]⟩, 4, "law.go:37", #[⟨20, .data⟩, ⟨22, .data⟩, ⟨22, .chain⟩, ⟨18, .guard⟩], some (18, true)⟩) (by kernel_rfl) rfl rfl (fun KQ hK => ?_)
    rw [if_pos (by rfl)]
    go_simp
    refine (same_clos HP.out q5 q6 (r5.next b6) r6).mono ?_
    rintro e W9 ⟨rfl, mW9, rfl⟩
    have BW9 : Below w1.heap.size w1 (W8.drewN mW9) := below_drewN BW8 mW9
    have hSW9 := HZ.out _ BW9
    refine hK.out _ _ (fun _ => hSW9) ?_
    clear hK
    refine tk (i := 24) (v := ?_) (oi := ⟨some 82, .pick (.tmp 76) (.tmp 81) (.const (.bool false)), 4, "law.go:37", #[⟨18, .data⟩, ⟨23, .data⟩], none⟩) hSW9 ?_ ?_
    rotate_left
    · intro W hSW
      go_simp
      try with_reducible rfl
    simp only [Act.put, sA, s0, sS]
    refine tk (i := 25) (v := ?_) (oi := ⟨some 83, .move (.tmp 82), 4, "law.go:37", #[⟨24, .data⟩, ⟨23, .chain⟩], none⟩) hSW9 ?_ ?_
    rotate_left
    · intro W hSW
      go_simp
      try with_reducible rfl
    simp only [Act.put, sA, s0, sS]
    refine wpAnyL_one' (i := 26) (o := ⟨some 84, .call ⟨.value (.func 9), #[], #[]⟩, 4, "law.go:37", #[⟨25, .chain⟩, ⟨25, .guard⟩], some (25, true)⟩) (by kernel_rfl) rfl rfl (fun KQ hK => ?_)
    rw [if_pos (by rfl)]
    go_simp
    refine (HAW.out _ (HB.out _ BW9)).mono ?_
    rintro e WA ⟨rfl, bA⟩
    have BWA : Below w1.heap.size w1 WA := below_then BW9 bA BW9.size
    have hSWA := HZ.out _ BWA
    refine hK.out _ _ (fun _ => hSWA) ?_
    clear hK
    refine tk (i := 27) (v := ?_) (oi := ⟨some 85, .pick (.tmp 83) (.tmp 84) (.const (.bool false)), 4, "law.go:37", #[⟨25, .data⟩, ⟨26, .data⟩], none⟩) hSWA ?_ ?_
    rotate_left
    · intro W hSW
      go_simp
      try with_reducible rfl
    simp only [Act.put, sA, s0, sS]
    refine tk (i := 28) (v := ?_) (oi := ⟨some 6, .assign (.tmp 85), 4, "law.go:37", #[⟨27, .data⟩, ⟨26, .chain⟩, ⟨0, .phase⟩, ⟨1, .phase⟩, ⟨2, .phase⟩, ⟨3, .phase⟩, ⟨4, .phase⟩, ⟨5, .phase⟩, ⟨6, .phase⟩, ⟨7, .phase⟩, ⟨8, .phase⟩, ⟨9, .phase⟩, ⟨10, .phase⟩, ⟨11, .phase⟩, ⟨12, .phase⟩, ⟨13, .phase⟩, ⟨14, .phase⟩, ⟨15, .phase⟩, ⟨16, .phase⟩, ⟨17, .phase⟩, ⟨18, .phase⟩, ⟨19, .phase⟩, ⟨20, .phase⟩, ⟨21, .phase⟩, ⟨22, .phase⟩, ⟨23, .phase⟩, ⟨24, .phase⟩, ⟨25, .phase⟩, ⟨26, .phase⟩, ⟨27, .phase⟩], none⟩) hSWA ?_ ?_
    rotate_left
    · intro W hSW
      go_simp
      try with_reducible rfl
    simp only [Act.put, sA, s0, sS]
    refine wpAnyL_done (by kernel_rfl) ?_ _
    have BF := HB.out _ BWA
    go_wp2_with fail
    go_ret
    exact ⟨rfl, BF⟩
end Go.Proofs.YtlaplmmicccbcaaGreatDoor
/- ItemWhole: all sets of items have with each one all to which it leads, none twice, and the first is the first one. -/
namespace Go.Proofs.YtlaplmmicccbcaaGreatDoor
open Go.RowKit

set_option maxRecDepth 100000 in
set_option maxHeartbeats 4000000 in
theorem itemWhole_any (f : Fl) (a : FlA) (w : World) (hf : FlAt f a w) (hT : Tb w) :
    Calls Tryz.prog 7 #[a.val f] w fun e w' => e = .returned (.bool true) ∧ Below w.heap.size w w' := by
  have h1 := fun W (hb : Below w.heap.size w W) => few11_any f a W (hf.next hb)
  have h2 := fun W (hb : Below w.heap.size w W) (ht : fitB f = true) => allP_any f a W (hf.next hb) ht (hT.next hb)
  have h3 := fun W (hb : Below w.heap.size w W) (ht : fitB f = true) => firstP_any f a W (hf.next hb) ht (hT.next hb)
  have h4 := fun (l : List Ir) (v : Value) (s : Int) W (hb : Below w.heap.size w W) (ht : fitB f = true) (hl : SlL l v W) (hll : l.length ≤ maxI) => gotoP_any f a l v s W (hf.next hb) ht (hT.next hb) hl (by unfold maxI at hll; omega)
  have HAW : Hid (∀ W, Below w.heap.size w W → Calls Tryz.prog 9 #[] W fun e w' => e = .returned (.bool true) ∧ Below W.heap.size W w') := fun W hb => awake11_any W (hT.next hb)
  obtain ⟨ta, tc, na, nc, pa, pc⟩ := a
  have X0 := FBox.new f ⟨ta, tc, na, nc, pa, pc⟩ 25 w
  have B0 : Below w.heap.size w (w.alloc (fobj f ⟨ta, tc, na, nc, pa, pc⟩ 25)) := (Below.refl _ _).alloc (Nat.le_refl _) _
  unfold fobj at X0 B0
  unfold FlA.val at h1 h2 h3 h4 ⊢
  simp only at *
  have H1 : Hid (∀ W, Below w.heap.size w W → Calls Tryz.prog 8 #[.agg #[.slice ta f.terms.length tc, .slice na f.nons.length nc, .slice pa f.prods.length pc]] W fun e w' => Few1 f W e w') := h1
  have H2 : Hid (∀ W, Below w.heap.size w W → fitB f = true → Calls Tryz.prog 21 #[.agg #[.slice ta f.terms.length tc, .slice na f.nons.length nc, .slice pa f.prods.length pc]] W fun e w' => Alls f W e w') := h2
  have H3 : Hid (∀ W, Below w.heap.size w W → fitB f = true → Calls Tryz.prog 19 #[.agg #[.slice ta f.terms.length tc, .slice na f.nons.length nc, .slice pa f.prods.length pc]] W fun e w' => ∃ v' L', e = .returned v' ∧ ClosI f (fun x => x ∈ begL f) L' ∧ SlL L' v' w' ∧ Apart W.heap.size v' ∧ Below W.heap.size W w') := h3
  have H4 : Hid (∀ (l : List Ir) (v : Value) (s : Int) W, Below w.heap.size w W → fitB f = true → SlL l v W → l.length ≤ maxI → Calls Tryz.prog 17 #[.agg #[.slice ta f.terms.length tc, .slice na f.nons.length nc, .slice pa f.prods.length pc], v, .int .i64 s] W fun e w' => ∃ v' L', e = .returned v' ∧ ClosI f (fun x => x ∈ movedL f l s) L' ∧ SlL L' v' w' ∧ Apart W.heap.size v' ∧ Below W.heap.size W w') := h4
  clear h1 h2 h3 h4 hf hT
  go_enter Tryz.func7, Tryz.ntmps7
  go_wp2_with fail
  obtain ⟨F, hF⟩ : ∃ F, w.heap.size = F := ⟨_, rfl⟩
  have HFF : Hid (w.heap.size = F) := hF
  rw [hF] at X0
  simp only [hF]
  clear hF
  generalize w.alloc (Obj.cells #[.slice ta f.terms.length tc, .slice na f.nons.length nc, .slice pa f.prods.length pc] 25) = w0 at *
  refine (H1.out _ B0).mono ?_
  rintro e w1 ⟨b, rfl, hfew, b1⟩
  have B1 := below_then B0 b1 B0.size
  have X1 := X0.next b1
  have HX1 : Hid (∀ W, Below w1.heap.size w1 W → (W.cell? ⟨F, 0, none⟩ = some (.slice ta f.terms.length tc) ∧ W.cell? ⟨F, 1, none⟩ = some (.slice na f.nons.length nc) ∧ W.cell? ⟨F, 2, none⟩ = some (.slice pa f.prods.length pc))) := fun W hb => (X1.next hb).2
  clear X0 B0 b1 H1 X1
  cases b with
  | false =>
    clear hfew H2 H3 H4
    go_wp2_with fail
    refine (HAW.out _ B1).mono ?_
    rintro e w2 ⟨rfl, b2⟩
    have B2 := below_then B1 b2 B1.size
    clear HAW b2
    go_wp2_with fail
    go_ret
    exact ⟨rfl, B2⟩
  | true =>
  have HFT : Hid (fitB f = true) := (hfew rfl).1
  have hn6 : f.terms.length + f.nons.length ≤ 16 := (hfew rfl).2.1
  obtain ⟨d0, d1, d2⟩ := HX1.out _ (Below.refl _ _)
  clear hfew
  go_wp2_with fail
  refine (H2.out _ B1 HFT.out).mono ?_
  rintro e w2 ⟨hA, b2⟩
  have B2 := below_then B1 b2 B1.size
  have HX : Hid (∀ W, Below w2.heap.size w2 W → (W.cell? ⟨F, 0, none⟩ = some (.slice ta f.terms.length tc) ∧ W.cell? ⟨F, 1, none⟩ = some (.slice na f.nons.length nc) ∧ W.cell? ⟨F, 2, none⟩ = some (.slice pa f.prods.length pc))) := fun W hb => HX1.out W (below_then b2 hb b2.size)
  have HB : Hid (∀ W, Below w2.heap.size w2 W → Below w.heap.size w W) := fun W hb => below_then B2 hb B2.size
  clear b2 H2 HX1 d0 d1 d2
  rcases hA with ⟨v', R', k1, rfl, k2, k3, k4⟩ | ⟨k1, rfl⟩
  case inr =>
    clear k1 H3 H4
    go_wp2_with fail
    refine (HAW.out _ B2).mono ?_
    rintro e w3 ⟨rfl, b3⟩
    have B3 := below_then B2 b3 B2.size
    clear HAW b3
    go_wp2_with fail
    go_ret
    exact ⟨rfl, B3⟩
  obtain ⟨ac, cap, rfl, hI, _, _⟩ := id k2
  obtain ⟨f1, f2, f3⟩ := all_facts k1
  by_cases h60 : R'.length ≤ 60
  case neg =>
    have hg : decide ((R'.length : Int) > 60) = true := decide_eq_true (by omega)
    have hg2 : (R'.length : Int) > 60 := by omega
    clear k1 k2 k4 hI f1 f2 f3 H3 H4
    go_wp2_with fail
    refine (HAW.out _ B2).mono ?_
    rintro e w3 ⟨rfl, b3⟩
    have B3 := below_then B2 b3 B2.size
    clear HAW b3
    go_wp2_with fail
    go_ret
    exact ⟨rfl, B3⟩
  have hg : decide ((R'.length : Int) > 60) = false := decide_eq_false (by omega)
  have hg2 : ¬ (R'.length : Int) > 60 := by omega
  have hpos : 0 < R'.length := (List.getElem?_eq_some_iff.1 f1).1
  have hz0 : ((R'.length : Int) == 0) = false := beq_eq_false_iff_ne.2 (by omega)
  obtain ⟨ab, ao, u0, ea, hab, c0, hsl0⟩ := hI 0 _ f1
  subst ea
  simp only [Nat.add_zero] at c0
  obtain ⟨ua, uc, rfl, _⟩ := id hsl0
  have HLL : Hid (∀ W, Below w2.heap.size w2 W → SlLL R' (.slice (some ⟨ab, ao, none⟩) R'.length cap) W) := fun W hb => k2.next hb
  have HF3 : Hid (R'.Nodup ∧ (∀ (j : Nat) (l : List Ir), R'[j]? = some l → ∀ s : Nat, s < f.n → gotoF f l s ≠ [] → gotoF f l s ∈ R') ∧ ∀ x ∈ R', x.length ≤ maxI) := ⟨f2, f3, k4⟩
  have HS6 : Hid (∀ W, Below w2.heap.size w2 W → (W.cell? ⟨F, 0, none⟩ = some (.slice ta f.terms.length tc) ∧ W.cell? ⟨F, 1, none⟩ = some (.slice na f.nons.length nc) ∧ W.cell? ⟨F, 2, none⟩ = some (.slice pa f.prods.length pc) ∧ W.cell? ⟨ab, ao, none⟩ = some (.slice ua (closF f (begL f)).length uc))) := fun W hb => by
    obtain ⟨g0, g1, g2⟩ := HX.out W hb
    exact ⟨g0, g1, g2, (hb.cell (p := ⟨ab, ao, none⟩) hab).trans c0⟩
  have HSL : Hid (∀ W, Below w2.heap.size w2 W → SlL (closF f (begL f)) (.slice ua (closF f (begL f)).length uc) W) := fun W hb => hsl0.next hb
  have HP : Hid (FitP f) := fit_facts HFT.out
  have hS0 := HS6.out _ (Below.refl _ w2).drew
  have hposI : (0 : Int) < R'.length := by omega
  clear k1 k2 k4 hI f1 f2 f3 c0 hsl0
  go_wp2_with fail
  refine wp_region_L (fun W => W.cell? ⟨F, 0, none⟩ = some (.slice ta f.terms.length tc) ∧ W.cell? ⟨F, 1, none⟩ = some (.slice na f.nons.length nc) ∧ W.cell? ⟨F, 2, none⟩ = some (.slice pa f.prods.length pc) ∧ W.cell? ⟨ab, ao, none⟩ = some (.slice ua (closF f (begL f)).length uc)) 12 (by kernel_rfl) 12 rfl ?_
  refine tk (i := 0) (v := ?_) (oi := ⟨some 39, .move (.tmp 3), 39, "law.go:111", #[], none⟩) hS0 ?_ ?_
  rotate_left
  · intro W hSW
    go_simp
    try with_reducible rfl
  simp only [Act.put, sA, s0, sS]
  refine tk (i := 1) (v := ?_) (oi := ⟨some 40, .call ⟨.builtin .len, #[.tmp 39], #[39]⟩, 3, "law.go:111", #[⟨0, .data⟩], none⟩) hS0 ?_ ?_
  rotate_left
  · intro W hSW
    go_simp
    try with_reducible rfl
  simp only [Act.put, sA, s0, sS]
  refine tk (i := 2) (v := ?_) (oi := ⟨some 41, .binOp .eql 3 (.tmp 40) (.const (.int .i64 0)) 3, 4, "law.go:111", #[⟨1, .data⟩], none⟩) hS0 ?_ ?_
  rotate_left
  · intro W hSW
    go_simp
    try with_reducible rfl
  simp only [Act.put, sA, s0, sS]
  refine tk (i := 3) (v := ?_) (oi := ⟨some 42, .move (.tmp 41), 4, "law.go:111", #[⟨2, .data⟩], none⟩) hS0 ?_ ?_
  rotate_left
  · intro W hSW
    go_simp
    try with_reducible rfl
  simp only [Act.put, sA, s0, sS]
  refine tk (i := 4) (v := ?_) (oi := ⟨some 43, .move (.tmp 3), 39, "law.go:111", #[⟨3, .guard⟩], some (3, false)⟩) hS0 ?_ ?_
  rotate_left
  · intro W hSW
    go_simp
    try with_reducible rfl
  simp only [Act.put, sA, s0, sS]
  refine tk (i := 5) (v := ?_) (oi := ⟨some 44, .indexAddr 39 (.tmp 43) (.const (.int .i64 0)), 0, "law.go:111", #[⟨4, .data⟩, ⟨3, .guard⟩], some (3, false)⟩) hS0 ?_ ?_
  rotate_left
  · intro W hSW
    go_simp
    try with_reducible rfl
  simp only [Act.put, sA, s0, sS]
  refine tk (i := 6) (v := ?_) (oi := ⟨some 45, .load 26 (.tmp 44), 26, "law.go:111", #[⟨5, .data⟩, ⟨3, .guard⟩], some (3, false)⟩) hS0 ?_ ?_
  rotate_left
  · intro W hSW
    go_simp
    try with_reducible rfl
  simp only [Act.put, sA, s0, sS]
  refine tk (i := 7) (v := ?_) (oi := ⟨some 46, .load 25 (.tmp 1), 25, "law.go:111", #[⟨3, .guard⟩], some (3, false)⟩) hS0 ?_ ?_
  rotate_left
  · intro W hSW
    go_simp
    try with_reducible rfl
  simp only [Act.put, sA, s0, sS]
  refine wpAnyL_one' (i := 8) (o := ⟨some 47, .call ⟨.value (.func 19), #[.tmp 46], #[25]⟩, 26, "law.go:111", #[⟨7, .data⟩, ⟨3, .chain⟩, ⟨3, .guard⟩], some (3, false)⟩) (by kernel_rfl) rfl rfl (fun KQ hK => ?_)
  rw [if_pos (by rfl)]
  go_simp
  refine (H3.out _ (HB.out _ (Below.refl w2.heap.size w2).drew) HFT.out).mono ?_
  rintro e w3 ⟨v3, L3, rfl, q3, r3, _, b3⟩
  have B3 : Below w2.heap.size w2 w3 := below_then (Below.refl _ _).drew b3 (Nat.le_refl _)
  have hS3 := HS6.out _ B3
  refine hK.out _ _ (fun _ => hS3) ?_
  clear hK
  refine wpAnyL_one' (i := 9) (o := ⟨some 48, .call ⟨.value (.func 14), #[.tmp 45, .tmp 47], #[26, 26]⟩, 4, "law.go:111", #[⟨6, .data⟩, ⟨8, .data⟩, ⟨8, .chain⟩, ⟨3, .guard⟩], some (3, false)⟩) (by kernel_rfl) rfl rfl (fun KQ hK => ?_)
  rw [if_pos (by rfl)]
  go_simp
  refine (same_clos HP.out (closF_spec HP.out (begL f)) q3 (HSL.out _ B3) r3).mono ?_
  rintro e w4 ⟨rfl, m4, rfl⟩
  have B4 : Below w2.heap.size w2 (w3.drewN m4) := below_drewN B3 m4
  have hS4 := HS6.out _ B4
  refine hK.out _ _ (fun _ => hS4) ?_
  clear hK
  refine tk (i := 10) (v := ?_) (oi := ⟨some 49, .unOp .not 4 (.tmp 48), 4, "law.go:111", #[⟨9, .data⟩, ⟨3, .guard⟩], some (3, false)⟩) hS4 ?_ ?_
  rotate_left
  · intro W hSW
    go_simp
    try with_reducible rfl
  simp only [Act.put, sA, s0, sS]
  refine tk (i := 11) (v := ?_) (oi := ⟨some 50, .pick (.tmp 42) (.const (.bool true)) (.tmp 49), 4, "law.go:111", #[⟨3, .data⟩, ⟨10, .data⟩], none⟩) hS4 ?_ ?_
  rotate_left
  · intro W hSW
    go_simp
    try with_reducible rfl
  simp only [Act.put, sA, s0, sS]
  refine wpAnyL_done (by kernel_rfl) ?_ _
  clear hS0 hS3 hS4 q3 r3 b3 HS6 HSL H3 B3
  generalize w3.drewN m4 = w5 at *
  go_wp2_with fail
  go_loopw [53] (fun i wr => ∃ (j : Nat), i = .int .i64 j ∧ j ≤ R'.length ∧ Below w2.heap.size w2 wr) (fun i _ => R'.length - (intOf i).toNat)
  case atStart => exact ⟨0, rfl, Nat.zero_le _, B4⟩
  case round =>
  clear B4
  obtain ⟨j, rfl, hj, BR⟩ := hrel
  by_cases hlt : j < R'.length
  case neg =>
    clear HLL HF3 H4 HX
    go_wp2_with fail
    refine (HAW.out _ (HB.out _ BR)).mono ?_
    rintro e w6 ⟨rfl, b6⟩
    have B6 := HB.out _ (below_then BR b6 BR.size)
    clear HAW b6
    go_wp2_with fail
    go_ret
    exact ⟨rfl, B6⟩
  obtain ⟨ac', cap', ea, hI, _, _⟩ := HLL.out _ BR
  cases ea
  obtain ⟨ab', ao', u, ea, hbl, c0, hsl⟩ := hI.at (Below.refl _ _) hlt
  cases ea
  have HLJ : Hid (R'[j]? = some R'[j]) := by show _ = _; simp [hlt]
  have hll : R'[j].length ≤ maxI := HF3.out.2.2 _ (by simp)
  have hfind := findI_nodup HF3.out.1 hlt
  have HFD := rfind_any R' R'[j] _ u _ (HLL.out _ BR) hsl (by omega) (fun x hx => by have := HF3.out.2.2 x hx; unfold maxI at this; omega) (by unfold maxI at hll; omega)
  rw [hfind] at HFD
  generalize R'[j] = l at *
  obtain ⟨la, lc, rfl, _⟩ := id hsl
  have HSL : Hid (∀ W, Below wr.heap.size wr W → SlL l (.slice la l.length lc) W) := fun W hb => hsl.next hb
  clear hsl hI hfind
  go_wp2_with fail
  refine HFD.mono ?_
  rintro e w6 ⟨rfl, b6⟩
  have B6 := below_then BR b6 BR.size
  obtain ⟨d0, d1, d2⟩ := HX.out _ B6
  have HSM : Hid (∀ W, Below w6.heap.size w6 W → SlL l (.slice la l.length lc) W) := fun W hb => HSL.out W (below_then b6 hb b6.size)
  clear HFD c0 b6 HSL
  generalize wr = wx at *
  go_wp2_with fail
  go_loopw [70] (fun i wr => ∃ (s : Nat), i = .int .i64 s ∧ s ≤ f.terms.length + f.nons.length ∧ Below w6.heap.size w6 wr) (fun i _ => f.terms.length + f.nons.length - (intOf i).toNat)
  case atStart => exact ⟨0, rfl, Nat.zero_le _, Below.refl _ _⟩
  case round =>
  obtain ⟨s, rfl, hs, BS⟩ := hrel
  by_cases hls : s < f.terms.length + f.nons.length
  case neg =>
    have hge : ¬ ((s : Int) < (f.terms.length : Int) + f.nons.length) := by omega
    have BF := below_then B6 BS B6.size
    clear HLL HF3 H4 HX HSM
    go_wp2_with fail
    exact ⟨⟨j + 1, by go_num, by omega, BF⟩, by simp [intOf]; omega⟩
  have hlsI : ((s : Int) < (f.terms.length : Int) + f.nons.length) := by omega
  have BT := below_then B6 BS B6.size
  obtain ⟨e0, e1, e2⟩ := HX.out _ BT
  have HG := H4.out l (.slice la l.length lc) (s : Int) _ (HB.out _ BT) HFT.out (HSM.out _ BS) hll
  clear d0 d1 d2
  go_wp2_with fail
  refine HG.mono ?_
  rintro e w7 ⟨v7, L7, rfl, q7, r7, _, b7⟩
  have B7 := below_then BT b7 BT.size
  have B7s := below_then BS b7 BS.size
  have hL7 : gotoF f l (s : Int) = L7 := closF_eq q7
  have hl7 := q7.len HP.out
  obtain ⟨ga, gc, rfl, _⟩ := id r7
  clear HG e0 e1 e2 q7
  by_cases hne : L7 = []
  · subst hne
    have h0 : decide (((([] : List Ir).length : Nat) : Int) > 0) = false := rfl
    simp only [List.length_nil] at *
    go_wp2_with fail
    exact ⟨⟨s + 1, by go_num, by omega, B7s⟩, by simp [intOf]; omega⟩
  · have hpos7 : 0 < L7.length := List.length_pos_iff.2 hne
    have hgt : decide ((L7.length : Int) > 0) = true := decide_eq_true (by omega)
    have hgt2 : (L7.length : Int) > 0 := by omega
    have hmem : L7 ∈ R' := hL7 ▸ HF3.out.2.1 j l HLJ.out s hls (by rw [hL7]; exact hne)
    have hfl : findI R' L7 ≠ R'.length := fun e => (findI_eq_len.1 e) hmem
    have hle := findI_le R' L7
    have HFD := rfind_any R' L7 _ _ _ (HLL.out _ B7) r7 (by omega) (fun x hx => by have := HF3.out.2.2 x hx; unfold maxI at this; omega) (by unfold maxI at hl7; omega)
    obtain ⟨fi, hfi⟩ : ∃ fi, findI R' L7 = fi := ⟨_, rfl⟩
    rw [hfi] at HFD hfl hle
    have hnq : ((fi : Int) == R'.length) = false := beq_eq_false_iff_ne.2 (by omega)
    clear hmem hfi r7 hL7
    go_wp2_with fail
    refine HFD.mono ?_
    rintro e w8 ⟨rfl, b8⟩
    have B8 := below_then B7s b8 B7s.size
    clear HFD b8
    go_wp2_with fail
    exact ⟨⟨s + 1, by go_num, by omega, B8⟩, by simp [intOf]; omega⟩
end Go.Proofs.YtlaplmmicccbcaaGreatDoor
/- A plain grammar, items, a production, and numbers among the arguments, opened: what they hold as cells. -/
namespace Go.Proofs.YtlaplmmicccbcaaGreatDoor
open Go.ChangeShapes Go.WideShapes Go.ChangeAt Go.RowKit Go.Joins Go.Deep

theorem own : ownKnob Tryz.prog.godebug = none := by kernel_rfl
theorem cellsItem : Tryz.prog.cellsOf 56 = 3 := by kernel_rfl
theorem cellsProd : Tryz.prog.cellsOf 54 = 3 := by kernel_rfl
theorem cellsFlat : Tryz.prog.cellsOf 25 = 3 := by kernel_rfl
theorem cellsInt : Tryz.prog.cellsOf 3 = 1 := by kernel_rfl
theorem cellsStr : Tryz.prog.cellsOf 9 = 1 := by kernel_rfl
theorem cellsItems : Tryz.prog.cellsOf 52 = 1 := by kernel_rfl
theorem cellsStrs : Tryz.prog.cellsOf 22 = 1 := by kernel_rfl
theorem cellsProds : Tryz.prog.cellsOf 23 = 1 := by kernel_rfl
theorem laidOut : laidOutB Tryz.prog = true := by kernel_rfl
theorem cell_plain {W : World} {a : Addr} {v : Value} (h : W.cell? a = some v) : ∃ b off, a = ⟨b, off, none⟩ := by
  obtain ⟨b, off, spot⟩ := a
  have hs : spot = none := by simpa using World.cell?_spot h
  subst hs
  exact ⟨b, off, rfl⟩
theorem i64_of {a : Int} (w : (Lit.int .i64 a).wf = true) : i64B a := by
  have := bounds_i64 w
  exact ⟨this.1, this.2⟩
theorem three_of : ∀ {l : List Value}, l.length = 3 → ∃ a b c, l = [a, b, c]
  | [a, b, c], _ => ⟨a, b, c, rfl⟩
theorem getR {α : Type} {l n : Nat} {q : Nat → α} (hl : l = n) {i : Nat} {x : α} (h : ((List.range l).map q)[i]? = some x) : i < n ∧ x = q i := by
  have hi : i < l := by
    have := (List.getElem?_eq_some_iff.1 h).1
    simpa using this
  rw [List.getElem?_map, List.getElem?_range hi] at h
  exact ⟨by omega, (Option.some.inj h).symm⟩

variable {H : Type} {enc : TypeId × Value → H} {W : World}

theorem weights_all {P : Program} {e : TypeId} : ∀ {l : List (DataW H)} {x : DataW H}, x ∈ l → ∀ n ∈ x.weights P e, n ∈ DataW.weightsAll P e l
  | d :: r, x, h, n, hn => by
    rw [DataW.weightsAll, List.mem_append]
    rcases List.mem_cons.1 h with rfl | h
    · exact .inl hn
    · exact .inr (weights_all h n hn)
/-- A slice's own weight, and those of its elements, out of what it weighs. -/
theorem weigh_slice {t e : TypeId} {l m : Nat} {D : Nat → DataW H} (hu : Tryz.prog.underlying t = some (.slice e)) (hlm : l ≤ m)
    (hw : ∀ n ∈ (DataW.slice ((List.range l).map D) ((List.range (m - l)).map fun j => D (l + j)) : DataW H).weights Tryz.prog t, n ≤ reachBytes) :
    m * Tryz.prog.bytesOf e ≤ reachBytes ∧ ∀ i, i < l → ∀ n ∈ (D i).weights Tryz.prog e, n ≤ reachBytes := by
  rw [DataW.weights, hu] at hw
  simp only at hw
  refine ⟨?_, fun i hi n hn => hw n ?_⟩
  · have := hw _ (List.mem_cons_self ..)
    simp only [List.length_map, List.length_range] at this
    rw [show l + (m - l) = m by omega] at this
    exact this
  · refine List.mem_cons_of_mem _ (List.mem_append.2 (.inl (weights_all (List.mem_map.2 ⟨i, List.mem_range.2 hi, rfl⟩) n hn)))
theorem bytesItem : Tryz.prog.bytesOf 56 = 40 := by kernel_rfl
theorem bytesProd : Tryz.prog.bytesOf 54 = 40 := by kernel_rfl
theorem bytesStr : Tryz.prog.bytesOf 9 = 16 := by kernel_rfl

theorem open_nums {fuel : Nat} {sp : Nat → Bool} {cs : List Value} {x : DataW H × List MemPlace} (hf : DataW.trod enc Tryz.prog W 0 sp true fuel 47 cs = some x) :
    ∃ (es : List Int) (v : Value), cs = [v] ∧ SlI es v W := by
  rcases open_slice Tryz.underlying47 hf with ⟨hcs, _⟩ | ⟨a, l, c, m, n, D, Pl, hcs, _, hl, hmx, hmm, hx, hel⟩
  · exact ⟨[], _, hcs, none, 0, rfl, RowAt.nil _ _ _, fun _ => rfl, Nat.le_refl _, by simp⟩
  · have hlm : l ≤ m := by rw [hmm]; split <;> omega
    have each : ∀ i, i < l → ∃ q : Int, W.cell? (a.add i) = some (.int .i64 q) ∧ i64B q := by
      intro i hi
      obtain ⟨cs', h1, h2⟩ := hel i (by omega)
      rw [cellsInt] at h1
      obtain ⟨_, hlen', hcell⟩ := World.cells?_some h1
      obtain ⟨x0, e0, _, w0⟩ := DataW.trod_int Tryz.underlying3 h2
      subst e0
      have q0 := hcell 0 (by omega)
      rw [add_add] at q0
      exact ⟨x0, by simpa using q0, i64_of w0⟩
    obtain ⟨q, hq⟩ := choose_lt each
    refine ⟨(List.range l).map q, _, hcs, some a, c, by simp, fun i r hr => ?_, (fun h => by cases h), by simpa using hl, fun y hy => ?_⟩
    · obtain ⟨hi, rfl⟩ := getR rfl hr
      have c0 := (hq i hi).1
      have hc' : W.cell? a = some (.int .i64 (q 0)) := by simpa [Addr.add] using (hq 0 (by omega)).1
      obtain ⟨b, off, rfl⟩ := cell_plain hc'
      rw [add_plain] at c0
      exact ⟨b, off, rfl, World.block_lt_of_cell? W _ hc', c0⟩
    · obtain ⟨i, hi, rfl⟩ := List.mem_map.1 hy
      exact (hq i (List.mem_range.1 hi)).2

theorem open_texts {fuel : Nat} {cs : List Value} {x : DataW H × List MemPlace} (hf : DataW.trod enc Tryz.prog W 0 (fun _ => true) true fuel 22 cs = some x) (hw : ∀ n ∈ x.1.weights Tryz.prog 22, n ≤ reachBytes) :
    ∃ (es : List ByteArray) (ao : Option Addr) (cap : Nat), cs = [.slice ao es.length cap] ∧ RowAt Value.string es ao W ∧ es.length ≤ 140737488351232 := by
  rcases open_slice Tryz.underlying22 hf with ⟨hcs, _⟩ | ⟨a, l, c, m, n, D, Pl, hcs, _, hl, hmx, hmm, hx, hel⟩
  · exact ⟨[], none, 0, hcs, RowAt.nil _ _ _, by simp⟩
  · have hlm : l ≤ m := by rw [hmm]; split <;> omega
    rw [hx] at hw
    have hwt := weigh_slice Tryz.underlying22 hlm hw
    rw [bytesStr] at hwt
    unfold reachBytes at hwt
    have each : ∀ i, i < l → ∃ q : ByteArray, W.cell? (a.add i) = some (.string q) := by
      intro i hi
      obtain ⟨cs', h1, h2⟩ := hel i (by omega)
      rw [cellsStr] at h1
      obtain ⟨_, hlen', hcell⟩ := World.cells?_some h1
      obtain ⟨s, e0, _⟩ := DataW.trod_string Tryz.underlying9 h2
      subst e0
      have q0 := hcell 0 (by omega)
      rw [add_add] at q0
      exact ⟨s, by simpa using q0⟩
    obtain ⟨q, hq⟩ := choose_lt each
    refine ⟨(List.range l).map q, some a, c, by simpa using hcs, fun i r hr => ?_, by simp; omega⟩
    obtain ⟨hi, rfl⟩ := getR rfl hr
    have c0 := hq i hi
    have hc' : W.cell? a = some (.string (q 0)) := by simpa [Addr.add] using hq 0 (by omega)
    obtain ⟨b, off, rfl⟩ := cell_plain hc'
    rw [add_plain] at c0
    exact ⟨b, off, rfl, World.block_lt_of_cell? W _ hc', c0⟩

theorem open_items {fuel : Nat} {cs : List Value} {x : DataW H × List MemPlace} (hf : DataW.trod enc Tryz.prog W 0 (fun _ => true) true fuel 52 cs = some x) (hw : ∀ n ∈ x.1.weights Tryz.prog 52, n ≤ reachBytes) :
    ∃ (es : List It) (v : Value), cs = [v] ∧ SlT es v W := by
  rcases open_slice Tryz.underlying52 hf with ⟨hcs, _⟩ | ⟨a, l, c, m, n, D, Pl, hcs, _, hl, hmx, hmm, hx, hel⟩
  · exact ⟨[], _, hcs, none, 0, rfl, fun i x hi => by simp at hi, fun _ => rfl, Nat.le_refl _, by omega⟩
  · have hm : m = c := by simpa using hmm
    subst hm
    rw [hx] at hw
    have hwt := weigh_slice Tryz.underlying52 hl hw
    rw [bytesItem] at hwt
    unfold reachBytes at hwt
    have each : ∀ i, i < l → ∃ q : It, W.cell? (a.add (i * 3)) = some (.int .i64 q.sym) ∧ W.cell? (a.add (i * 3 + 1)) = some (.string q.fld) ∧ W.cell? (a.add (i * 3 + 2)) = some (.string q.als) ∧ i64B q.sym ∧ q.fld.size ≤ 9223372036854775807 ∧ q.als.size ≤ 9223372036854775807 := by
      intro i hi
      obtain ⟨cs', h1, h2⟩ := hel i (by omega)
      rw [cellsItem] at h1
      obtain ⟨_, hlen', hcell⟩ := World.cells?_some h1
      obtain ⟨y0, y1, y2, k, hy, _, g0, g1, g2⟩ := trod_struct3 Tryz.underlying56 h2
      obtain ⟨v0, v1, v2, rfl⟩ := three_of hlen'
      simp [cellsInt, cellsStr] at g0 g1 g2
      obtain ⟨x0, e0, _, w0⟩ := DataW.trod_int Tryz.underlying3 g0
      obtain ⟨s1, e1, _, w1⟩ := DataW.trod_string Tryz.underlying9 g1
      obtain ⟨s2, e2, _, w2⟩ := DataW.trod_string Tryz.underlying9 g2
      simp at e0 e1 e2
      subst e0 e1 e2
      have q0 := hcell 0 (by omega)
      have q1 := hcell 1 (by omega)
      have q2 := hcell 2 (by omega)
      rw [add_add] at q0 q1 q2
      unfold maxLen at w1 w2
      exact ⟨⟨x0, s1, s2⟩, by simpa using q0, by simpa using q1, by simpa using q2, i64_of w0, w1, w2⟩
    haveI : Inhabited It := ⟨⟨0, ByteArray.empty, ByteArray.empty⟩⟩
    obtain ⟨q, hq⟩ := choose_lt each
    refine ⟨(List.range l).map q, _, hcs, some a, m, by simp, fun i r hr => ?_, (fun h => by cases h), by simpa using hl, by omega⟩
    obtain ⟨hi, rfl⟩ := getR rfl hr
    obtain ⟨c0, c1, c2, c3⟩ := hq i hi
    have hc' : W.cell? a = some (.int .i64 (q 0).sym) := by simpa [Addr.add] using (hq 0 (by omega)).1
    obtain ⟨b, off, rfl⟩ := cell_plain hc'
    rw [add_plain] at c0 c1 c2
    exact ⟨b, off, rfl, World.block_lt_of_cell? W _ hc', c0, c1, c2, c3⟩

set_option maxRecDepth 100000 in
theorem open_prods {fuel : Nat} {cs : List Value} {x : DataW H × List MemPlace} (hf : DataW.trod enc Tryz.prog W 0 (fun _ => true) true fuel 23 cs = some x) (hw : ∀ n ∈ x.1.weights Tryz.prog 23, n ≤ reachBytes) :
    ∃ (es : List Pr) (ao : Option Addr) (cap : Nat), cs = [.slice ao es.length cap] ∧ PrsAt es ao W ∧ es.length ≤ 140737488351232 ∧ es.length ≤ cap ∧ (ao = none → cap = 0) := by
  rcases open_slice Tryz.underlying23 hf with ⟨hcs, _⟩ | ⟨a, l, c, m, n, D, Pl, hcs, _, hl, hmx, hmm, hx, hel⟩
  · exact ⟨[], none, 0, hcs, fun i x hi => by simp at hi, by simp, by simp, fun _ => rfl⟩
  · have hm : m = c := by simpa using hmm
    subst hm
    rw [hx] at hw
    have hwt := weigh_slice Tryz.underlying23 hl hw
    rw [bytesProd] at hwt
    have hb := hwt.1
    unfold reachBytes at hb
    have each : ∀ i, i < l → ∃ q : Pr × Value, W.cell? (a.add (i * 3)) = some (.int .i64 q.1.left) ∧ W.cell? (a.add (i * 3 + 1)) = some q.2 ∧ W.cell? (a.add (i * 3 + 2)) = some (.int .i64 q.1.prec) ∧ SlT q.1.right q.2 W ∧ i64B q.1.left ∧ i64B q.1.prec := by
      intro i hi
      obtain ⟨cs', h1, h2⟩ := hel i (by omega)
      rw [cellsProd] at h1
      obtain ⟨_, hlen', hcell⟩ := World.cells?_some h1
      obtain ⟨y0, y1, y2, k, hy, _, g0, g1, g2⟩ := trod_struct3 Tryz.underlying54 h2
      have hwi := hwt.2 i hi
      have hy1 : D i = .agg [y0.1, y1.1, y2.1] := by have := congrArg Prod.fst hy; exact this
      rw [hy1, DataW.weights, Tryz.underlying54] at hwi
      obtain ⟨v0, v1, v2, rfl⟩ := three_of hlen'
      simp [cellsInt, cellsItems] at g0 g1 g2
      obtain ⟨x0, e0, _, w0⟩ := DataW.trod_int Tryz.underlying3 g0
      obtain ⟨x2, e2, _, w2⟩ := DataW.trod_int Tryz.underlying3 g2
      obtain ⟨its, vv, e1, hT⟩ := open_items g1 (fun n hn => hwi n (by simp [DataW.weightsEach, hn]))
      simp at e0 e1 e2
      subst e0 e1 e2
      have q0 := hcell 0 (by omega)
      have q1 := hcell 1 (by omega)
      have q2 := hcell 2 (by omega)
      rw [add_add] at q0 q1 q2
      exact ⟨(⟨x0, its, x2⟩, v1), by simpa using q0, by simpa using q1, by simpa using q2, hT, i64_of w0, i64_of w2⟩
    haveI : Inhabited (Pr × Value) := ⟨(⟨0, [], 0⟩, .bool false)⟩
    obtain ⟨q, hq⟩ := choose_lt each
    refine ⟨(List.range l).map fun i => (q i).1, some a, m, by simpa using hcs, fun i r hr => ?_, by simp; omega, by simpa using hl, (fun h => by cases h)⟩
    obtain ⟨hi, rfl⟩ := getR rfl hr
    obtain ⟨c0, c1, c2, c3⟩ := hq i hi
    have hc' : W.cell? a = some (.int .i64 (q 0).1.left) := by simpa [Addr.add] using (hq 0 (by omega)).1
    obtain ⟨b, off, rfl⟩ := cell_plain hc'
    rw [add_plain] at c0 c1 c2
    exact ⟨b, off, _, rfl, World.block_lt_of_cell? W _ hc', c0, c1, c2, c3⟩

set_option maxRecDepth 100000 in
theorem open_flat {r : Reach} {b0 : Nat} {v : Value} {d : DataW H} {p : List MemPlace} (hv : Value.okWide Tryz.prog W r b0 25 v) (h : DataW.Trod enc Tryz.prog W 0 (fun _ => true) true 25 v d p) (hw : ∀ n ∈ d.weights Tryz.prog 25, n ≤ reachBytes) :
    ∃ f a, v = FlA.val a f ∧ FlAt f a W := by
  obtain ⟨v0, v1, v2, y0, y1, y2, n, rfl, rfl, _, g0, g1, g2⟩ := open_agg3 Tryz.underlying25 (by kernel_rfl) cellsFlat hv h
  rw [DataW.weights, Tryz.underlying25] at hw
  obtain ⟨ts, ta, tc, e0, hT, lt⟩ := open_texts g0 (fun n hn => hw n (by simp [DataW.weightsEach, hn]))
  obtain ⟨ns, na, nc, e1, hN, ln⟩ := open_texts g1 (fun n hn => hw n (by simp [DataW.weightsEach, hn]))
  obtain ⟨ps, pa, pc, e2, hP, lp, lc, ln0⟩ := open_prods g2 (fun n hn => hw n (by simp [DataW.weightsEach, hn]))
  simp at e0 e1 e2
  subst e0 e1 e2
  exact ⟨⟨ts, ns, ps⟩, ⟨ta, tc, na, nc, pa, pc⟩, rfl, hT, hN, hP, lt, ln, lp, lc, ln0⟩
set_option maxRecDepth 100000 in
theorem open_prod {r : Reach} {b0 : Nat} {v : Value} {d : DataW H} {p : List MemPlace} (hv : Value.okWide Tryz.prog W r b0 54 v) (h : DataW.Trod enc Tryz.prog W 0 (fun _ => true) true 54 v d p) (hw : ∀ n ∈ d.weights Tryz.prog 54, n ≤ reachBytes) :
    ∃ (q : Pr) (u : Value), v = .agg #[.int .i64 q.left, u, .int .i64 q.prec] ∧ SlT q.right u W ∧ i64B q.left ∧ i64B q.prec := by
  obtain ⟨v0, v1, v2, y0, y1, y2, n, rfl, rfl, _, g0, g1, g2⟩ := open_agg3 Tryz.underlying54 (by kernel_rfl) cellsProd hv h
  rw [DataW.weights, Tryz.underlying54] at hw
  obtain ⟨x0, e0, _, w0⟩ := DataW.trod_int Tryz.underlying3 g0
  obtain ⟨x2, e2, _, w2⟩ := DataW.trod_int Tryz.underlying3 g2
  obtain ⟨its, vv, e1, hT⟩ := open_items g1 (fun n hn => hw n (by simp [DataW.weightsEach, hn]))
  simp at e0 e1 e2
  subst e0 e1 e2
  exact ⟨⟨x0, its, x2⟩, v1, rfl, hT, i64_of w0, i64_of w2⟩
end Go.Proofs.YtlaplmmicccbcaaGreatDoor
/- Items among the arguments, opened. -/
namespace Go.Proofs.YtlaplmmicccbcaaGreatDoor
open Go.ChangeShapes Go.WideShapes Go.ChangeAt Go.RowKit Go.Joins Go.Deep

variable {H : Type} {enc : TypeId × Value → H} {W : World}
theorem cellsLr : Tryz.prog.cellsOf 30 = 3 := by kernel_rfl
theorem bytesLr : Tryz.prog.bytesOf 30 = 24 := by kernel_rfl
theorem open_irs {fuel : Nat} {cs : List Value} {x : DataW H × List MemPlace} (hf : DataW.trod enc Tryz.prog W 0 (fun _ => true) true fuel 26 cs = some x) :
    ∃ (es : List Ir) (v : Value), cs = [v] ∧ SlL es v W := by
  rcases open_slice Tryz.underlying26 hf with ⟨hcs, _⟩ | ⟨a, l, c, m, n, D, Pl, hcs, _, hl, hmx, hmm, hx, hel⟩
  · exact ⟨[], _, hcs, none, 0, rfl, fun i x hi => by simp at hi, fun _ => rfl, Nat.le_refl _⟩
  · have hm : m = c := by simpa using hmm
    subst hm
    have each : ∀ i, i < l → ∃ q : Ir, W.cell? (a.add (i * 3)) = some (.int .i64 q.1) ∧ W.cell? (a.add (i * 3 + 1)) = some (.int .i64 q.2.1) ∧ W.cell? (a.add (i * 3 + 2)) = some (.int .i64 q.2.2) ∧ okR q := by
      intro i hi
      obtain ⟨cs', h1, h2⟩ := hel i (by omega)
      rw [cellsLr] at h1
      obtain ⟨_, hlen', hcell⟩ := World.cells?_some h1
      obtain ⟨y0, y1, y2, k, hy, _, g0, g1, g2⟩ := trod_struct3 Tryz.underlying30 h2
      obtain ⟨v0, v1, v2, rfl⟩ := three_of hlen'
      simp [cellsInt] at g0 g1 g2
      obtain ⟨x0, e0, _, w0⟩ := DataW.trod_int Tryz.underlying3 g0
      obtain ⟨x1, e1, _, w1⟩ := DataW.trod_int Tryz.underlying3 g1
      obtain ⟨x2, e2, _, w2⟩ := DataW.trod_int Tryz.underlying3 g2
      simp at e0 e1 e2
      subst e0 e1 e2
      have q0 := hcell 0 (by omega)
      have q1 := hcell 1 (by omega)
      have q2 := hcell 2 (by omega)
      rw [add_add] at q0 q1 q2
      exact ⟨(x0, x1, x2), by simpa using q0, by simpa using q1, by simpa using q2, i64_of w0, i64_of w1, i64_of w2⟩
    haveI : Inhabited Ir := ⟨(0, 0, 0)⟩
    obtain ⟨q, hq⟩ := choose_lt each
    refine ⟨(List.range l).map q, _, hcs, some a, m, by simp, fun i r hr => ?_, (fun h => by cases h), by simpa using hl⟩
    obtain ⟨hi, rfl⟩ := getR rfl hr
    obtain ⟨c0, c1, c2, c3⟩ := hq i hi
    have hc' : W.cell? a = some (.int .i64 (q 0).1) := by simpa [Addr.add] using (hq 0 (by omega)).1
    obtain ⟨b, off, rfl⟩ := cell_plain hc'
    rw [add_plain] at c0 c1 c2
    exact ⟨b, off, rfl, World.block_lt_of_cell? W _ hc', c0, c1, c2, c3⟩
end Go.Proofs.YtlaplmmicccbcaaGreatDoor
/- The listed variable (the table of the trailing zeros), as the cards tie it. -/
namespace Go.Proofs.YtlaplmmicccbcaaGreatDoor
open Go.ChangeShapes Go.WideShapes Go.ChangeAt Go.RowKit Go.Joins Go.Deep

abbrev laidL : List (String × DataW Unit) := [("math/bits.deBruijn64tab", Rows.laid_math_bits_deBruijn64tab)]
theorem Tryz.gTab : Tryz.prog.globalNamed "math/bits.deBruijn64tab" = some 0 := by kernel_rfl
theorem tTab : (Tryz.prog.globals[0]?).map (·.type) = some 154 := by kernel_rfl
theorem tb_of_laid {W : World} (h : laidMetH Tryz.prog laidL W) : Tb W := by
  rw [MakeChecks.laidMetH_plain _ _ _ (by kernel_rfl)] at h
  have htab := Lib.tabIs_of_head (k := .u8) (zs := Lib.deBruijn64tab.map (fun n : Nat => (n : Int))) Tryz.gTab tTab Tryz.underlying154 Tryz.underlying5 (by kernel_rfl) (by kernel_rfl) h
  unfold Lib.TabIs at htab
  have key : TabAt 0 Lib.deBruijn64tab W := fun j hj => by
    have := World.var?_cell Tryz.gTab htab j
    rw [this]
    simp [hj]
  exact ⟨key, World.block_lt_of_cell? W _ (key 0 (by decide))⟩
theorem door_met (os : Os) (args : Array Value) : laidMetH Tryz.prog laidL ((World.doorLaid Tryz.prog 200 os).forCall (fun _ _ => 0) ⟨#[], args, []⟩).memory :=
  laidMetH_of_parts3 (fuel := 8) (laidMet_of_run' 8 (by kernel_rfl) (by kernel_rfl)) (by kernel_rfl) (by kernel_rfl)
end Go.Proofs.YtlaplmmicccbcaaGreatDoor
