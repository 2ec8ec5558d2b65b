/- The law SetsTells, by what the program's functions tell. -/
import Derived.Test.YtckbfiigbckmeaaDoorLawSmall
import Derived.Test.YtckbfiigbckmeaaDoorRefUse
import Derived.Test.YtckbfiigbckmeaaDoorSetList
namespace Go.Proofs.YtckbfiigbckmeaaDoor
open Go.RowKit

def HoldB (base : Nat → Prop) (f : Fl) (v : Value) (W : World) : Prop := ∃ L, GivesB base f.gr f.n L ∧ SlB L v W
def HoldR (P : Nat → Int → Prop) (f : Fl) (v : Value) (W : World) : Prop := ∃ R, GivesR P f.n R ∧ SlR R v W
def HoldL (P : Int → Prop) (v : Value) (W : World) : Prop := ∃ L, Rising L ∧ (∀ t, t ∈ L ↔ P t) ∧ SlI L v W
theorem HoldB.next {base f v W W'} (h : HoldB base f v W) (hb : Below W.heap.size W W') : HoldB base f v W' := by obtain ⟨L, h1, h2⟩ := h; exact ⟨L, h1, h2.next hb⟩
theorem HoldR.next {P f v W W'} (h : HoldR P f v W) (hb : Below W.heap.size W W') : HoldR P f v W' := by obtain ⟨L, h1, h2⟩ := h; exact ⟨L, h1, h2.next hb⟩
theorem HoldL.next {P v W W'} (h : HoldL P v W) (hb : Below W.heap.size W W') : HoldL P v W' := by obtain ⟨L, h1, h2, h3⟩ := h; exact ⟨L, h1, h2, h3.next hb⟩
def UseP (f : Fl) : Nat → Prop := fun s => s < f.terms.length
def NoP : Nat → Prop := fun _ => False
/-- One value comes back, of which this holds. -/
def Told (C : Value → World → Prop) (w : World) (e : Ending) (w' : World) : Prop := ∃ v, e = .returned v ∧ C v w' ∧ Below w.heap.size w w'

/-- What the program's functions tell, of every fit plain grammar. -/
structure SetsOk : Prop where
  pE : ∀ (f : Fl) (a : FlA) (w : World), FlAt f a w → FitP f → Calls Tryd.prog 10 #[a.val f] w fun e w' => Told (HoldB NoP f) w e w'
  pU : ∀ (f : Fl) (a : FlA) (w : World), FlAt f a w → FitP f → Calls Tryd.prog 12 #[a.val f] w fun e w' => Told (HoldB (UseP f) f) w e w'
  pF : ∀ (f : Fl) (a : FlA) (w : World), FlAt f a w → FitP f → Tb w → Calls Tryd.prog 15 #[a.val f] w fun e w' => Told (HoldR (FstP f) f) w e w'
  pO : ∀ (f : Fl) (a : FlA) (w : World), FlAt f a w → FitP f → Tb w → Calls Tryd.prog 17 #[a.val f] w fun e w' => Told (HoldR (FolP f) f) w e w'
  pA : ∀ (f : Fl) (a : FlA) (l : List It) (bh : List Int) (vl vb : Value) (w : World), FlAt f a w → FitP f → Tb w → SlT l vl w → SlI bh vb w → l.length ≤ 1000 → bh.length ≤ 1000 → Calls Tryd.prog 20 #[a.val f, vl, vb] w fun e w' => Told (HoldL (AheadP f l bh)) w e w'
/-- awake holds wherever it is played. -/
def AwakeOk : Prop := ∀ W, Tb W → Calls Tryd.prog 8 #[] W fun e w' => e = .returned (.bool true) ∧ Below W.heap.size W w'

/-! The document's own, told so. -/
theorem rE (f : Fl) (a : FlA) (w : World) (h : FlAt f a w) (hp : FitP f) : Calls Tryd.prog 11 #[a.val f] w fun e w' => Told (HoldB NoP f) w e w' :=
  (rempty_any f a w h hp).mono fun _ _ ⟨v, L, h1, h2, h3, _, h5⟩ => ⟨v, h1, ⟨L, h2, h3⟩, h5⟩
theorem rU (f : Fl) (a : FlA) (w : World) (h : FlAt f a w) (hp : FitP f) : Calls Tryd.prog 13 #[a.val f] w fun e w' => Told (HoldB (UseP f) f) w e w' :=
  (ruseful_any f a w h hp).mono fun _ _ ⟨v, L, h1, h2, h3, _, h5⟩ => ⟨v, h1, ⟨L, h2, h3⟩, h5⟩
theorem rF (f : Fl) (a : FlA) (w : World) (h : FlAt f a w) (hp : FitP f) : Calls Tryd.prog 16 #[a.val f] w fun e w' => Told (HoldR (FstP f) f) w e w' :=
  (rfirst_any f a w h hp).mono fun _ _ ⟨v, R, h1, h2, h3, h5⟩ => ⟨v, h1, ⟨R, h2, h3.slR⟩, h5⟩
theorem rO (f : Fl) (a : FlA) (w : World) (h : FlAt f a w) (hp : FitP f) : Calls Tryd.prog 18 #[a.val f] w fun e w' => Told (HoldR (FolP f) f) w e w' :=
  (rfollow_any f a w h hp).mono fun _ _ ⟨v, R, h1, h2, h3, h5⟩ => ⟨v, h1, ⟨R, h2, h3.slR⟩, h5⟩
theorem rA (f : Fl) (a : FlA) (l : List It) (bh : List Int) (vl vb : Value) (w : World) (h : FlAt f a w) (hp : FitP f) (h1 : SlT l vl w) (h2 : SlI bh vb w) (h3 : l.length ≤ 1000) (h4 : bh.length ≤ 1000) :
    Calls Tryd.prog 21 #[a.val f, vl, vb] w fun e w' => Told (HoldL (AheadP f l bh)) w e w' :=
  (rAhead_any f a l bh vl vb w h hp h1 h2 h3 h4).mono fun _ _ ⟨v, L, g1, g2, g3, g4, g5⟩ => ⟨v, g1, ⟨L, g2, g3, g4⟩, g5⟩
theorem same_B {base : Nat → Prop} {f : Fl} {v u : Value} {w : World} (hn : f.n ≤ 600) (hv : HoldB base f v w) (hu : HoldB base f u w) : Calls Tryd.prog 9 #[v, u] w fun e w' => e = .returned (.bool true) ∧ Below w.heap.size w w' := by
  obtain ⟨L, h1, h2⟩ := hv
  obtain ⟨M, h3, h4⟩ := hu
  have e := givesB_unique h1 h3
  refine (bools_any L M v u w h2 h4 (by rw [h1.1]; omega) (by rw [h3.1]; omega)).mono ?_
  rintro e' w' ⟨rfl, d, rfl⟩
  exact ⟨by simp [e], below_drewN (Below.refl _ _) d⟩
theorem same_R {P : Nat → Int → Prop} {f : Fl} {v u : Value} {w : World} (hn : f.n ≤ 600) (hP : ∀ s t, P s t → 0 ≤ t ∧ t < (601 : Nat)) (hv : HoldR P f v w) (hu : HoldR P f u w) : Calls Tryd.prog 14 #[v, u] w fun e w' => e = .returned (.bool true) ∧ Below w.heap.size w w' := by
  obtain ⟨L, h1, h2⟩ := hv
  obtain ⟨M, h3, h4⟩ := hu
  have e := givesR_unique h1 h3
  have hl : ∀ {R : List (List Int)}, GivesR P f.n R → ∀ l ∈ R, l.length ≤ 1000000 := fun {R} hR l hl => by
    obtain ⟨i, hi, rfl⟩ := List.getElem_of_mem hl
    have := row_le_gives hR hP i
    rw [rowAt_get hi] at this
    omega
  refine (rows_any L M v u w h2 h4 (by rw [h1.1]; omega) (by rw [h3.1]; omega) (hl h1) (hl h3)).mono ?_
  rintro e' w' ⟨rfl, d, rfl⟩
  exact ⟨by simp [e], below_drewN (Below.refl _ _) d⟩
theorem same_L {P : Int → Prop} {v u : Value} {w : World} (hP : ∃ K : List Int, K.length ≤ 100000 ∧ ∀ t, P t → t ∈ K) (hv : HoldL P v w) (hu : HoldL P u w) : Calls Tryd.prog 19 #[v, u] w fun e w' => e = .returned (.bool true) ∧ Below w.heap.size w w' := by
  obtain ⟨L, h0, h1, h2⟩ := hv
  obtain ⟨M, g0, g1, g2⟩ := hu
  have e : L = M := rising_ext h0 g0 (fun t => by rw [h1, g1])
  obtain ⟨K, hK, hPK⟩ := hP
  have hle : ∀ {R : List Int}, Rising R → (∀ t, t ∈ R ↔ P t) → R.length ≤ 100000 := fun {R} hr hm => by
    have hn : R.Nodup := hr.imp (fun h => by omega)
    have := hn.length_le_of_subset (l₂ := K) (fun t ht => hPK t ((hm t).1 ht))
    omega
  refine (ints_any L M v u w h2 g2 (by have := hle h0 h1; omega) (by have := hle g0 g1; omega)).mono ?_
  rintro e' w' ⟨rfl, d, rfl⟩
  exact ⟨by simp [e], below_drewN (Below.refl _ _) d⟩
end Go.Proofs.YtckbfiigbckmeaaDoor
