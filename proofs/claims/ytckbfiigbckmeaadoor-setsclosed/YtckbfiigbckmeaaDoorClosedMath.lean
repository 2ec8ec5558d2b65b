/- The law SetsClosed: what is asked of it. -/
import Derived.Test.YtckbfiigbckmeaaDoorGrow
import Derived.Test.YtckbfiigbckmeaaDoorSetsOk
namespace Go.Proofs.YtckbfiigbckmeaaDoor
open Go.RowKit

/-- within of one row and one row. -/
theorem within1 (A B : List Int) (va vb : Value) (b1 b2 : Nat) (W : World) (hA : SlI A va W) (hB : SlI B vb W) (rA : Rising A) (rB : Rising B) (sub : ∀ t ∈ A, t ∈ B) (lA : A.length ≤ 1000) (lB : B.length ≤ 1000)
    (c1 : W.cell? ⟨b1, 0, none⟩ = some va) (c2 : W.cell? ⟨b2, 0, none⟩ = some vb) :
    Calls Tryd.prog 24 #[.slice (some ⟨b1, 0, none⟩) 1 1, .slice (some ⟨b2, 0, none⟩) 1 1] W fun e w' => e = .returned (.bool true) ∧ Below W.heap.size W w' := by
  have one : ∀ (L : List Int) (v : Value) (b : Nat), SlI L v W → W.cell? ⟨b, 0, none⟩ = some v → SlR [L] (.slice (some ⟨b, 0, none⟩) 1 1) W := fun L v b h c => by
    refine ⟨some ⟨b, 0, none⟩, 1, rfl, fun i l hi => ?_, (fun e => by cases e), by simp⟩
    have hi0 : i = 0 := by
      have := (List.getElem?_eq_some_iff.1 hi).1
      simpa using this
    subst hi0
    simp at hi
    subst hi
    exact ⟨b, 0, v, rfl, World.block_lt_of_cell? W _ c, c, h⟩
  have len : ∀ (L : List Int), L.length ≤ 1000 → ∀ s, (rowAt [L] s).length ≤ 1000 := fun L h s => by
    rcases s with _ | s
    · exact h
    · simp [rowAt]
  have giv : ∀ (L : List Int), Rising L → GivesR (fun _ t => t ∈ L) 1 [L] := fun L h => by
    refine ⟨rfl, fun l hl => ?_, fun s hs t => ?_⟩
    · obtain rfl : l = L := by simpa using hl
      exact h
    · obtain rfl : s = 0 := by omega
      unfold InR
      simp
  refine (within_any [A] [B] _ _ W (one A va b1 hA c1) (one B vb b2 hB c2) (by simp) (by simp) (len A lA) (len B lB)).mono ?_
  rintro e w' ⟨rfl, hb⟩
  rw [within_yes (giv A rA) (giv B rB) (fun _ t h => sub t h)]
  exact ⟨rfl, hb⟩

theorem two_alloc (W : World) (o1 o2 : Value) (t : TypeId) : Below W.heap.size W ((W.alloc (.cells #[o1] t)).alloc (.cells #[o2] t)).drew ∧ ((W.alloc (.cells #[o1] t)).alloc (.cells #[o2] t)).drew.cell? ⟨W.heap.size, 0, none⟩ = some o1 ∧ ((W.alloc (.cells #[o1] t)).alloc (.cells #[o2] t)).drew.cell? ⟨W.heap.size + 1, 0, none⟩ = some o2 := by
  have h0 : (W.alloc (.cells #[o1] t)).heap.size = W.heap.size + 1 := by simp
  have c1 : (W.alloc (.cells #[o1] t)).cell? ⟨W.heap.size, 0, none⟩ = some o1 := by simp
  have b2 : Below (W.alloc (.cells #[o1] t)).heap.size (W.alloc (.cells #[o1] t)) ((W.alloc (.cells #[o1] t)).alloc (.cells #[o2] t)) := (Below.refl _ _).alloc (Nat.le_refl _) _
  have c2 : ((W.alloc (.cells #[o1] t)).alloc (.cells #[o2] t)).cell? ⟨(W.alloc (.cells #[o1] t)).heap.size, 0, none⟩ = some o2 := by simp
  rw [h0] at c2
  have b1 : Below W.heap.size W (W.alloc (.cells #[o1] t)) := (Below.refl _ _).alloc (Nat.le_refl _) _
  exact ⟨(below_then b1 b2 b1.size).drew, (b2.cell (p := ⟨W.heap.size, 0, none⟩) (by show W.heap.size < _; omega)).trans c1, c2⟩
theorem two_alloc' (W : World) (o1 o2 : Value) (t : TypeId) : Below W.heap.size W ((W.alloc (.cells #[o1] t)).alloc (.cells #[o2] t)) ∧ ((W.alloc (.cells #[o1] t)).alloc (.cells #[o2] t)).cell? ⟨W.heap.size, 0, none⟩ = some o1 ∧ ((W.alloc (.cells #[o1] t)).alloc (.cells #[o2] t)).cell? ⟨W.heap.size + 1, 0, none⟩ = some o2 := by
  have h0 : (W.alloc (.cells #[o1] t)).heap.size = W.heap.size + 1 := by simp
  have c1 : (W.alloc (.cells #[o1] t)).cell? ⟨W.heap.size, 0, none⟩ = some o1 := by simp
  have b2 : Below (W.alloc (.cells #[o1] t)).heap.size (W.alloc (.cells #[o1] t)) ((W.alloc (.cells #[o1] t)).alloc (.cells #[o2] t)) := (Below.refl _ _).alloc (Nat.le_refl _) _
  have c2 : ((W.alloc (.cells #[o1] t)).alloc (.cells #[o2] t)).cell? ⟨(W.alloc (.cells #[o1] t)).heap.size, 0, none⟩ = some o2 := by simp
  rw [h0] at c2
  have b1 : Below W.heap.size W (W.alloc (.cells #[o1] t)) := (Below.refl _ _).alloc (Nat.le_refl _) _
  exact ⟨below_then b1 b2 b1.size, (b2.cell (p := ⟨W.heap.size, 0, none⟩) (by show W.heap.size < _; omega)).trans c1, c2⟩
/-- The first k items can be empty. -/
def allE (L : List Bool) (sy : List Nat) (k : Nat) : Bool := (sy.take k).all (onb L)
theorem allE_zero (L : List Bool) (sy : List Nat) : allE L sy 0 = true := by simp [allE]
theorem allE_succ {L : List Bool} {sy : List Nat} {k x : Nat} (h : sy[k]? = some x) : allE L sy (k + 1) = (allE L sy k && onb L x) := by
  unfold allE
  obtain ⟨hk, rfl⟩ := List.getElem?_eq_some_iff.1 h
  rw [List.take_succ_eq_append_getElem hk, List.all_append]
  simp
theorem split_at {sy : List Nat} {k x : Nat} (h : sy[k]? = some x) : sy = sy.take k ++ x :: sy.drop (k + 1) := by
  obtain ⟨hk, rfl⟩ := List.getElem?_eq_some_iff.1 h
  rw [← List.drop_eq_getElem_cons hk, List.take_append_drop]
theorem allE_emp {f : Fl} {L : List Bool} {sy : List Nat} {k : Nat} (hL : GivesB NoP f.gr f.n L) (hs : ∀ y ∈ sy, y < f.n) (h : allE L sy k = true) : ∀ y ∈ sy.take k, EmpP f y := fun y hy => by
  have h1 := List.all_eq_true.1 h y hy
  rw [onb_iff] at h1
  exact (hL.2 y (hs y (List.mem_of_mem_take hy))).1 h1
/-- First of an item lies in First of what it is of. -/
theorem closed_F {f : Fl} {L : List Bool} {l q k : Nat} {sy : List Nat} {t : Int} (hg : (l, sy) ∈ f.gr) (hq : sy[k]? = some q) (hL : GivesB NoP f.gr f.n L) (hs : ∀ y ∈ sy, y < f.n) (h : allE L sy k = true) (ht : FstP f q t) : FstP f l t := by
  rw [split_at hq] at hg
  exact .prod hg (allE_emp hL hs h) ht
theorem closed_E {f : Fl} {L : List Bool} {l : Nat} {sy : List Nat} (hg : (l, sy) ∈ f.gr) (hl : l < f.n) (hL : GivesB NoP f.gr f.n L) (hs : ∀ y ∈ sy, y < f.n) (h : allE L sy sy.length = true) : onb L l = true := by
  rw [onb_iff, hL.2 l hl]
  refine .prod hg (fun x hx => ?_)
  have := allE_emp hL hs h x (by rw [List.take_length]; exact hx)
  exact this
theorem closed_O {f : Fl} {l q k : Nat} {r : List It} {bh : List Int} {t : Int} (hg : (l, r.map fun x => x.sym.toNat) ∈ f.gr) (hs : ∀ x ∈ r, 0 ≤ x.sym ∧ x.sym < (f.n : Int)) (hq : (r.map fun x => x.sym.toNat)[k]? = some q) (hT : f.terms.length ≤ q) (hb : ∀ t ∈ bh, FolP f l t) (h : AheadP f (r.drop (k + 1)) bh t) : FolP f q t := by
  rw [split_at hq] at hg
  unfold AheadP at h
  rw [symsN_all (fun x hx => hs x (List.mem_of_mem_drop hx)), List.map_drop] at h
  exact fol_beg hg hT (beg_mono (fun _ _ h => h) hb h)
end Go.Proofs.YtckbfiigbckmeaaDoor
