/- A production more makes no set smaller. -/
import Derived.Test.YtckbfiigbckmeaaDoorTellsWalk
namespace Go.Proofs.YtckbfiigbckmeaaDoor
open Go.RowKit

theorem Der.more {base : Nat → Prop} {g h : Gr} (hs : ∀ p ∈ g, p ∈ h) {s : Nat} (hd : Der base g s) : Der base h s := by
  induction hd with
  | base h => exact .base h
  | prod hm _ ih => exact .prod (hs _ hm) ih
theorem Fst.more {emp emp' : Nat → Prop} {n : Nat} {g h : Gr} (hs : ∀ p ∈ g, p ∈ h) (he : ∀ s, emp s → emp' s) {s : Nat} {t : Int} (hd : Fst emp n g s t) : Fst emp' n h s t := by
  induction hd with
  | term h => exact .term h
  | prod hm h1 _ ih => exact .prod (hs _ hm) (fun y hy => he y (h1 y hy)) ih
theorem Beg.more {emp emp' : Nat → Prop} {fst fst' : Nat → Int → Prop} {b b' : Int → Prop} (he : ∀ s, emp s → emp' s) (hf : ∀ s t, fst s t → fst' s t) (hb : ∀ t, b t → b' t) {l : List Nat} {t : Int} (h : Beg emp fst b l t) : Beg emp' fst' b' l t := by
  induction h with
  | here h => exact .here (hf _ _ h)
  | next h1 _ ih => exact .next (he _ h1) ih
  | behind h => exact .behind (hb _ h)
theorem Fol.more {emp emp' : Nat → Prop} {fst fst' : Nat → Int → Prop} {n : Nat} {g h : Gr} (hs : ∀ p ∈ g, p ∈ h) (he : ∀ s, emp s → emp' s) (hf : ∀ s t, fst s t → fst' s t) {s : Nat} {t : Int} (hd : Fol emp fst n g s t) : Fol emp' fst' n h s t := by
  induction hd with
  | last => exact .last
  | first hm hx hb => exact .first (hs _ hm) hx (hb.more he hf (fun _ h => h))
  | left hm hx h1 _ ih => exact .left (hs _ hm) hx (fun y hy => he y (h1 y hy)) ih
def Fl.plus (f : Fl) (p : Pr) : Fl := ⟨f.terms, f.nons, f.prods ++ [p]⟩
theorem plus_gr {f : Fl} {p : Pr} : ∀ q ∈ f.gr, q ∈ (f.plus p).gr := by
  intro q hq
  unfold Fl.gr Fl.plus at *
  simp only [List.map_append]
  exact List.mem_append.2 (.inl hq)
theorem plus_F {f : Fl} {p : Pr} {s : Nat} {t : Int} (h : FstP f s t) : FstP (f.plus p) s t := Fst.more plus_gr (fun _ h => Der.more plus_gr h) h
theorem plus_O {f : Fl} {p : Pr} {s : Nat} {t : Int} (h : FolP f s t) : FolP (f.plus p) s t := Fol.more plus_gr (fun _ h => Der.more plus_gr h) (fun _ _ h => plus_F h) h
theorem within_yes {P P' : Nat → Int → Prop} {n : Nat} {A B : List (List Int)} (hA : GivesR P n A) (hB : GivesR P' n B) (h : ∀ s t, P s t → P' s t) : withinB A B = true := by
  unfold withinB
  rw [decide_eq_true (by rw [hA.1, hB.1]), Bool.true_and, List.all_eq_true]
  intro i hi
  have hi2 : i < A.length := List.mem_range.1 hi
  have hin : i < n := by rw [← hA.1]; exact hi2
  have hib : i < B.length := by rw [hB.1]; exact hin
  unfold inB
  rw [decide_eq_true hib, Bool.true_and, decide_eq_true_eq]
  refine unionL_of_sub (by rw [rowAt_get hib]; exact hB.2.1 _ (List.getElem_mem hib)) (fun x hx => ?_)
  exact (rowAt_gives hB hin).2 (h i x ((rowAt_gives hA hin).1 hx))
end Go.Proofs.YtckbfiigbckmeaaDoor
