/- Rows that a symbol derives. -/
import Derived.Test.YtckbfiigbckmeaaDoorTellsWalk
namespace Go.Proofs.YtckbfiigbckmeaaDoor
open Go.RowKit

/-- A symbol derives a row of terminals. -/
inductive Drv (T : Nat) (g : Gr) : Nat → List Int → Prop
  | term {t : Nat} : t < T → Drv T g t [(t : Int)]
  | prod {l : Nat} {r : List Nat} {outs : List (List Int)} : (l, r) ∈ g → outs.length = r.length → (∀ (i : Nat) (x : Nat) (o : List Int), r[i]? = some x → outs[i]? = some o → Drv T g x o) → Drv T g l outs.flatten

theorem Drv.useful {T : Nat} {g : Gr} {s : Nat} {o : List Int} (h : Drv T g s o) : Der (fun s => s < T) g s := by
  induction h with
  | term h => exact .base h
  | prod hm hl _ ih =>
    refine .prod hm (fun x hx => ?_)
    obtain ⟨i, hi, rfl⟩ := List.getElem_of_mem hx
    exact ih i _ _ (List.getElem?_eq_getElem hi) (List.getElem?_eq_getElem (by omega))
theorem Drv.empty {T : Nat} {g : Gr} {s : Nat} {o : List Int} (h : Drv T g s o) : o = [] → Der (fun _ => False) g s := by
  induction h with
  | term h => intro e; cases e
  | prod hm hl _ ih =>
    intro e
    refine .prod hm (fun x hx => ?_)
    obtain ⟨i, hi, rfl⟩ := List.getElem_of_mem hx
    have hi' : i < _ := Nat.lt_of_lt_of_eq hi hl.symm
    exact ih i _ _ (List.getElem?_eq_getElem hi) (List.getElem?_eq_getElem hi') (List.flatten_eq_nil_iff.1 e _ (List.getElem_mem hi'))
theorem flatten_head : ∀ {outs : List (List Int)} {t : Int} {rest : List Int}, outs.flatten = t :: rest → ∃ (i : Nat) (o rest' : List Int), outs[i]? = some o ∧ o = t :: rest' ∧ ∀ j, j < i → outs[j]? = some []
  | [], t, rest, h => by cases h
  | [] :: outs, t, rest, h => by
    obtain ⟨i, o, rest', h1, h2, h3⟩ := flatten_head (outs := outs) (by simpa using h)
    refine ⟨i + 1, o, rest', by simpa using h1, h2, fun j hj => ?_⟩
    cases j with
    | zero => rfl
    | succ j => simpa using h3 j (by omega)
  | (y :: ys) :: outs, t, rest, h => by
    have : y = t := by
      have h' : y :: (ys ++ outs.flatten) = t :: rest := by simpa using h
      injection h'
    subst this
    exact ⟨0, y :: ys, ys, rfl, rfl, fun j hj => by omega⟩
theorem Drv.first {T : Nat} {g : Gr} {s : Nat} {o : List Int} (h : Drv T g s o) : ∀ t rest, o = t :: rest → Fst (Der (fun _ => False) g) T g s t := by
  induction h with
  | term h =>
    intro t rest e
    cases e
    exact .term h
  | @prod l r outs hm hl hd ih =>
    intro t rest e
    obtain ⟨i, o, rest', h1, h2, h3⟩ := flatten_head e
    have hi : i < outs.length := (List.getElem?_eq_some_iff.1 h1).1
    have hir : i < r.length := by omega
    have hx := List.getElem?_eq_getElem hir
    have hf := ih i _ _ hx h1 t rest' h2
    have hs : r = r.take i ++ r[i] :: r.drop (i + 1) := by rw [← List.drop_eq_getElem_cons hir, List.take_append_drop]
    rw [hs] at hm
    refine .prod hm (fun y hy => ?_) hf
    obtain ⟨j, hj, rfl⟩ := List.getElem_of_mem hy
    have hj2 : j < i := by have := List.length_take_le i r; omega
    rw [List.getElem_take]
    exact (hd j _ _ (List.getElem?_eq_getElem (by omega)) (h3 j hj2)).empty rfl
end Go.Proofs.YtckbfiigbckmeaaDoor
