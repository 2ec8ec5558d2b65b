/- Stacks: what Push makes, as lists. -/
import Derived.Test.YtjpbfckdiojghaaPFit
import Derived.Test.YtjpbfckdiojghaaPBin
import Derived.Test.YtjpbfckdiojghaaPOpen
namespace Go.Proofs.Ytjpbfckdiojghaa
open Go.RowKit

theorem posL_lt {l : List Int} {x : Int} {t : Nat} (h : t < posL l x) : ∃ ht : t < l.length, l[t] < x := by
  have h1 : t < l.length := Nat.lt_of_lt_of_le h (posL_le l x)
  refine ⟨h1, ?_⟩
  have := List.not_of_lt_findIdx h
  simpa using this
theorem posL_ge {l : List Int} {x : Int} (h : posL l x < l.length) : x ≤ l[posL l x] := by
  unfold posL at *
  have := List.findIdx_getElem (p := fun y => !decide (y < x)) (xs := l) (w := h)
  simpa using this
theorem putL_pos (l : List Int) (x : Int) : putL x l = if isAt l x then l else l.take (posL l x) ++ [x] ++ l.drop (posL l x) := by
  have e : l = l.take (posL l x) ++ l.drop (posL l x) := (List.take_append_drop _ _).symm
  have h1 : ∀ y ∈ l.take (posL l x), y < x := fun y hy => by
    obtain ⟨t, ht, rfl⟩ := List.getElem_of_mem hy
    simp at ht
    rw [List.getElem_take]
    exact (posL_lt (by omega)).2
  have h2 : putL x l = l.take (posL l x) ++ putL x (l.drop (posL l x)) := by
    conv => lhs; rw [e]
    exact putL_lt h1
  rw [h2]
  unfold isAt
  rcases Nat.lt_or_ge (posL l x) l.length with h | h
  · have hge := posL_ge h
    rw [List.getElem?_eq_getElem h, List.drop_eq_getElem_cons h, putL, if_neg (by omega)]
    by_cases hx : l[posL l x] = x
    · rw [if_pos hx]
      simp only [Option.any_some, hx, decide_true, if_true]
      conv => rhs; rw [e, List.drop_eq_getElem_cons h, hx]
    · rw [if_neg hx]
      simp [hx]
  · rw [List.getElem?_eq_none h, List.drop_of_length_le h]
    simp [putL]
theorem isAt_iff {l : List Int} {x : Int} (hu : UpL l) : isAt l x = true ↔ x ∈ l := by
  unfold isAt
  constructor
  · intro h
    rcases Nat.lt_or_ge (posL l x) l.length with h' | h'
    · rw [List.getElem?_eq_getElem h'] at h
      simp at h
      rw [← h]; exact List.getElem_mem h'
    · rw [List.getElem?_eq_none h'] at h; simp at h
  · intro h
    obtain ⟨t, ht, rfl⟩ := List.getElem_of_mem h
    have hp : posL l l[t] = t := posL_eq (by omega) (fun s hs hst => List.pairwise_iff_getElem.1 hu s t hs ht hst) (fun _ => by omega)
    rw [hp, List.getElem?_eq_getElem ht]
    simp

/-- What can be pushed. -/
def pushB (l : List Gn) (f st pl : Int) : Prop := ¬ (thereB l (pl, st) = false ∧ 4096 ≤ l.length) ∧ hasB l f = true ∧ (∀ y, l[f.toNat]? = some y → y.pl ≤ pl) ∧ numB st = true ∧ numB pl = true
def base1 (l : List Gn) (st pl : Int) : List Gn := if thereB l (pl, st) then l else openG (posG l (pl, st)) ⟨st, pl, []⟩ l
def from1 (l : List Gn) (f st pl : Int) : Int := if thereB l (pl, st) then f else inc1 (posG l (pl, st)) f
def pushL (l : List Gn) (f st pl : Int) : List Gn := (base1 l st pl).modify (posG l (pl, st)) fun y => ⟨y.st, y.pl, putL (from1 l f st pl) y.links⟩
def newB (l : List Gn) (f st pl : Int) : Bool := !((base1 l st pl)[posG l (pl, st)]?).any fun y => isAt y.links (from1 l f st pl)
theorem inc1_int {i0 : Nat} {j : Int} : inc1 i0 j = if j ≥ (i0 : Int) then j + 1 else j := rfl
theorem openG_len {i0 : Nat} {x : Gn} {l : List Gn} (h : i0 ≤ l.length) : (openG i0 x l).length = l.length + 1 := by unfold openG; simp; omega
theorem openG_at {i0 : Nat} {x : Gn} {l : List Gn} (h : i0 ≤ l.length) : (openG i0 x l)[i0]? = some x := by
  unfold openG
  rw [List.append_assoc, List.getElem?_append_right (by simp; omega)]
  simp [Nat.min_eq_left h]
theorem there_lt {l : List Gn} {s : Sp} (h : thereB l s = true) : ∃ h' : posG l s < l.length, spG l[posG l s] = s := by
  unfold thereB at h
  rcases Nat.lt_or_ge (posG l s) l.length with h' | h'
  · refine ⟨h', ?_⟩
    rw [List.getElem?_eq_getElem h'] at h
    simpa using h
  · rw [List.getElem?_eq_none h'] at h; simp at h
theorem base1_lt {l : List Gn} {st pl : Int} : posG l (pl, st) < (base1 l st pl).length := by
  unfold base1
  cases h : thereB l (pl, st) with
  | true => rw [if_pos rfl]; exact (there_lt h).1
  | false => rw [if_neg (by simp), openG_len (posG_le _ _)]; have := posG_le l (pl, st); omega
end Go.Proofs.Ytjpbfckdiojghaa
