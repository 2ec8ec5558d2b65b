/- What is within places: each once, kids ahead of what they are kids of. -/
import Derived.Test.YtoocafcagelbgaaPRefs
namespace Go.Proofs.Ytoocafcagelbgaa

def wkRow (g : List Bool → Nat → List Bool × List Nat) : List Bool → List Nat → List Bool × List Nat
  | m, [] => (m, [])
  | m, k :: l => ((wkRow g (g m k).1 l).1, (g m k).2 ++ (wkRow g (g m k).1 l).2)
def wk (K : Nat → List Nat) : Nat → List Bool → Nat → List Bool × List Nat
  | 0, m, _ => (m, [])
  | f + 1, m, p => if m.getD p true then (m, []) else ((wkRow (wk K f) (m.set p true) (K p)).1, (wkRow (wk K f) (m.set p true) (K p)).2 ++ [p])
def unmet (m : List Bool) : Nat := m.count false
theorem wkRow_app (g : List Bool → Nat → List Bool × List Nat) : ∀ (a b : List Nat) (m : List Bool), wkRow g m (a ++ b) = ((wkRow g (wkRow g m a).1 b).1, (wkRow g m a).2 ++ (wkRow g (wkRow g m a).1 b).2)
  | [], b, m => by simp [wkRow]
  | k :: a, b, m => by
    rw [List.cons_append]
    simp only [wkRow]
    rw [wkRow_app g a b]
    simp
theorem wkRow_take (g : List Bool → Nat → List Bool × List Nat) (l : List Nat) (m : List Bool) {j : Nat} (h : j < l.length) : wkRow g m (l.take (j + 1)) = ((g (wkRow g m (l.take j)).1 l[j]).1, (wkRow g m (l.take j)).2 ++ (g (wkRow g m (l.take j)).1 l[j]).2) := by
  rw [List.take_succ_eq_append_getElem h, wkRow_app]
  simp [wkRow]
theorem wkRow_pre (g : List Bool → Nat → List Bool × List Nat) (l : List Nat) (m : List Bool) (j : Nat) : (wkRow g m (l.take j)).2 <+: (wkRow g m l).2 := by
  conv => rhs; rw [← List.take_append_drop j l]
  rw [wkRow_app]
  exact List.prefix_append _ _
structure Grows (m m' : List Bool) : Prop where
  len : m'.length = m.length
  un : unmet m' ≤ unmet m
  stay : ∀ i, m.getD i true = true → m'.getD i true = true
theorem Grows.refl (m : List Bool) : Grows m m := ⟨rfl, Nat.le_refl _, fun _ h => h⟩
theorem Grows.trans {a b c : List Bool} (h : Grows a b) (k : Grows b c) : Grows a c := ⟨k.len.trans h.len, Nat.le_trans k.un h.un, fun i hi => k.stay i (h.stay i hi)⟩
theorem grows_row {g : List Bool → Nat → List Bool × List Nat} (hg : ∀ m p, Grows m (g m p).1) : ∀ (l : List Nat) (m : List Bool), Grows m (wkRow g m l).1
  | [], m => Grows.refl m
  | k :: l, m => (hg m k).trans (grows_row hg l _)
theorem unmet_set {m : List Bool} {p : Nat} (h : m.getD p true = false) : unmet (m.set p true) + 1 = unmet m := by
  unfold unmet
  have hp : p < m.length := by
    rcases Nat.lt_or_ge p m.length with h' | h'
    · exact h'
    · rw [List.getD_eq_getElem?_getD, List.getElem?_eq_none h'] at h; cases h
  have hm : m[p] = false := by rw [List.getD_eq_getElem?_getD, List.getElem?_eq_getElem hp] at h; exact h
  rw [List.count_set hp, hm]
  have : 0 < m.count false := List.count_pos_iff.2 (by rw [← hm]; exact List.getElem_mem hp)
  simp
  omega
theorem grows_set {m : List Bool} {p : Nat} (h : m.getD p true = false) : Grows m (m.set p true) := by
  refine ⟨by simp, by have := unmet_set h; omega, fun i hi => ?_⟩
  rw [List.getD_eq_getElem?_getD, List.getElem?_set]
  rw [List.getD_eq_getElem?_getD] at hi
  split
  · split <;> simp
  · exact hi
theorem grows_wk (K : Nat → List Nat) : ∀ (f : Nat) (m : List Bool) (p : Nat), Grows m (wk K f m p).1
  | 0, m, _ => Grows.refl m
  | f + 1, m, p => by
    unfold wk
    by_cases h : m.getD p true = true
    · rw [if_pos h]; exact Grows.refl m
    · rw [if_neg h]
      exact (grows_set (by simpa using h)).trans (grows_row (grows_wk K f) _ _)
/-- All that is within roots. -/
def allW (K : Nat → List Nat) (n : Nat) (roots : List Nat) : List Nat := (wkRow (wk K (n + 1)) (List.replicate n false) roots).2
end Go.Proofs.Ytoocafcagelbgaa
