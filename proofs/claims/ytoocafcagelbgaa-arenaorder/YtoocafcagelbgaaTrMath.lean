/- Sizes of what is within roots. -/
import Derived.Test.YtoocafcagelbgaaPWithin
namespace Go.Proofs.Ytoocafcagelbgaa

def szK (c : Nat → Nat) (most : Nat) : Nat → List Nat → Option Nat
  | s, [] => some s
  | s, k :: ks => if c k = 0 then none else if most < s + c k then none else szK c most (s + c k) ks
def szAll (K : Nat → List Nat) (most : Nat) : (Nat → Nat) → List Nat → Option (Nat → Nat)
  | c, [] => some c
  | c, p :: l => match szK c most 1 (K p) with
    | none => none
    | some s => szAll K most (fun i => if i = p then s else c i) l
theorem szK_le {c : Nat → Nat} {most : Nat} : ∀ {ks : List Nat} {s r : Nat}, szK c most s ks = some r → s ≤ most → r ≤ most
  | [], s, r, h, hs => by simp [szK] at h; omega
  | k :: ks, s, r, h, hs => by
    unfold szK at h
    split at h
    · cases h
    · split at h
      · cases h
      · exact szK_le h (by omega)
theorem szK_app (c : Nat → Nat) (most : Nat) : ∀ (a b : List Nat) (s : Nat), szK c most s (a ++ b) = (szK c most s a).bind fun r => szK c most r b
  | [], b, s => by simp [szK]
  | k :: a, b, s => by
    rw [List.cons_append]
    simp only [szK]
    split
    · rfl
    · split
      · rfl
      · exact szK_app c most a b _
theorem szAll_app (K : Nat → List Nat) (most : Nat) : ∀ (a b : List Nat) (c : Nat → Nat), szAll K most c (a ++ b) = (szAll K most c a).bind fun d => szAll K most d b
  | [], b, c => by simp [szAll]
  | p :: a, b, c => by
    rw [List.cons_append]
    simp only [szAll]
    cases szK c most 1 (K p) with
    | none => rfl
    | some s => exact szAll_app K most a b _
theorem szAll_snoc (K : Nat → List Nat) (most : Nat) (a : List Nat) (p : Nat) (c : Nat → Nat) : szAll K most c (a ++ [p]) = (szAll K most c a).bind fun d => match szK d most 1 (K p) with
    | none => none
    | some s => some (fun i => if i = p then s else d i) := by
  rw [szAll_app]
  simp only [szAll]
theorem szAll_le {K : Nat → List Nat} {most : Nat} (hm : 1 ≤ most) : ∀ {l : List Nat} {c d : Nat → Nat}, szAll K most c l = some d → (∀ i, c i ≤ most) → ∀ i, d i ≤ most
  | [], c, d, h, hc => by simp [szAll] at h; subst h; exact hc
  | p :: l, c, d, h, hc => by
    unfold szAll at h
    cases hk : szK c most 1 (K p) with
    | none => rw [hk] at h; cases h
    | some s =>
      rw [hk] at h
      refine szAll_le hm h fun i => ?_
      show (if i = p then s else c i) ≤ most
      split
      · exact szK_le hk hm
      · exact hc i
theorem szAll_pre_none {K : Nat → List Nat} {most : Nat} {c : Nat → Nat} {a l : List Nat} (h : szAll K most c a = none) (hp : a <+: l) : szAll K most c l = none := by
  obtain ⟨b, rfl⟩ := hp
  rw [szAll_app, h]; rfl
theorem wkRow_len {g : List Bool → Nat → List Bool × List Nat} (hg : ∀ m p, (g m p).2.length + unmet (g m p).1 ≤ unmet m) : ∀ (l : List Nat) (m : List Bool), (wkRow g m l).2.length + unmet (wkRow g m l).1 ≤ unmet m
  | [], m => by simp [wkRow]
  | k :: l, m => by
    have h1 := hg m k
    have h2 := wkRow_len hg l (g m k).1
    simp only [wkRow, List.length_append]
    omega
theorem wk_len (K : Nat → List Nat) : ∀ (f : Nat) (m : List Bool) (p : Nat), (wk K f m p).2.length + unmet (wk K f m p).1 ≤ unmet m
  | 0, m, p => by simp [wk]
  | f + 1, m, p => by
    unfold wk
    by_cases h : m.getD p true = true
    · rw [if_pos h]; simp
    · rw [if_neg h]
      have h1 := wkRow_len (wk_len K f) (K p) (m.set p true)
      have h2 := unmet_set (m := m) (p := p) (by simpa using h)
      simp only [List.length_append, List.length_singleton]
      omega
theorem allP_len (l : List Sl) (roots : List Int) : (allP l roots).length ≤ l.length := by
  have h1 := wkRow_len (wk_len (Kf l) (l.length + 1)) (rN roots) (List.replicate l.length false)
  have h2 : unmet (List.replicate l.length false) ≤ l.length := by unfold unmet; exact Nat.le_trans List.count_le_length (by simp)
  unfold allP allW
  omega
def treesB (l : List Sl) (roots : List Int) (most : Nat) : Bool := (szAll (Kf l) most (fun _ => 0) (allP l roots)).isSome && decide ((allP l roots).length = liveN l)
/-- All that is handed out is a place. -/
theorem wkRow_in {n : Nat} {g : List Bool → Nat → List Bool × List Nat} (hg : ∀ m p, ∀ x ∈ (g m p).2, x < n) : ∀ (l : List Nat) (m : List Bool), ∀ x ∈ (wkRow g m l).2, x < n
  | [], m, x, h => by simp [wkRow] at h
  | k :: l, m, x, h => by
    simp only [wkRow, List.mem_append] at h
    rcases h with h | h
    · exact hg _ _ x h
    · exact wkRow_in hg l _ x h
theorem grows_len_row {g : List Bool → Nat → List Bool × List Nat} (hg : ∀ m p, Grows m (g m p).1) (l : List Nat) (m : List Bool) : (wkRow g m l).1.length = m.length := (grows_row hg l m).len
theorem wk_in (K : Nat → List Nat) : ∀ (f : Nat) (m : List Bool) (p : Nat), ∀ x ∈ (wk K f m p).2, x < m.length
  | 0, m, p, x, h => by simp [wk] at h
  | f + 1, m, p, x, h => by
    unfold wk at h
    by_cases hm : m.getD p true = true
    · rw [if_pos hm] at h; simp at h
    · rw [if_neg hm] at h
      have hp : p < m.length := by
        rcases Nat.lt_or_ge p m.length with h' | h'
        · exact h'
        · rw [List.getD_eq_getElem?_getD, List.getElem?_eq_none h'] at hm; simp at hm
      simp only [List.mem_append, List.mem_singleton] at h
      rcases h with h | rfl
      · have key : ∀ (l : List Nat) (m' : List Bool), m'.length = m.length → ∀ x ∈ (wkRow (wk K f) m' l).2, x < m.length := by
          intro l
          induction l with
          | nil => intro m' _ x h; simp [wkRow] at h
          | cons k l ih =>
            intro m' hm' x h
            simp only [wkRow, List.mem_append] at h
            rcases h with h | h
            · have := wk_in K f m' k x h; omega
            · exact ih _ (by rw [(grows_wk K f m' k).len]; exact hm') x h
        exact key _ _ (by simp) x h
      · exact hp
theorem allP_in (l : List Sl) (roots : List Int) : ∀ x ∈ allP l roots, x < l.length := by
  have key : ∀ (rs : List Nat) (m' : List Bool), m'.length = l.length → ∀ x ∈ (wkRow (wk (Kf l) (l.length + 1)) m' rs).2, x < l.length := by
    intro rs
    induction rs with
    | nil => intro m' _ x h; simp [wkRow] at h
    | cons k rs ih =>
      intro m' hm' x h
      simp only [wkRow, List.mem_append] at h
      rcases h with h | h
      · have := wk_in (Kf l) (l.length + 1) m' k x h; omega
      · exact ih _ (by rw [(grows_wk (Kf l) (l.length + 1) m' k).len]; exact hm') x h
  exact key _ _ (by simp)
end Go.Proofs.Ytoocafcagelbgaa
