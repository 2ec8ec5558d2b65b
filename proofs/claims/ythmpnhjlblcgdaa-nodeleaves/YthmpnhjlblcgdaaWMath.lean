/- Trees of longer texts, kids, and how deep a tree goes. -/
import Derived.Test.YthmpnhjlblcgdaaPFit
import Derived.Test.YthmpnhjlblcgdaaPLeaves
namespace Go.Proofs.Ythmpnhjlblcgdaa
open Go.RowKit

theorem preL_mem {l : List Nd} {k : Nd} (h : k ∈ l) (d : Int) {x : Nd × Int} (hx : x ∈ preN k d) : x ∈ preL l d := by
  induction l with
  | nil => cases h
  | cons t l ih =>
    rw [preL]
    rcases List.mem_cons.1 h with rfl | h
    · exact List.mem_append_left _ hx
    · exact List.mem_append_right _ (ih h)
theorem mem_preL {l : List Nd} {d : Int} {x : Nd × Int} (h : x ∈ preL l d) : ∃ k ∈ l, x ∈ preN k d := by
  induction l with
  | nil => simp [preL] at h
  | cons t l ih =>
    rw [preL] at h
    rcases List.mem_append.1 h with h | h
    · exact ⟨t, by simp, h⟩
    · obtain ⟨k, hk, h⟩ := ih h
      exact ⟨k, by simp [hk], h⟩
theorem cntN_mem {l : List Nd} {k : Nd} (h : k ∈ l) : cntN k ≤ cntL l := by
  obtain ⟨j, hj, rfl⟩ := List.getElem_of_mem h
  exact cntL_at hj
theorem preN_deep (t : Nd) : ∀ d x, x ∈ preN t d → x.2 + 1 ≤ d + cntN t := by
  induction t using nd_ind with
  | h t ih =>
    intro d x hx
    rw [preN_mk] at hx
    rw [cntN_mk]
    rcases List.mem_cons.1 hx with rfl | hx
    · simp only; omega
    · obtain ⟨k, hk, hx⟩ := mem_preL hx
      have := ih k hk _ _ hx
      have := cntN_mem hk
      omega
theorem preN_up (t : Nd) : ∀ d e, preN t (d + e) = (preN t d).map fun x => (x.1, x.2 + e) := by
  induction t using nd_ind with
  | h t ih =>
    intro d e
    rw [preN_mk, preN_mk, List.map_cons]
    congr 1
    have : ∀ (l : List Nd), (∀ k ∈ l, ∀ d e, preN k (d + e) = (preN k d).map fun x => (x.1, x.2 + e)) → preL l (d + e + 1) = (preL l (d + 1)).map fun x => (x.1, x.2 + e) := by
      intro l
      induction l with
      | nil => intro _; rfl
      | cons t l ihl =>
        intro h
        rw [preL, preL, List.map_append, ihl (fun k hk => h k (by simp [hk])), show d + e + 1 = (d + 1) + e by omega, h t (by simp)]
    exact this t.kids ih
theorem fitB_kid {t k : Nd} {size : Int} (h : fitB t size = true) (hk : k ∈ t.kids) : fitB k size = true := by
  unfold fitB at *
  rw [List.all_eq_true] at *
  intro x hx
  have h2 := h (x.1, x.2 + 1) (by
    rw [preN_mk]
    refine List.mem_cons_of_mem _ (preL_mem hk _ ?_)
    rw [preN_up]
    exact List.mem_map.2 ⟨x, hx, rfl⟩)
  unfold oneB at *
  simp only [Bool.and_eq_true, decide_eq_true_eq] at *
  exact ⟨by omega, h2.2⟩
theorem fitB_wider {t : Nd} {size more : Int} (h : fitB t size = true) (hm : 0 ≤ more) : fitB t (size + more) = true := by
  unfold fitB at *
  rw [List.all_eq_true] at *
  intro x hx
  have h2 := h x hx
  unfold oneB aloneB headB at *
  simp only [Bool.and_eq_true, decide_eq_true_eq] at *
  refine ⟨h2.1, ⟨?_, h2.2.1.2⟩, h2.2.2⟩
  obtain ⟨⟨⟨⟨⟨a, b⟩, c⟩, d⟩, e⟩, f⟩ := h2.2.1.1
  exact ⟨⟨⟨⟨⟨a, b⟩, by omega⟩, d⟩, e⟩, f⟩
theorem leaves_len (t : Nd) : (leavesN t).length ≤ cntN t := by
  unfold leavesN
  refine Nat.le_trans (List.length_filter_le _ _) ?_
  rw [List.length_map, preN_len]
  exact Nat.le_refl _
theorem deep_len {xs : List Al} {t : Nd} (h : xs.map stripA = preN t 1) : xs.length = cntN t ∧ maxD xs ≤ cntN t := by
  have hl : xs.length = cntN t := by rw [← preN_len t 1, ← h, List.length_map]
  refine ⟨hl, (maxD_le (N := cntN t) (by omega) xs (fun x hx => ?_)).2⟩
  have hx2 : stripA x ∈ preN t 1 := by rw [← h]; exact List.mem_map.2 ⟨x, hx, rfl⟩
  have := preN_deep t 1 _ hx2
  simp only [stripA] at this
  omega
end Go.Proofs.Ythmpnhjlblcgdaa
