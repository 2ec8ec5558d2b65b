/- The other way round: the free ones, the keys. -/
import Derived.Test.YtoocafcagelbgaaAMath4
namespace Go.Proofs.Ytoocafcagelbgaa
open Go.RowKit

theorem frG_of {sl : List SN} : ∀ {fl : List Nat}, Chain sl fl → (∀ p ∈ fl, ∃ s, sl[p]? = some s ∧ s.refs = 0) → frG (sl.map SN.sl) fl.length (freeI fl) = true
  | [], _, _ => by rw [show freeI [] = -1 from rfl, frG_end]; rfl
  | p :: l, ⟨⟨s, hs, hn⟩, h2⟩, h => by
    obtain ⟨t, ht, hr⟩ := h p (by simp)
    have hs2 : (sl.map SN.sl)[p]? = some s.sl := by rw [List.getElem?_map, hs]; rfl
    rw [hs] at ht
    cases ht
    show frG _ (l.length + 1) (p : Int) = true
    rw [frG_in _ _ p _ hs2]
    have hnx : s.sl.next = freeI l := hn
    have hrf : s.sl.refs = 0 := by show (s.refs : Int) = 0; rw [hr]; rfl
    rw [hnx, hrf, frG_of h2 (fun q hq => h q (by simp [hq]))]
    rfl
/-- What lives and what is free, counted. -/
theorem free_count {sl : List SN} {fl : List Nat} (hn : fl.Nodup) (hfl : ∀ p, p ∈ fl ↔ ∃ s, sl[p]? = some s ∧ s.refs = 0) : fl.length = sl.length - liveN (sl.map SN.sl) := by
  have hl : ∀ p, p ∈ liveL (sl.map SN.sl) ↔ ∃ s, sl[p]? = some s ∧ 0 < s.refs := fun p => by
    rw [liveL_mem]
    constructor
    · rintro ⟨t, ht, hr⟩
      rw [List.getElem?_map] at ht
      obtain ⟨s, hs, rfl⟩ := Option.map_eq_some_iff.1 ht
      exact ⟨s, hs, by have : (0 : Int) < (s.refs : Int) := hr; omega⟩
    · rintro ⟨s, hs, hr⟩
      exact ⟨s.sl, by rw [List.getElem?_map, hs]; rfl, by show (0 : Int) < (s.refs : Int); omega⟩
  have hlnd : (liveL (sl.map SN.sl)).Nodup := List.Pairwise.filter _ List.nodup_range
  have hnd : (fl ++ liveL (sl.map SN.sl)).Nodup := List.nodup_append.2 ⟨hn, hlnd, fun a ha b hb e => by
    subst e
    obtain ⟨s, hs, hr⟩ := (hfl a).1 ha
    obtain ⟨t, ht, hr2⟩ := (hl a).1 hb
    rw [hs] at ht; cases ht; omega⟩
  have h1 := nodup_leN (c := List.range sl.length) hnd (fun x hx => by
    rw [List.mem_range]
    rcases List.mem_append.1 hx with hx | hx
    · obtain ⟨s, hs, _⟩ := (hfl x).1 hx; exact (List.getElem?_eq_some_iff.1 hs).1
    · obtain ⟨s, hs, _⟩ := (hl x).1 hx; exact (List.getElem?_eq_some_iff.1 hs).1)
  have h2 := nodup_leN (L := List.range sl.length) (c := fl ++ liveL (sl.map SN.sl)) List.nodup_range (fun x hx => by
    rw [List.mem_range] at hx
    have hs := List.getElem?_eq_getElem hx
    by_cases hr : sl[x].refs = 0
    · exact List.mem_append.2 (.inl ((hfl x).2 ⟨_, hs, hr⟩))
    · exact List.mem_append.2 (.inr ((hl x).2 ⟨_, hs, by omega⟩)))
  rw [List.length_append, List.length_range, liveL_len] at h1 h2
  omega
/-- Keys told apart: as many as there are that live. -/
theorem plF_count {l : List Sl} (h : ∀ (i j : Nat) (s t : Sl), l[i]? = some s → l[j]? = some t → 0 < s.refs → 0 < t.refs → keyH s.nd.h s.kids = keyH t.nd.h t.kids → i = j) : ∀ j, j ≤ l.length → (plF l j).2 = liveN (l.take j) ∧ ∀ (i : Nat) (s : Sl), i < j → l[i]? = some s → 0 < s.refs → (plF l j).1 (keyH s.nd.h s.kids) = some i
  | 0, _ => ⟨by simp [plF, liveN], fun i s hi => by omega⟩
  | j + 1, hj => by
    obtain ⟨h1, h2⟩ := plF_count h j (by omega)
    have hs := List.getElem?_eq_getElem (show j < l.length by omega)
    rw [liveN_take (by omega)]
    unfold plF
    rw [hs]
    simp only
    by_cases hr : 0 < l[j].refs
    · rw [if_pos hr, if_pos hr]
      have hnone : (plF l j).1 (keyH l[j].nd.h l[j].kids) = none := by
        cases hF : (plF l j).1 (keyH l[j].nd.h l[j].kids) with
        | none => rfl
        | some p =>
          obtain ⟨hp, s, hps, hpr, hk⟩ := plF_in l j _ p hF
          have := h p j s _ hps hs hpr hr hk
          omega
      refine ⟨by rw [hnone]; simp; exact h1, fun i s hi his hir => ?_⟩
      by_cases e : keyH s.nd.h s.kids = keyH l[j].nd.h l[j].kids
      · have := h i j s _ his hs hir hr e
        subst this
        rw [hs] at his; cases his
        exact updF_same _ _ _
      · show updF _ _ _ _ = some i
        rw [updF_other _ _ e]
        have hij : i ≠ j := fun e' => by subst e'; rw [hs] at his; cases his; exact e rfl
        exact h2 i s (by omega) his hir
    · rw [if_neg hr, if_neg hr]
      refine ⟨by rw [h1]; rfl, fun i s hi his hir => ?_⟩
      have hij : i ≠ j := fun e' => by subst e'; rw [hs] at his; cases his; exact hr hir
      exact h2 i s (by omega) his hir
end Go.Proofs.Ytoocafcagelbgaa
