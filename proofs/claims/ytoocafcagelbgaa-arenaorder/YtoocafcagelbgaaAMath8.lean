/- The invariant with nothing owed makes an arena fit. -/
import Derived.Test.YtoocafcagelbgaaAMath7
namespace Go.Proofs.Ytoocafcagelbgaa
open Go.RowKit

theorem intL_count (ks : List Nat) (i : Nat) : (intL ks).count (i : Int) = ks.count i := by
  induction ks with
  | nil => rfl
  | cons k ks ih =>
    show ((k : Int) :: intL ks).count (i : Int) = _
    rw [List.count_cons, List.count_cons, ih]
    congr 1
    by_cases e : k = i
    · subst e; simp
    · have e2 : ((k : Int) == (i : Int)) = false := by simp; omega
      have e3 : (k == i) = false := by simp [e]
      rw [e2, e3]
theorem intL_nat (ks : List Nat) : (intL ks).map Int.toNat = ks := by
  unfold intL
  rw [List.map_map]
  conv => rhs; rw [← List.map_id ks]
  exact List.map_congr_left fun k _ => by simp
theorem cntS_sl (sl : List SN) (i : Nat) : cntS (sl.map SN.sl) i = cntK sl i := by
  unfold cntS cntK
  rw [List.map_map]
  congr 1
  exact List.map_congr_left fun s _ => intL_count s.ks i
theorem le_sum {z : Nat → Nat} : ∀ {l : List Nat} {k : Nat}, k ∈ l → z k ≤ (l.map z).sum
  | x :: l, k, h => by
    rw [List.map_cons, List.sum_cons]
    rcases List.mem_cons.1 h with rfl | h
    · omega
    · have := le_sum (z := z) h; omega
theorem sl_at {sl : List SN} {i : Nat} {t : Sl} (h : (sl.map SN.sl)[i]? = some t) : ∃ s, sl[i]? = some s ∧ t = s.sl := by
  rw [List.getElem?_map] at h
  obtain ⟨s, h1, h2⟩ := Option.map_eq_some_iff.1 h
  exact ⟨s, h1, h2.symm⟩
theorem Inv.zero {S : St} {z : Nat → Nat} {most : Nat} (h : Inv S [] z most) (p : Nat) : p ∈ S.fl ↔ ∃ s, S.sl[p]? = some s ∧ s.refs = 0 := by
  constructor
  · intro hp
    obtain ⟨s, hs, _, _, h3⟩ := h.free p hp
    exact ⟨s, hs, h3⟩
  · rintro ⟨s, hs, h0⟩
    rcases Classical.em (p ∈ S.fl) with h' | h'
    · exact h'
    · have := h.ow p s hs h' h0
      cases this
theorem Inv.fit {S : St} {z : Nat → Nat} {most : Nat} (h : Inv S [] z most) (hc : Chain S.sl S.fl) (hr : S.roots.length ≤ 4096) : fitAB S.ar most = true := by
  have hlen : (S.sl.map SN.sl).length = S.sl.length := by simp
  have hl4 := h.len
  have hrefs : ∀ (i : Nat) (s : Sl), (S.sl.map SN.sl)[i]? = some s → s.refs = (cntR (S.sl.map SN.sl) S.roots i : Int) := fun i t ht => by
    obtain ⟨s, hs, rfl⟩ := sl_at ht
    have := h.refs i s hs
    unfold cntR
    rw [cntS_sl]
    show (s.refs : Int) = _
    rw [this]
  have hslot : ∀ t ∈ S.sl.map SN.sl, slotB S.sl.length t = true := fun t ht => by
    obtain ⟨i, hi, rfl⟩ := List.getElem_of_mem ht
    obtain ⟨s, hs, e⟩ := sl_at (List.getElem?_eq_getElem hi)
    rw [e]
    unfold slotB
    have h1 : s.sl.nd.kids.isEmpty = true := rfl
    have h2 : decide (0 ≤ s.sl.refs) = true := decide_eq_true (by show (0 : Int) ≤ (s.refs : Int); omega)
    rw [h1, h2]
    by_cases hz : s.refs = 0
    · have hz' : s.sl.refs = 0 := by show (s.refs : Int) = 0; rw [hz]; rfl
      rw [if_pos hz']
      obtain ⟨s', hs', a, b, _⟩ := h.free i ((h.zero i).2 ⟨s, hs, hz⟩)
      rw [hs] at hs'; cases hs'
      have : keyH s.sl.nd.h s.sl.kids = zeroK := by
        show keyH s.h (intL s.ks) = zeroK
        rw [a, b]; rfl
      rw [this]; simp
    · have hz' : ¬ s.sl.refs = 0 := by show ¬ (s.refs : Int) = 0; omega
      rw [if_neg hz']
      have hnf : i ∉ S.fl := fun hm => by
        obtain ⟨s', hs', h0⟩ := (h.zero i).1 hm
        rw [hs] at hs'; cases hs'; exact hz h0
      have hn : s.sl.next = -1 := h.next i s hs hnf
      rw [hn]
      simp only [decide_true, Bool.true_and]
      refine List.all_eq_true.2 fun k hk => ?_
      have hk' : k ∈ intL s.ks := hk
      unfold intL at hk'
      obtain ⟨j, hj, rfl⟩ := List.mem_map.1 hk'
      have := (h.kids i s hs j hj).1
      unfold isSl
      exact decide_eq_true (by omega)
  unfold fitAB framedB
  show ((decide ((S.sl.map SN.sl).length ≤ 4096) && (decide (S.roots.length ≤ 4096) && (slotsB (S.sl.map SN.sl).length (S.sl.map SN.sl) && (freeB (S.sl.map SN.sl) S.free && (rootsB (S.sl.map SN.sl).length S.roots && (refsB (S.sl.map SN.sl) S.roots && treesB (S.sl.map SN.sl) S.roots most)))))) && decide ((plF (S.sl.map SN.sl) (S.sl.map SN.sl).length).2 = liveN (S.sl.map SN.sl))) = true
  rw [hlen]
  simp only [Bool.and_eq_true, decide_eq_true_eq]
  refine ⟨⟨hl4, hr, List.all_eq_true.2 hslot, ?_, List.all_eq_true.2 fun p hp => ?_, (refsB_iff _ _).2 hrefs, ?_⟩, ?_⟩
  · unfold freeB
    rw [hlen, ← free_count h.nd h.zero]
    exact frG_of hc (fun p hp => (h.zero p).1 hp)
  · unfold rootB
    rcases h.roots p hp with rfl | ⟨j, rfl, hj, _⟩
    · rfl
    · rw [Bool.or_eq_true]; right; unfold isSl; exact decide_eq_true (by omega)
  · refine treesB_of (d := z) (z := z) (fun i t ht k hk => ?_) (fun p hp => ?_) hrefs (fun i t ht h0 => ?_) (fun i t ht => ?_)
    · obtain ⟨s, hs, rfl⟩ := sl_at ht
      have hk' : k ∈ intL s.ks := hk
      unfold intL at hk'
      obtain ⟨j, hj, rfl⟩ := List.mem_map.1 hk'
      have h1 := (h.size i s hs).1
      have h2 := le_sum (z := z) hj
      exact ⟨j, rfl, by rw [hlen]; exact (h.kids i s hs j hj).1, by omega⟩
    · rcases h.roots p hp with e | ⟨j, e, hj, _⟩
      · exact .inl e
      · exact .inr ⟨j, e, by rw [hlen]; exact hj⟩
    · obtain ⟨s, hs, rfl⟩ := sl_at ht
      have h0' : (s.refs : Int) = 0 := h0
      obtain ⟨s', hs', _, b, _⟩ := h.free i ((h.zero i).2 ⟨s, hs, by omega⟩)
      rw [hs] at hs'; cases hs'
      show intL s.ks = []
      rw [b]; rfl
    · obtain ⟨s, hs, rfl⟩ := sl_at ht
      show z i = 1 + (((intL s.ks).map Int.toNat).map z).sum ∧ _
      rw [intL_nat]
      exact h.size i s hs
  · have hp := (plF_count (l := S.sl.map SN.sl) (fun i j s t hs ht h1 h2 hk => ?_) S.sl.length (by rw [hlen]; exact Nat.le_refl _)).1
    · rw [hp, List.take_of_length_le (by rw [hlen]; exact Nat.le_refl _)]
    · obtain ⟨s', hs', rfl⟩ := sl_at hs
      obtain ⟨t', ht', rfl⟩ := sl_at ht
      have g1 : (0 : Int) < (s'.refs : Int) := h1
      have g2 : (0 : Int) < (t'.refs : Int) := h2
      have n1 : i ∉ S.fl := fun hm => by
        obtain ⟨x, hx, h0⟩ := (h.zero i).1 hm
        rw [hs'] at hx; cases hx; omega
      have n2 : j ∉ S.fl := fun hm => by
        obtain ⟨x, hx, h0⟩ := (h.zero j).1 hm
        rw [ht'] at hx; cases hx; omega
      have f1 := (h.key (keyN s') i).2 ⟨n1, s', hs', rfl⟩
      have f2 := (h.key (keyN t') j).2 ⟨n2, t', ht', rfl⟩
      have hk' : keyN s' = keyN t' := hk
      rw [hk', f2] at f1
      exact (Option.some.inj f1).symm
end Go.Proofs.Ytoocafcagelbgaa
