/- A fit arena has the invariant; a root joined. -/
import Derived.Test.YtoocafcagelbgaaAMath8
namespace Go.Proofs.Ytoocafcagelbgaa
open Go.RowKit

theorem szK_eq {c : Nat → Nat} {most : Nat} : ∀ {ks : List Nat} {s r : Nat}, szK c most s ks = some r → r = s + (ks.map c).sum
  | [], s, r, h => by simp [szK] at h; simp [h]
  | k :: ks, s, r, h => by
    unfold szK at h
    split at h
    · cases h
    · split at h
      · cases h
      · have := szK_eq h
        rw [List.map_cons, List.sum_cons]; omega
theorem szAll_sum {K : Nat → List Nat} {most : Nat} : ∀ {l : List Nat} {c d : Nat → Nat}, szAll K most c l = some d → l.Nodup → (∀ p ∈ l, c p = 0) → (∀ i, i ∉ l → d i = c i) ∧ ∀ p ∈ l, d p = 1 + ((K p).map d).sum
  | [], c, d, h, _, _ => by simp [szAll] at h; subst h; exact ⟨fun i _ => rfl, fun p hp => by cases hp⟩
  | p :: l, c, d, h, hn, hc => by
    have hn' := List.nodup_cons.1 hn
    unfold szAll at h
    cases hk : szK c most 1 (K p) with
    | none => rw [hk] at h; cases h
    | some s =>
      rw [hk] at h
      have h1 := szK_eq hk
      obtain ⟨_, h2⟩ := szK_kids hk
      obtain ⟨h3, h4⟩ := szAll_sum h hn'.2 (fun q hq => by
        have : q ≠ p := fun e => hn'.1 (by rw [← e]; exact hq)
        show (if q = p then s else c q) = 0
        rw [if_neg this]; exact hc q (by simp [hq]))
      have hdp : d p = s := by
        have := h3 p hn'.1
        simpa using this
      refine ⟨fun i hi => ?_, fun q hq => ?_⟩
      · have hip : i ≠ p := fun e => hi (by simp [e])
        have := h3 i (fun h => hi (by simp [h]))
        rw [this]
        show (if i = p then s else c i) = c i
        rw [if_neg hip]
      · rcases List.mem_cons.1 hq with rfl | hq
        · rw [hdp, h1]
          congr 1
          refine (sum_congr fun k hk' => ?_).symm
          obtain ⟨e1, _⟩ := h2 k hk'
          have hkl : k ∉ q :: l := fun hm => e1 (hc k hm)
          have hkq : k ≠ q := fun e => hkl (by simp [e])
          rw [h3 k (fun h => hkl (by simp [h]))]
          show (if k = q then s else c k) = c k
          rw [if_neg hkq]
        · exact h4 q hq
theorem flG_len (l : List Sl) : ∀ {k : Nat} {p : Int}, frG l k p = true → (flG l k p).length = k
  | 0, p, _ => by simp [flG]
  | k + 1, p, h => by
    obtain ⟨hp, s, hs, _, _, h2⟩ := frG_succ h
    rw [flG_step hs hp, List.length_cons, flG_len l h2]
theorem plF_live (l : List Sl) : ∀ j, j ≤ l.length → (plF l j).2 ≤ liveN (l.take j)
  | 0, _ => by simp [plF]
  | j + 1, hj => by
    have := plF_live l j (by omega)
    rw [liveN_take (by omega)]
    unfold plF
    rw [List.getElem?_eq_getElem (by omega)]
    simp only
    split
    · simp only; split <;> omega
    · omega
theorem plF_all (l : List Sl) : ∀ j, j ≤ l.length → (plF l j).2 = liveN (l.take j) → ∀ (i : Nat) (s : Sl), i < j → l[i]? = some s → 0 < s.refs → (plF l j).1 (keyH s.nd.h s.kids) = some i
  | 0, _, _, i, s, hi, _, _ => by omega
  | j + 1, hj, he, i, s, hi, his, hir => by
    have hle := plF_live l j (by omega)
    have hs := List.getElem?_eq_getElem (show j < l.length by omega)
    rw [liveN_take (by omega)] at he
    unfold plF at he ⊢
    rw [hs] at he ⊢
    simp only at he ⊢
    by_cases hr : 0 < l[j].refs
    · rw [if_pos hr, if_pos hr] at he
      rw [if_pos hr]
      simp only at he ⊢
      have hnone : (plF l j).1 (keyH l[j].nd.h l[j].kids) = none := by
        cases hF : (plF l j).1 (keyH l[j].nd.h l[j].kids) with
        | none => rfl
        | some p => rw [hF] at he; simp at he; omega
      have he2 : (plF l j).2 = liveN (l.take j) := by rw [hnone] at he; simp at he; exact he
      by_cases e : i = j
      · have e3 : s = l[j] := by have h' := his; rw [e, hs] at h'; exact (Option.some.inj h').symm
        rw [e3, e]
        exact updF_same _ _ _
      · have h2 := plF_all l j (by omega) he2 i s (by omega) his hir
        have hne : keyH s.nd.h s.kids ≠ keyH l[j].nd.h l[j].kids := fun e' => by rw [e', hnone] at h2; cases h2
        rw [updF_other _ _ hne]; exact h2
    · rw [if_neg hr, if_neg hr] at he
      rw [if_neg hr]
      have hij : i ≠ j := fun e' => by
        have h' := his
        rw [e', hs] at h'
        exact hr (by rw [Option.some.inj h']; exact hir)
      exact plF_all l j (by omega) he i s (by omega) his hir
theorem inv_of_fit {a : Ar} {most : Nat} (h : fitAB a most = true) (hm : 1 ≤ most) : ∃ z, Inv (toSt a) [] z most := by
  obtain ⟨h1, h2, h3, h4, h5, h6, h7, h8⟩ := fit_parts h
  obtain ⟨hall, hnd⟩ := allP_live h
  have hsl : (a.slots.map toSN).map SN.sl = a.slots := congrArg Ar.slots (toSt_ar h)
  have hat : ∀ (i : Nat) (s : SN), (toSt a).sl[i]? = some s → ∃ t, a.slots[i]? = some t ∧ s = toSN t ∧ SlFit a.slots.length t := fun i s hs => by
    have hs' : (a.slots.map toSN)[i]? = some s := hs
    rw [List.getElem?_map] at hs'
    obtain ⟨t, ht, e⟩ := Option.map_eq_some_iff.1 hs'
    exact ⟨t, ht, e.symm, h3 t (List.mem_of_getElem? ht)⟩
  have hlen : (toSt a).sl.length = a.slots.length := by simp [toSt]
  have hrefs : ∀ (i : Nat) (t : Sl), a.slots[i]? = some t → t.refs.toNat = cntK (toSt a).sl i + a.roots.count (i : Int) := fun i t ht => by
    have e := h6 i t ht
    have e2 : cntS a.slots i = cntK (toSt a).sl i := by
      have := cntS_sl (a.slots.map toSN) i
      rw [hsl] at this
      exact this
    unfold cntR at e
    rw [e, e2]
    omega
  have hfm := flG_mem a.slots h4
  have hfall : ∀ (p : Nat) (t : Sl), a.slots[p]? = some t → t.refs = 0 → p ∈ (toSt a).fl := fun p t ht h0 => by
    have hzl : ∀ x ∈ (toSt a).fl, x ∈ (List.range a.slots.length).filter (fun i => decide (i ∉ liveL a.slots)) := fun x hx => by
      obtain ⟨_, s, hs, hr⟩ := hfm x hx
      refine List.mem_filter.2 ⟨List.mem_range.2 (List.getElem?_eq_some_iff.1 hs).1, decide_eq_true (fun hl => ?_)⟩
      obtain ⟨s', hs', hr'⟩ := liveL_mem.1 hl
      rw [hs] at hs'; cases hs'; exact hr hr'
    have hlnd : (liveL a.slots).Nodup := List.Pairwise.filter _ List.nodup_range
    have hll := liveL_len a.slots
    have hcount : ((List.range a.slots.length).filter (fun i => decide (i ∉ liveL a.slots))).length + (liveL a.slots).length ≤ a.slots.length := by
      have hn2 : ((List.range a.slots.length).filter (fun i => decide (i ∉ liveL a.slots)) ++ liveL a.slots).Nodup := List.nodup_append.2 ⟨List.Pairwise.filter _ List.nodup_range, hlnd, fun x hx y hy e => by
        subst e
        have := (List.mem_filter.1 hx).2
        simp only [decide_eq_true_eq] at this
        exact this hy⟩
      have := nodup_leN (c := List.range a.slots.length) hn2 (fun x hx => by
        rcases List.mem_append.1 hx with hx | hx
        · exact (List.mem_filter.1 hx).1
        · obtain ⟨s, hs, _⟩ := liveL_mem.1 hx; exact List.mem_range.2 (List.getElem?_eq_some_iff.1 hs).1)
      rw [List.length_append, List.length_range] at this
      exact this
    have hfl : (toSt a).fl.length = a.slots.length - liveN a.slots := flG_len _ h4
    refine nodup_all (L := (toSt a).fl) (flG_nodup _ h4) hzl (by omega) p (List.mem_filter.2 ⟨List.mem_range.2 (List.getElem?_eq_some_iff.1 ht).1, decide_eq_true (fun hl => ?_)⟩)
    obtain ⟨s', hs', hr'⟩ := liveL_mem.1 hl
    rw [ht] at hs'; cases hs'; omega
  have hnofl : ∀ (p : Nat) (t : Sl), a.slots[p]? = some t → 0 < t.refs → p ∉ (toSt a).fl := fun p t ht h0 hp => by
    obtain ⟨_, s, hs, hr⟩ := hfm p hp
    rw [ht] at hs; cases hs; exact hr h0
  have h7' := h7
  unfold treesB at h7'
  simp only [Bool.and_eq_true, Option.isSome_iff_exists] at h7'
  obtain ⟨⟨d, hd⟩, _⟩ := h7'
  obtain ⟨_, hds⟩ := szAll_sum hd hnd (fun _ _ => rfl)
  have hdm := szAll_le hm hd (fun _ => Nat.zero_le _)
  have hkl : ∀ (p : Nat) (t : Sl), a.slots[p]? = some t → ∀ k ∈ t.kids.map Int.toNat, k < a.slots.length ∧ ∃ u, a.slots[k]? = some u ∧ 0 < u.refs := fun p t ht k hk => by
    obtain ⟨x, hx, rfl⟩ := List.mem_map.1 hk
    obtain ⟨j, rfl, hj⟩ := (h3 t (List.mem_of_getElem? ht)).kids x hx
    have hc := cntS_pos ht hx
    have e := h6 j _ (List.getElem?_eq_getElem hj)
    unfold cntR at e
    exact ⟨by simpa using hj, _, by rw [Int.toNat_natCast]; exact List.getElem?_eq_getElem hj, by omega⟩
  refine ⟨fun i => if i ∈ liveL a.slots then d i else 1, ⟨fun i s hs => ?_, fun p hp => ?_, fun k p => ?_, fun p s hs k hk => ?_, fun r hr => ?_, fun p s hs hp => ?_, fun p s hs => ?_, fun p s hs hp h0 => ?_, by rw [hlen]; exact h1, flG_nodup _ h4⟩⟩
  · obtain ⟨t, ht, rfl, _⟩ := hat i s hs
    exact hrefs i t ht
  · obtain ⟨_, t, ht, hr⟩ := hfm p hp
    have hf := h3 t (List.mem_of_getElem? ht)
    have hz : t.refs = 0 := by have := hf.refs; omega
    refine ⟨toSN t, by show (a.slots.map toSN)[p]? = _; rw [List.getElem?_map, ht]; rfl, (hf.zero hz).2, ?_, ?_⟩
    · show t.kids.map Int.toNat = []
      rw [(hf.zero hz).1]; rfl
    · show t.refs.toNat = 0
      rw [hz]; rfl
  · constructor
    · intro hF
      obtain ⟨_, t, ht, hr, hk⟩ := plF_in _ _ k p hF
      refine ⟨hnofl p t ht hr, toSN t, by show (a.slots.map toSN)[p]? = _; rw [List.getElem?_map, ht]; rfl, ?_⟩
      have hf := h3 t (List.mem_of_getElem? ht)
      show keyH t.nd.h (intL (t.kids.map Int.toNat)) = k
      rw [hf.intL]; exact hk
    · rintro ⟨hp, s, hs, hk⟩
      obtain ⟨t, ht, rfl, hf⟩ := hat p s hs
      have hr : 0 < t.refs := by
        have := hf.refs
        rcases Int.lt_or_eq_of_le this with h' | h'
        · exact h'
        · exact absurd (hfall p t ht h'.symm) hp
      have hk' : keyH t.nd.h (intL (t.kids.map Int.toNat)) = k := hk
      rw [hf.intL] at hk'
      rw [← hk']
      exact plF_all a.slots a.slots.length (Nat.le_refl _) (by rw [List.take_length]; exact h8) p t (List.getElem?_eq_some_iff.1 ht).1 ht hr
  · obtain ⟨t, ht, rfl, _⟩ := hat p s hs
    obtain ⟨a1, u, hu, hr⟩ := hkl p t ht k hk
    exact ⟨by rw [hlen]; exact a1, hnofl k u hu hr⟩
  · have hr' : r ∈ a.roots := hr
    rcases root_or (h5 r hr') with e | h0
    · exact .inl e
    · right
      have hb := h5 r hr'
      unfold rootB at hb
      simp only [Bool.or_eq_true, decide_eq_true_eq] at hb
      rcases hb with e | hb
      · omega
      · obtain ⟨j, rfl, hj⟩ := isSl_in hb
        refine ⟨j, rfl, by rw [hlen]; exact hj, hnofl j _ (List.getElem?_eq_getElem hj) ?_⟩
        have e := h6 j _ (List.getElem?_eq_getElem hj)
        unfold cntR at e
        have : 1 ≤ a.roots.count (j : Int) := List.count_pos_iff.2 hr'
        omega
  · obtain ⟨t, ht, rfl, hf⟩ := hat p s hs
    exact hf.next (fun h0 => hp (hfall p t ht h0))
  · obtain ⟨t, ht, rfl, hf⟩ := hat p s hs
    show (if p ∈ liveL a.slots then d p else 1) = 1 + ((t.kids.map Int.toNat).map fun i => if i ∈ liveL a.slots then d i else 1).sum ∧ (if p ∈ liveL a.slots then d p else 1) ≤ most
    by_cases hp : p ∈ liveL a.slots
    · rw [if_pos hp]
      have e := hds p ((hall p).2 hp)
      rw [Kf_some ht] at e
      refine ⟨e.trans ?_, hdm p⟩
      congr 1
      refine (sum_congr fun k hk => ?_).symm
      obtain ⟨_, u, hu, hr⟩ := hkl p t ht k hk
      exact if_pos (liveL_mem.2 ⟨u, hu, hr⟩)
    · rw [if_neg hp]
      have hz : t.refs = 0 := by
        have := hf.refs
        rcases Int.lt_or_eq_of_le this with h' | h'
        · exact absurd (liveL_mem.2 ⟨t, ht, h'⟩) hp
        · exact h'.symm
      rw [(hf.zero hz).1]
      exact ⟨by simp, hm⟩
  · obtain ⟨t, ht, rfl, hf⟩ := hat p s hs
    have h0' : t.refs.toNat = 0 := h0
    have := hf.refs
    exact absurd (hfall p t ht (by omega)) hp
end Go.Proofs.Ytoocafcagelbgaa
