/- Fit arenas: each live place is within the roots, once; a rank. -/
import Derived.Test.YtoocafcagelbgaaAMath2
namespace Go.Proofs.Ytoocafcagelbgaa
open Go.RowKit

theorem nodup_leN : ∀ {L c : List Nat}, L.Nodup → (∀ x ∈ L, x ∈ c) → L.length ≤ c.length
  | [], _, _, _ => Nat.zero_le _
  | x :: L, c, hn, h => by
    have hx := h x (by simp)
    have h2 := List.nodup_cons.1 hn
    have := nodup_leN (L := L) (c := c.erase x) h2.2 (fun y hy => (List.mem_erase_of_ne (fun e => h2.1 (by rw [← e]; exact hy))).2 (h y (by simp [hy])))
    rw [List.length_erase_of_mem hx] at this
    have := List.length_pos_of_mem hx
    simp only [List.length_cons]
    omega
theorem nodup_all {L c : List Nat} (hn : L.Nodup) (h : ∀ x ∈ L, x ∈ c) (hl : c.length ≤ L.length) : ∀ x ∈ c, x ∈ L := by
  intro x hx
  rcases Classical.em (x ∈ L) with h' | h'
  · exact h'
  · exfalso
    have := nodup_leN (L := L) (c := c.erase x) hn (fun y hy => (List.mem_erase_of_ne (fun e => h' (by rw [← e]; exact hy))).2 (h y hy))
    rw [List.length_erase_of_mem hx] at this
    have := List.length_pos_of_mem hx
    omega
/-- What a walk hands out: each once, all that it met. -/
structure Told (K : Nat → List Nat) (ps : List Nat) (m m' : List Bool) (out : List Nat) : Prop where
  nd : out.Nodup
  new : ∀ x ∈ out, m.getD x true = false
  met : ∀ x ∈ out, m'.getD x true = true
  src : ∀ x ∈ out, x ∈ ps ∨ ∃ y ∈ out, x ∈ K y
theorem told_row {K : Nat → List Nat} {g : List Bool → Nat → List Bool × List Nat} (hgr : ∀ m p, Grows m (g m p).1) (hg : ∀ m p, Told K [p] m (g m p).1 (g m p).2) : ∀ (l : List Nat) (m : List Bool), Told K l m (wkRow g m l).1 (wkRow g m l).2
  | [], m => ⟨by simp [wkRow], fun x h => by simp [wkRow] at h, fun x h => by simp [wkRow] at h, fun x h => by simp [wkRow] at h⟩
  | k :: l, m => by
    have h1 := hg m k
    have h2 := told_row hgr hg l (g m k).1
    have hs := grows_row hgr l (g m k).1
    simp only [wkRow]
    refine ⟨List.nodup_append.2 ⟨h1.nd, h2.nd, fun a ha b hb e => ?_⟩, fun x hx => ?_, fun x hx => ?_, fun x hx => ?_⟩
    · subst e
      have e1 := h1.met a ha
      have e2 := h2.new a hb
      rw [e1] at e2; cases e2
    · rcases List.mem_append.1 hx with hx | hx
      · exact h1.new x hx
      · have e2 := h2.new x hx
        cases e : m.getD x true with
        | false => rfl
        | true => rw [(hgr m k).stay x e] at e2; cases e2
    · rcases List.mem_append.1 hx with hx | hx
      · exact hs.stay x (h1.met x hx)
      · exact h2.met x hx
    · rcases List.mem_append.1 hx with hx | hx
      · rcases h1.src x hx with h | ⟨y, hy, h⟩
        · simp only [List.mem_singleton] at h; exact .inl (by simp [h])
        · exact .inr ⟨y, List.mem_append.2 (.inl hy), h⟩
      · rcases h2.src x hx with h | ⟨y, hy, h⟩
        · exact .inl (by simp [h])
        · exact .inr ⟨y, List.mem_append.2 (.inr hy), h⟩
theorem told_wk (K : Nat → List Nat) : ∀ (f : Nat) (m : List Bool) (p : Nat), Told K [p] m (wk K f m p).1 (wk K f m p).2
  | 0, m, p => ⟨by simp [wk], fun x h => by simp [wk] at h, fun x h => by simp [wk] at h, fun x h => by simp [wk] at h⟩
  | f + 1, m, p => by
    unfold wk
    by_cases h : m.getD p true = true
    · rw [if_pos h]
      exact ⟨by simp, fun x h => by simp at h, fun x h => by simp at h, fun x h => by simp at h⟩
    · rw [if_neg h]
      have hf : m.getD p true = false := by simpa using h
      have h2 := told_row (grows_wk K f) (told_wk K f) (K p) (m.set p true)
      have hgs := grows_set hf
      have hgr := grows_row (grows_wk K f) (K p) (m.set p true)
      have hpm : (m.set p true).getD p true = true := by
        rw [List.getD_eq_getElem?_getD, List.getElem?_set]
        split
        · split <;> rfl
        · rename_i h; exact absurd rfl h
      have hne : ∀ x ∈ (wkRow (wk K f) (m.set p true) (K p)).2, x ≠ p := fun x hx e => by
        subst e
        have := h2.new x hx
        rw [hpm] at this; cases this
      refine ⟨List.nodup_append.2 ⟨h2.nd, by simp, fun a ha b hb e => ?_⟩, fun x hx => ?_, fun x hx => ?_, fun x hx => ?_⟩
      · simp only [List.mem_singleton] at hb
        exact hne a ha (by rw [e, hb])
      · rcases List.mem_append.1 hx with hx | hx
        · have e2 := h2.new x hx
          cases e : m.getD x true with
          | false => rfl
          | true => rw [hgs.stay x e] at e2; cases e2
        · simp only [List.mem_singleton] at hx; subst hx; exact hf
      · rcases List.mem_append.1 hx with hx | hx
        · exact h2.met x hx
        · simp only [List.mem_singleton] at hx; subst hx; exact hgr.stay _ hpm
      · rcases List.mem_append.1 hx with hx | hx
        · rcases h2.src x hx with h | ⟨y, hy, h⟩
          · exact .inr ⟨p, by simp, h⟩
          · exact .inr ⟨y, List.mem_append.2 (.inl hy), h⟩
        · exact .inl hx
theorem told_all (l : List Sl) (roots : List Int) : Told (Kf l) (rN roots) (List.replicate l.length false) (wkRow (wk (Kf l) (l.length + 1)) (List.replicate l.length false) (rN roots)).1 (allP l roots) := told_row (grows_wk (Kf l) _) (told_wk (Kf l) _) _ _
/-- Which places are live. -/
def liveL (l : List Sl) : List Nat := (List.range l.length).filter fun i => match l[i]? with | some s => decide (0 < s.refs) | none => false
theorem liveL_mem {l : List Sl} {i : Nat} : i ∈ liveL l ↔ ∃ s, l[i]? = some s ∧ 0 < s.refs := by
  unfold liveL
  rw [List.mem_filter, List.mem_range]
  constructor
  · rintro ⟨hi, h⟩
    rw [List.getElem?_eq_getElem hi] at h
    exact ⟨_, List.getElem?_eq_getElem hi, by simpa using h⟩
  · rintro ⟨s, hs, hr⟩
    refine ⟨(List.getElem?_eq_some_iff.1 hs).1, ?_⟩
    rw [hs]; simpa using hr
theorem liveL_len (l : List Sl) : (liveL l).length = liveN l := by
  have h : ∀ j, j ≤ l.length → ((List.range j).filter fun i => match l[i]? with | some s => decide (0 < s.refs) | none => false).length = liveN (l.take j) := by
    intro j
    induction j with
    | zero => intro _; simp [liveN]
    | succ j ih =>
      intro hj
      rw [List.range_succ, List.filter_append, List.length_append, ih (by omega), liveN_take (by omega)]
      congr 1
      rw [List.filter_cons, List.getElem?_eq_getElem (by omega)]
      simp only
      by_cases h : 0 < l[j].refs
      · simp [h]
      · simp [h]
  have := h l.length (Nat.le_refl _)
  rw [List.take_length] at this
  exact this
theorem rN_mem {xs : List Int} {x : Nat} (h : x ∈ rN xs) (hr : ∀ p ∈ xs, p = -1 ∨ 0 ≤ p) : (x : Int) ∈ xs := by
  unfold rN at h
  obtain ⟨y, hy, rfl⟩ := List.mem_map.1 h
  obtain ⟨h1, h2⟩ := List.mem_filter.1 hy
  simp only [decide_eq_true_eq] at h2
  rcases hr y h1 with h3 | h3
  · exact absurd h3 h2
  · have e : ((y.toNat : Nat) : Int) = y := by omega
    rw [e]; exact h1
theorem root_or {n : Nat} {p : Int} (h : rootB n p = true) : p = -1 ∨ 0 ≤ p := by
  unfold rootB at h
  simp only [Bool.or_eq_true, decide_eq_true_eq] at h
  rcases h with h | h
  · exact .inl h
  · obtain ⟨i, rfl, _⟩ := isSl_in h; exact .inr (by omega)
theorem cntS_pos {l : List Sl} {y x : Nat} {s : Sl} (hs : l[y]? = some s) (hx : (x : Int) ∈ s.kids) : 1 ≤ cntS l x := by
  unfold cntS
  have h1 : 1 ≤ s.kids.count (x : Int) := List.count_pos_iff.2 hx
  have h2 : s.kids.count (x : Int) ∈ l.map (fun s => s.kids.count (x : Int)) := List.mem_map.2 ⟨s, List.mem_of_getElem? hs, rfl⟩
  have h3 : ∀ (L : List Nat) (a : Nat), a ∈ L → a ≤ L.sum := by
    intro L a ha
    induction L with
    | nil => cases ha
    | cons b L ih =>
      rw [List.sum_cons]
      rcases List.mem_cons.1 ha with rfl | ha
      · omega
      · have := ih ha; omega
  exact Nat.le_trans h1 (h3 _ _ h2)
/-- All that is within the roots is live, and the other way round. -/
theorem allP_live {a : Ar} {most : Nat} (h : fitAB a most = true) : (∀ x, x ∈ allP a.slots a.roots ↔ x ∈ liveL a.slots) ∧ (allP a.slots a.roots).Nodup := by
  obtain ⟨h1, h2, h3, h4, h5, h6, h7, h8⟩ := fit_parts h
  have ht := told_all a.slots a.roots
  have hroot : ∀ p ∈ a.roots, p = -1 ∨ 0 ≤ p := fun p hp => root_or (h5 p hp)
  have hsub : ∀ x ∈ allP a.slots a.roots, x ∈ liveL a.slots := fun x hx => by
    have hxl := allP_in _ _ x hx
    have e := h6 x _ (List.getElem?_eq_getElem hxl)
    refine liveL_mem.2 ⟨_, List.getElem?_eq_getElem hxl, ?_⟩
    rw [e]
    unfold cntR
    rcases ht.src x hx with h | ⟨y, hy, h⟩
    · have : 1 ≤ a.roots.count (x : Int) := List.count_pos_iff.2 (rN_mem h hroot)
      omega
    · have hyl := allP_in _ _ y hy
      rw [Kf_some (List.getElem?_eq_getElem hyl)] at h
      obtain ⟨k, hk, rfl⟩ := List.mem_map.1 h
      obtain ⟨i, rfl, _⟩ := (h3 _ (List.getElem_mem hyl)).kids k hk
      have : 1 ≤ cntS a.slots i := cntS_pos (List.getElem?_eq_getElem hyl) hk
      simp only [Int.toNat_natCast]
      omega
  have hlen : (allP a.slots a.roots).length = liveN a.slots := by
    unfold treesB at h7
    simp only [Bool.and_eq_true, decide_eq_true_eq] at h7
    exact h7.2
  exact ⟨fun x => ⟨hsub x, nodup_all ht.nd hsub (by rw [liveL_len, hlen]; exact Nat.le_refl _) x⟩, ht.nd⟩
theorem szK_kids {c : Nat → Nat} {most : Nat} : ∀ {ks : List Nat} {s r : Nat}, szK c most s ks = some r → s ≤ r ∧ ∀ k ∈ ks, c k ≠ 0 ∧ s + c k ≤ r
  | [], s, r, h => by simp [szK] at h; exact ⟨by omega, fun k hk => by cases hk⟩
  | k :: ks, s, r, h => by
    unfold szK at h
    split at h
    · cases h
    · rename_i h0
      split at h
      · cases h
      · obtain ⟨h1, h2⟩ := szK_kids h
        refine ⟨by omega, fun x hx => ?_⟩
        rcases List.mem_cons.1 hx with rfl | hx
        · exact ⟨h0, h1⟩
        · have := h2 x hx; exact ⟨this.1, by omega⟩
theorem szAll_rank {K : Nat → List Nat} {most : Nat} : ∀ {l : List Nat} {c d : Nat → Nat}, szAll K most c l = some d → l.Nodup → (∀ p ∈ l, c p = 0) → (∀ i, i ∉ l → d i = c i) ∧ ∀ p ∈ l, 1 ≤ d p ∧ ∀ k ∈ K p, d k ≠ 0 ∧ d k < d p
  | [], c, d, h, _, _ => by simp [szAll] at h; subst h; exact ⟨fun i _ => rfl, fun p hp => by cases hp⟩
  | p :: l, c, d, h, hn, hc => by
    have hn' := List.nodup_cons.1 hn
    unfold szAll at h
    cases hk : szK c most 1 (K p) with
    | none => rw [hk] at h; cases h
    | some s =>
      rw [hk] at h
      obtain ⟨h1, h2⟩ := szK_kids hk
      obtain ⟨h3, h4⟩ := szAll_rank h hn'.2 (fun q hq => by
        have : q ≠ p := fun e => hn'.1 (by rw [← e]; exact hq)
        show (if q = p then s else c q) = 0
        rw [if_neg this]; exact hc q (by simp [hq]))
      have hdp : d p = s := by
        have := h3 p hn'.1
        simpa using this
      refine ⟨fun i hi => ?_, fun q hq => ?_⟩
      · have hip : i ≠ p := fun e => hi (by simp [e])
        have := h3 i (fun h => hi (by simp [h]))
        rw [this]
        show (if i = p then s else c i) = c i
        rw [if_neg hip]
      · rcases List.mem_cons.1 hq with rfl | hq
        · refine ⟨by omega, fun k hk' => ?_⟩
          obtain ⟨e1, e2⟩ := h2 k hk'
          have hkl : k ∉ q :: l := fun hm => e1 (hc k hm)
          have hkq : k ≠ q := fun e => hkl (by simp [e])
          have := h3 k (fun h => hkl (by simp [h]))
          have e3 : d k = c k := by
            rw [this]
            show (if k = q then s else c k) = c k
            rw [if_neg hkq]
          rw [e3, hdp]
          exact ⟨e1, by omega⟩
        · exact h4 q hq
/-- Sizes, as a rank: kids are smaller. -/
theorem fit_rank {a : Ar} {most : Nat} (h : fitAB a most = true) : ∃ d : Nat → Nat, ∀ (i : Nat) (s : Sl), a.slots[i]? = some s → ∀ k ∈ s.kids.map Int.toNat, d k < d i := by
  obtain ⟨h1, h2, h3, h4, h5, h6, h7, h8⟩ := fit_parts h
  obtain ⟨hall, hnd⟩ := allP_live h
  unfold treesB at h7
  simp only [Bool.and_eq_true, Option.isSome_iff_exists] at h7
  obtain ⟨⟨d, hd⟩, _⟩ := h7
  obtain ⟨_, hr⟩ := szAll_rank hd hnd (fun _ _ => rfl)
  refine ⟨d, fun i s hs k hk => ?_⟩
  have hsf := h3 s (List.mem_of_getElem? hs)
  by_cases hz : s.refs = 0
  · rw [(hsf.zero hz).1] at hk; cases hk
  · have hin : i ∈ allP a.slots a.roots := (hall i).2 (liveL_mem.2 ⟨s, hs, by have := hsf.refs; omega⟩)
    exact ((hr i hin).2 k (by rw [Kf_some hs]; exact hk)).2
end Go.Proofs.Ytoocafcagelbgaa
