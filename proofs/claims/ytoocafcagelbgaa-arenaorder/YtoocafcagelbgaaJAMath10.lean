/- Texts joined: AMath10, AMath11. -/
import Derived.Test.YtoocafcagelbgaaAMath9
import Derived.Test.YtoocafcagelbgaaBAdd
/- What Add leaves is fit. -/
namespace Go.Proofs.Ytoocafcagelbgaa
open Go.RowKit

theorem bump_in {sl : List SN} {p i : Nat} {s' : SN} (h : (bump sl p)[i]? = some s') : ∃ s, sl[i]? = some s ∧ s' = { s with refs := s.refs + if i = p then 1 else 0 } := by
  rw [bump_get] at h
  by_cases e : i = p
  · rw [if_pos e] at h
    obtain ⟨s, h1, h2⟩ := Option.map_eq_some_iff.1 h
    exact ⟨s, h1, by rw [if_pos e]; exact h2.symm⟩
  · rw [if_neg e] at h
    exact ⟨s', h, by rw [if_neg e]; rfl⟩
theorem bump_at {sl : List SN} {p i : Nat} {s : SN} (h : sl[i]? = some s) : (bump sl p)[i]? = some { s with refs := s.refs + if i = p then 1 else 0 } := by
  rw [bump_get, h]
  by_cases e : i = p
  · rw [if_pos e, if_pos e]; rfl
  · rw [if_neg e, if_neg e]; rfl
theorem Inv.add {S : St} {z : Nat → Nat} {most p : Nat} (h : Inv S [p] z most) (hp : p < S.sl.length) (hf : p ∉ S.fl) : Inv (addS S p) [] z most := by
  have hlen : (addS S p).sl.length = S.sl.length := bump_len _ _
  refine ⟨fun i s' hs' => ?_, fun q hq => ?_, fun k i => ?_, fun i s' hs' k hk => ?_, fun r hr => ?_, fun i s' hs' hi => ?_, fun i s' hs' => ?_, fun i s' hs' hi h0 => ?_, by rw [hlen]; exact h.len, h.nd⟩
  · obtain ⟨s, hs, rfl⟩ := bump_in hs'
    show s.refs + _ = cntK (bump S.sl p) i + (S.roots ++ [(p : Int)]).count (i : Int)
    rw [cntK_bump, List.count_append, h.refs i s hs]
    have : List.count (i : Int) [(p : Int)] = if i = p then 1 else 0 := by
      rw [List.count_cons, List.count_nil]
      by_cases e : i = p
      · subst e; simp
      · have e2 : ((p : Int) == (i : Int)) = false := by simp; omega
        rw [e2, if_neg e]; rfl
    rw [this]; omega
  · obtain ⟨s, hs, a, b, c⟩ := h.free q hq
    have hne : q ≠ p := fun e => hf (by rw [← e]; exact hq)
    refine ⟨s, ?_, a, b, c⟩
    show (bump S.sl p)[q]? = some s
    rw [bump_get, if_neg hne, hs]
  · show S.F k = some i ↔ _
    rw [h.key]
    constructor
    · rintro ⟨a, s, hs, hk⟩
      exact ⟨a, { s with refs := s.refs + if i = p then 1 else 0 }, bump_at hs, hk⟩
    · rintro ⟨a, s', hs', hk⟩
      obtain ⟨s, hs, rfl⟩ := bump_in hs'
      exact ⟨a, s, hs, hk⟩
  · obtain ⟨s, hs, rfl⟩ := bump_in hs'
    rw [hlen]
    exact h.kids i s hs k hk
  · have hr' : r ∈ S.roots ++ [(p : Int)] := hr
    rw [hlen]
    rcases List.mem_append.1 hr' with hr' | hr'
    · exact h.roots r hr'
    · simp only [List.mem_singleton] at hr'
      exact .inr ⟨p, hr', hp, hf⟩
  · obtain ⟨s, hs, rfl⟩ := bump_in hs'
    exact h.next i s hs hi
  · obtain ⟨s, hs, rfl⟩ := bump_in hs'
    exact h.size i s hs
  · obtain ⟨s, hs, rfl⟩ := bump_in hs'
    have h0' : s.refs + (if i = p then 1 else 0) = 0 := h0
    by_cases e : i = p
    · rw [if_pos e] at h0'; omega
    · have := h.ow i s hs hi (by omega)
      simp only [List.mem_singleton] at this
      exact absurd this e
/-- What Add leaves is fit again. -/
theorem add_fit {a : Ar} {t : Nd} {S2 : St} {p : Nat} (h : fitAB a 1048576 = true) (hc : cntN t ≤ 1048576) (hl : layN t (toSt a) 0 = (S2, some p)) (hr : a.roots.length < 4096) {R : Nat} (hw : Wf (addS S2 p) R) : fitAB (addS S2 p).ar 1048576 = true := by
  obtain ⟨z, hi⟩ := inv_of_fit h (by omega)
  obtain ⟨z', h1, _, _, h2, h3⟩ := layN_inv t (toSt a) [] z 1048576 0 S2 p hi hc hl
  have hro : S2.roots = a.roots := by have := layN_roots t (toSt a) 0; rw [hl] at this; exact this
  refine (h1.add h2 h3).fit hw.chain ?_
  show (S2.roots ++ [(p : Int)]).length ≤ 4096
  rw [hro]; simp; omega
end Go.Proofs.Ytoocafcagelbgaa
/- What Drop leaves is fit. -/
namespace Go.Proofs.Ytoocafcagelbgaa
open Go.RowKit

/-- What holds of a builder while it releases: pd is still to be released. -/
structure InvR (S : St) (pd : List Nat) (z : Nat → Nat) (most : Nat) : Prop where
  refs : ∀ (i : Nat) (s : SN), S.sl[i]? = some s → s.refs = cntK S.sl i + S.roots.count (i : Int) + pd.count i
  free : ∀ p ∈ S.fl, ∃ s, S.sl[p]? = some s ∧ s.h = zeroH ∧ s.ks = [] ∧ s.refs = 0
  key : ∀ (k : HK) (p : Nat), S.F k = some p ↔ p ∉ S.fl ∧ ∃ s, S.sl[p]? = some s ∧ keyN s = k
  kids : ∀ (p : Nat) (s : SN), S.sl[p]? = some s → ∀ k ∈ s.ks, k < S.sl.length ∧ k ∉ S.fl
  roots : ∀ p ∈ S.roots, p = -1 ∨ ∃ j : Nat, p = j ∧ j < S.sl.length ∧ j ∉ S.fl
  next : ∀ (p : Nat) (s : SN), S.sl[p]? = some s → p ∉ S.fl → s.next = -1
  size : ∀ (p : Nat) (s : SN), S.sl[p]? = some s → p ∉ S.fl → z p = 1 + (s.ks.map z).sum ∧ z p ≤ most
  pos : ∀ (p : Nat) (s : SN), S.sl[p]? = some s → p ∉ S.fl → 1 ≤ s.refs
  pd : ∀ q ∈ pd, q < S.sl.length ∧ q ∉ S.fl
  len : S.sl.length ≤ 4096
  nd : S.fl.Nodup
  chain : Chain S.sl S.fl
theorem set_in {sl : List SN} {i j : Nat} {s t : SN} (h : (sl.set i s)[j]? = some t) : (j = i ∧ t = s) ∨ (j ≠ i ∧ sl[j]? = some t) := by
  rw [List.getElem?_set] at h
  by_cases e : i = j
  · rw [if_pos e] at h
    split at h
    · cases h; exact .inl ⟨e.symm, rfl⟩
    · cases h
  · rw [if_neg e] at h
    exact .inr ⟨fun h => e h.symm, h⟩
theorem set_o {sl : List SN} {i j : Nat} {s : SN} (h : j ≠ i) : (sl.set i s)[j]? = sl[j]? := by rw [List.getElem?_set, if_neg (fun e => h e.symm)]
theorem set_s {sl : List SN} {i : Nat} {s s0 : SN} (h : sl[i]? = some s0) : (sl.set i s)[i]? = some s := by rw [List.getElem?_set, if_pos rfl, if_pos (List.getElem?_eq_some_iff.1 h).1]
theorem InvR.less {S : St} {pd : List Nat} {z : Nat → Nat} {most i : Nat} {s : SN} (h : InvR S (i :: pd) z most) (hs : S.sl[i]? = some s) (hr : 1 < s.refs) : InvR (S.setSl i { s with refs := s.refs - 1 }) pd z most := by
  have hif := (h.pd i (by simp)).2
  have hlen : (S.setSl i { s with refs := s.refs - 1 }).sl.length = S.sl.length := by simp [St.setSl]
  have hck : ∀ j, cntK (S.sl.set i { s with refs := s.refs - 1 }) j = cntK S.sl j := fun j => by
    have := cntK_set hs { s with refs := s.refs - 1 } j
    simp only at this; omega
  have hback : ∀ (j : Nat) (t : SN), (S.sl.set i { s with refs := s.refs - 1 })[j]? = some t → ∃ u, S.sl[j]? = some u ∧ t.h = u.h ∧ t.ks = u.ks ∧ t.next = u.next ∧ (j ≠ i → t = u) := fun j t ht => by
    rcases set_in ht with ⟨rfl, rfl⟩ | ⟨hne, h'⟩
    · exact ⟨s, hs, rfl, rfl, rfl, fun h => absurd rfl h⟩
    · exact ⟨t, h', rfl, rfl, rfl, fun _ => rfl⟩
  have hfwd : ∀ (j : Nat) (u : SN), S.sl[j]? = some u → ∃ t, (S.sl.set i { s with refs := s.refs - 1 })[j]? = some t ∧ keyN t = keyN u ∧ t.next = u.next := fun j u hu => by
    by_cases e : j = i
    · subst e; rw [hs] at hu; cases hu
      exact ⟨_, set_s hs, rfl, rfl⟩
    · exact ⟨u, by rw [set_o e]; exact hu, rfl, rfl⟩
  have hkn : ∀ {t u : SN}, t.h = u.h → t.ks = u.ks → keyN t = keyN u := fun a b => by unfold keyN; rw [a, b]
  refine ⟨fun j t ht => ?_, fun q hq => ?_, fun k q => ?_, fun j t ht k hk => ?_, fun r hr => by rw [hlen]; exact h.roots r hr, fun j t ht hj => ?_, fun j t ht hj => ?_, fun j t ht hj => ?_, fun q hq => by rw [hlen]; exact h.pd q (by simp [hq]), by rw [hlen]; exact h.len, h.nd, ?_⟩
  · show t.refs = cntK (S.sl.set i _) j + S.roots.count (j : Int) + pd.count j
    rw [hck]
    rcases set_in ht with ⟨rfl, rfl⟩ | ⟨hne, h'⟩
    · have := h.refs j s hs
      rw [List.count_cons] at this
      simp at this
      simp only; omega
    · have := h.refs j t h'
      rw [List.count_cons] at this
      have e : (i == j) = false := by simp; exact fun e => hne e.symm
      rw [e] at this
      simpa using this
  · obtain ⟨t, ht, a, b, c⟩ := h.free q hq
    have hne : q ≠ i := fun e => hif (by rw [← e]; exact hq)
    exact ⟨t, by show (S.sl.set i _)[q]? = _; rw [set_o hne]; exact ht, a, b, c⟩
  · show S.F k = some q ↔ _
    rw [h.key]
    constructor
    · rintro ⟨a, u, hu, hk⟩
      obtain ⟨t, ht, e, _⟩ := hfwd q u hu
      exact ⟨a, t, ht, e.trans hk⟩
    · rintro ⟨a, t, ht, hk⟩
      obtain ⟨u, hu, e1, e2, _⟩ := hback q t ht
      exact ⟨a, u, hu, (hkn e1 e2).symm.trans hk⟩
  · obtain ⟨u, hu, _, e2, _⟩ := hback j t ht
    rw [hlen]
    exact h.kids j u hu k (by rw [← e2]; exact hk)
  · obtain ⟨u, hu, _, _, e3, _⟩ := hback j t ht
    rw [e3]; exact h.next j u hu hj
  · obtain ⟨u, hu, _, e2, _⟩ := hback j t ht
    rw [e2]; exact h.size j u hu hj
  · rcases set_in ht with ⟨rfl, rfl⟩ | ⟨hne, h'⟩
    · simp only; omega
    · exact h.pos j t h' hj
  · exact h.chain.same fun q _ u hu => by
      obtain ⟨t, ht, _, e⟩ := hfwd q u hu
      exact ⟨t, ht, e⟩
theorem InvR.last {S : St} {pd : List Nat} {z : Nat → Nat} {most i : Nat} {s : SN} (h : InvR S (i :: pd) z most) (hs : S.sl[i]? = some s) (hr : ¬ 1 < s.refs) : InvR (relJ S i s) (s.ks ++ pd) z most := by
  have hif := (h.pd i (by simp)).2
  have hpos := h.pos i s hs hif
  have hri := h.refs i s hs
  rw [List.count_cons] at hri
  simp only [beq_self_eq_true, if_true] at hri
  have hc0 : cntK S.sl i = 0 := by omega
  have hr0 : S.roots.count (i : Int) = 0 := by omega
  have hp0 : pd.count i = 0 := by omega
  have hnoK : ∀ (j : Nat) (t : SN), S.sl[j]? = some t → i ∉ t.ks := fun j t ht hm => by have := cntK_pos ht hm; omega
  have hlen : (relJ S i s).sl.length = S.sl.length := by simp [relJ]
  have hck : ∀ j, cntK (S.sl.set i (zeroN S.free)) j + s.ks.count j = cntK S.sl j := fun j => by
    have := cntK_set hs (zeroN S.free) j
    simp only [zeroN, List.count_nil] at this ⊢
    omega
  have hnf : ∀ j, j ∉ i :: S.fl → j ≠ i ∧ j ∉ S.fl := fun j hj => ⟨fun e => hj (by simp [e]), fun hm => hj (by simp [hm])⟩
  have hnf2 : ∀ j, j ≠ i → j ∉ S.fl → j ∉ i :: S.fl := fun j h1 h2 hm => (List.mem_cons.1 hm).elim h1 h2
  refine ⟨fun j t ht => ?_, fun q hq => ?_, fun k q => ?_, fun j t ht k hk => ?_, fun r hr => ?_, fun j t ht hj => ?_, fun j t ht hj => ?_, fun j t ht hj => ?_, fun q hq => ?_, by rw [hlen]; exact h.len, List.nodup_cons.2 ⟨hif, h.nd⟩, ⟨⟨zeroN S.free, set_s hs, rfl⟩, h.chain.same fun q hq u hu => ⟨u, by show (S.sl.set i _)[q]? = _; rw [set_o (fun e => hif (by rw [← e]; exact hq))]; exact hu, rfl⟩⟩⟩
  · show t.refs = cntK (S.sl.set i (zeroN S.free)) j + S.roots.count (j : Int) + (s.ks ++ pd).count j
    rw [List.count_append]
    have hk := hck j
    rcases set_in ht with ⟨rfl, rfl⟩ | ⟨hne, h'⟩
    · show 0 = _
      omega
    · have := h.refs j t h'
      rw [List.count_cons] at this
      have e : (i == j) = false := by simp; exact fun e => hne e.symm
      rw [e] at this
      simp at this
      omega
  · rcases List.mem_cons.1 hq with rfl | hq
    · exact ⟨zeroN S.free, set_s hs, rfl, rfl, rfl⟩
    · obtain ⟨t, ht, a, b, c⟩ := h.free q hq
      have hne : q ≠ i := fun e => hif (by rw [← e]; exact hq)
      exact ⟨t, by show (S.sl.set i _)[q]? = _; rw [set_o hne]; exact ht, a, b, c⟩
  · show updF S.F (keyN s) none k = some q ↔ q ∉ i :: S.fl ∧ _
    by_cases e : k = keyN s
    · subst e
      rw [updF_same]
      constructor
      · intro h'; cases h'
      · rintro ⟨a, t, ht, hk⟩
        obtain ⟨a1, a2⟩ := hnf q a
        rcases set_in ht with ⟨rfl, _⟩ | ⟨_, h'⟩
        · exact absurd rfl a1
        · have f1 := (h.key (keyN s) q).2 ⟨a2, t, h', hk⟩
          have f2 := (h.key (keyN s) i).2 ⟨hif, s, hs, rfl⟩
          rw [f1] at f2
          exact absurd (Option.some.inj f2) a1
    · rw [updF_other _ _ e, h.key]
      constructor
      · rintro ⟨a, t, ht, hk⟩
        have hne : q ≠ i := fun e' => by subst e'; rw [hs] at ht; cases ht; exact e hk.symm
        exact ⟨hnf2 q hne a, t, by show (S.sl.set i _)[q]? = _; rw [set_o hne]; exact ht, hk⟩
      · rintro ⟨a, t, ht, hk⟩
        obtain ⟨a1, a2⟩ := hnf q a
        rcases set_in ht with ⟨rfl, _⟩ | ⟨_, h'⟩
        · exact absurd rfl a1
        · exact ⟨a2, t, h', hk⟩
  · rw [hlen]
    rcases set_in ht with ⟨rfl, rfl⟩ | ⟨_, h'⟩
    · cases hk
    · obtain ⟨b1, b2⟩ := h.kids j t h' k hk
      exact ⟨b1, hnf2 k (fun e => hnoK j t h' (by rw [← e]; exact hk)) b2⟩
  · rw [hlen]
    refine (h.roots r hr).imp id (fun ⟨j, e, b1, b2⟩ => ⟨j, e, b1, hnf2 j (fun e' => ?_) b2⟩)
    subst e' e
    have := List.count_pos_iff.2 hr
    have : 0 < S.roots.count (j : Int) := this
    omega
  · obtain ⟨a1, a2⟩ := hnf j hj
    rcases set_in ht with ⟨rfl, _⟩ | ⟨_, h'⟩
    · exact absurd rfl a1
    · exact h.next j t h' a2
  · obtain ⟨a1, a2⟩ := hnf j hj
    rcases set_in ht with ⟨rfl, _⟩ | ⟨_, h'⟩
    · exact absurd rfl a1
    · exact h.size j t h' a2
  · obtain ⟨a1, a2⟩ := hnf j hj
    rcases set_in ht with ⟨rfl, _⟩ | ⟨_, h'⟩
    · exact absurd rfl a1
    · exact h.pos j t h' a2
  · rw [hlen]
    rcases List.mem_append.1 hq with hq | hq
    · obtain ⟨b1, b2⟩ := h.kids i s hs q hq
      exact ⟨b1, hnf2 q (fun e => hnoK i s hs (by rw [← e]; exact hq)) b2⟩
    · obtain ⟨b1, b2⟩ := h.pd q (by simp [hq])
      refine ⟨b1, hnf2 q (fun e => ?_) b2⟩
      subst e
      have := List.count_pos_iff.2 hq
      omega
theorem relS_inv (z : Nat → Nat) (most : Nat) : ∀ (f i : Nat) (S : St) (pd : List Nat), InvR S (i :: pd) z most → z i < f → InvR (relS f S i) pd z most
  | 0, _, _, _, _, h => absurd h (Nat.not_lt_zero _)
  | f + 1, i, S, pd, h, hz => by
    obtain ⟨hi, hif⟩ := h.pd i (by simp)
    have hs := List.getElem?_eq_getElem hi
    by_cases hr : 1 < S.sl[i].refs
    · rw [relS_more hs hr]
      exact h.less hs hr
    · rw [relS_last hs hr]
      have h1 := h.last hs hr
      have hsz := (h.size i _ hs hif).1
      have key : ∀ (l : List Nat) (T : St), (∀ k ∈ l, z k < f) → InvR T (l ++ pd) z most → InvR (l.foldl (relS f) T) pd z most := by
        intro l
        induction l with
        | nil => intro T _ hT; exact hT
        | cons k l ih =>
          intro T hl hT
          rw [List.foldl_cons]
          exact ih _ (fun x hx => hl x (by simp [hx])) (relS_inv z most f k T (l ++ pd) hT (hl k (by simp)))
      exact key _ _ (fun k hk => by have := le_sum (z := z) hk; omega) h1
theorem InvR.inv {S : St} {z : Nat → Nat} {most : Nat} (h : InvR S [] z most) (hm : 1 ≤ most) : ∃ z', Inv S [] z' most := by
  refine ⟨fun i => if i ∈ S.fl then 1 else z i, ⟨fun i s hs => by have := h.refs i s hs; simpa using this, h.free, h.key, h.kids, h.roots, h.next, fun p s hs => ?_, fun p s hs hp h0 => by have := h.pos p s hs hp; omega, h.len, h.nd⟩⟩
  show (if p ∈ S.fl then 1 else z p) = 1 + (s.ks.map fun i => if i ∈ S.fl then 1 else z i).sum ∧ (if p ∈ S.fl then 1 else z p) ≤ most
  by_cases hp : p ∈ S.fl
  · obtain ⟨t, ht, _, b, _⟩ := h.free p hp
    rw [hs] at ht; cases ht
    rw [if_pos hp, b]
    exact ⟨by simp, hm⟩
  · rw [if_neg hp]
    obtain ⟨h1, h2⟩ := h.size p s hs hp
    refine ⟨h1.trans ?_, h2⟩
    congr 1
    exact (sum_congr fun k hk => if_neg (h.kids p s hs k hk).2).symm
/-- What Drop leaves is fit again: for a rank that is told here. -/
theorem drop_fit {a : Ar} (h : fitAB a 1048576 = true) : ∃ d : Nat → Nat, (∀ (i : Nat) (s : Sl), a.slots[i]? = some s → ∀ k ∈ s.kids.map Int.toNat, d k < d i) ∧ ∀ (j p : Nat), a.roots[j]? = some (p : Int) → fitAB (dropS a d j p).ar 1048576 = true ∧ ∃ z', Inv (dropS a d j p) [] z' 1048576 := by
  obtain ⟨z, hi⟩ := inv_of_fit h (by omega)
  obtain ⟨h1, h2, h3, h4, _⟩ := fit_parts h
  refine ⟨z, fun i t ht k hk => ?_, fun j p hjp => ?_⟩
  · have hs : (toSt a).sl[i]? = some (toSN t) := by show (a.slots.map toSN)[i]? = _; rw [List.getElem?_map, ht]; rfl
    have e1 := (hi.size i _ hs).1
    have e2 : z k ≤ ((toSN t).ks.map z).sum := le_sum (z := z) (l := (toSN t).ks) hk
    omega
  · have hj := (List.getElem?_eq_some_iff.1 hjp).1
    have hjv : a.roots[j] = (p : Int) := (List.getElem?_eq_some_iff.1 hjp).2
    have hpl : p < (toSt a).sl.length ∧ p ∉ (toSt a).fl := by
      rcases hi.roots _ (List.mem_of_getElem? hjp) with e | ⟨i, e, b1, b2⟩
      · omega
      · have : p = i := by omega
        subst this; exact ⟨b1, b2⟩
    have h0 : InvR { toSt a with roots := a.roots.set j (-1) } [p] z 1048576 := by
      refine ⟨fun i s hs => ?_, hi.free, hi.key, hi.kids, fun r hr => ?_, hi.next, fun i s hs _ => hi.size i s hs, fun i s hs hf => ?_, fun q hq => ?_, hi.len, hi.nd, flG_chain _ h4⟩
      · have e := hi.refs i s hs
        have e' : s.refs = cntK (toSt a).sl i + a.roots.count (i : Int) := e
        show s.refs = cntK (toSt a).sl i + (a.roots.set j (-1)).count (i : Int) + [p].count i
        rw [e', List.count_set hj, hjv]
        have e1 : ((-1 : Int) == (i : Int)) = false := by simp
        rw [e1, List.count_cons, List.count_nil]
        by_cases e2 : p = i
        · subst e2
          have : 0 < a.roots.count (p : Int) := List.count_pos_iff.2 (List.mem_of_getElem? hjp)
          simp; omega
        · have e3 : ((p : Int) == (i : Int)) = false := by simp; omega
          have e4 : (p == i) = false := by simp [e2]
          rw [e3, e4]; simp
      · rcases List.mem_or_eq_of_mem_set hr with hr | rfl
        · exact hi.roots r hr
        · exact .inl rfl
      · rcases Nat.eq_zero_or_pos s.refs with h0 | h0
        · exact absurd ((hi.zero i).2 ⟨s, hs, h0⟩) hf
        · exact h0
      · simp only [List.mem_singleton] at hq
        subst hq; exact hpl
    have h5 := relS_inv z 1048576 (z p + 1) p _ [] h0 (by omega)
    obtain ⟨z', h6⟩ := h5.inv (by omega)
    have h7 : Inv (dropS a z j p) [] z' 1048576 := h6
    refine ⟨h7.fit h5.chain ?_, z', h7⟩
    have : (dropS a z j p).roots = a.roots.set j (-1) := relS_roots _ _ _
    rw [this, List.length_set]
    exact h2
end Go.Proofs.Ytoocafcagelbgaa
