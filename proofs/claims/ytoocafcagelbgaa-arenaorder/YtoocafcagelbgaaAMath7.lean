/- What is laid holds. -/
import Derived.Test.YtoocafcagelbgaaAMath6
namespace Go.Proofs.Ytoocafcagelbgaa
open Go.RowKit

theorem sum_congr {z z' : Nat → Nat} {l : List Nat} (h : ∀ k ∈ l, z' k = z k) : (l.map z').sum = (l.map z).sum := by rw [List.map_congr_left h]
theorem Inv.more {S : St} {ow ow' : List Nat} {z : Nat → Nat} {most : Nat} (h : Inv S ow z most) (hs : ∀ x ∈ ow, x ∈ ow') : Inv S ow' z most := ⟨h.refs, h.free, h.key, h.kids, h.roots, h.next, h.size, fun p s a b c => hs p (h.ow p s a b c), h.len, h.nd⟩
theorem Inv.put {S S' : St} {ow ks : List Nat} {z : Nat → Nat} {most p : Nat} {h : Hd} (hi : Inv S (ks ++ ow) z most) (hk : ∀ k ∈ ks, k < S.sl.length ∧ k ∉ S.fl) (hsz : 1 + (ks.map z).sum ≤ most) (hp : putS S h ks = (S', some p)) :
    ∃ z', Inv S' (p :: ow) z' most ∧ z' p = 1 + (ks.map z).sum ∧ (∀ i, i < S.sl.length → i ∉ S.fl → z' i = z i) ∧ (p < S'.sl.length ∧ p ∉ S'.fl) ∧ ∀ i, i < S.sl.length → i ∉ S.fl → i < S'.sl.length ∧ i ∉ S'.fl := by
  have hl4 := hi.len
  have hkb : ∀ k ∈ ks, k < 65536 := fun k h => by have := (hk k h).1; omega
  unfold putS at hp
  cases hF : S.F (keyH h (intL ks)) with
  | some q =>
    rw [hF] at hp
    simp only [Prod.mk.injEq, Option.some.injEq] at hp
    obtain ⟨rfl, rfl⟩ := hp
    obtain ⟨hq, s, hs, hks⟩ := (hi.key _ _).1 hF
    have hsb : ∀ k ∈ s.ks, k < 65536 := fun k h => by have := (hi.kids q s hs k h).1; omega
    obtain ⟨_, e2⟩ := keyH_inj hsb hkb hks
    have hz := (hi.size q s hs).1
    rw [e2] at hz
    refine ⟨z, ⟨hi.refs, hi.free, hi.key, hi.kids, hi.roots, hi.next, hi.size, fun i t ht hf hr => ?_, hi.len, hi.nd⟩, hz, fun i _ _ => rfl, ⟨(List.getElem?_eq_some_iff.1 hs).1, hq⟩, fun i a b => ⟨a, b⟩⟩
    rcases List.mem_append.1 (hi.ow i t ht hf hr) with h1 | h1
    · have h2 := cntK_pos hs (by rw [e2]; exact h1)
      have h3 := hi.refs i t ht
      omega
    · exact List.mem_cons_of_mem _ h1
  | none =>
    rw [hF] at hp
    simp only at hp
    cases ht : takeS S with
    | none => rw [ht] at hp; simp at hp
    | some x =>
      obtain ⟨S2, q⟩ := x
      rw [ht] at hp
      simp only [Prod.mk.injEq, Option.some.injEq] at hp
      obtain ⟨rfl, rfl⟩ := hp
      have T := hi.took ht
      obtain ⟨s0, h0, h0k, h0r⟩ := T.at0
      have hnoL : ∀ k, k < S.sl.length ∧ k ∉ S.fl → k ≠ q := fun k h e => by
        subst e
        rcases T.new with h' | h'
        · exact h.2 h'
        · omega
      have hnoK : ∀ (i : Nat) (s : SN), S.sl[i]? = some s → q ∉ s.ks := fun i s hs hm => hnoL q (hi.kids i s hs q hm) rfl
      have hqks : q ∉ ks := fun hm => hnoL q (hk q hm) rfl
      have hqr : S.roots.count (q : Int) = 0 := List.count_eq_zero.2 (fun hm => by
        rcases hi.roots _ hm with e | ⟨j, e, h1, h2⟩
        · omega
        · have : q = j := by omega
          subst this
          exact hnoL q ⟨h1, h2⟩ rfl)
      have hcq : cntK S.sl q = 0 := cntK_zero (fun s hs => by
        obtain ⟨i, hi', rfl⟩ := List.getElem_of_mem hs
        exact hnoK i _ (List.getElem?_eq_getElem hi'))
      have hck : ks.count q = 0 := List.count_eq_zero.2 hqks
      have hq2 := (List.getElem?_eq_some_iff.1 h0).1
      have hgp : (bumps (S2.sl.set q ⟨h, ks, 0, -1⟩) ks)[q]? = some ⟨h, ks, 0, -1⟩ := by
        rw [bumps_get, List.getElem?_set, if_pos rfl, if_pos hq2]
        simp [hck]
      have hgo : ∀ i, i ≠ q → (bumps (S2.sl.set q ⟨h, ks, 0, -1⟩) ks)[i]? = (S.sl[i]?).map fun s => { s with refs := s.refs + ks.count i } := fun i hne => by
        rw [bumps_get, List.getElem?_set, if_neg (fun e => hne e.symm), T.other i hne]
      have hget : ∀ (i : Nat) (s' : SN), (bumps (S2.sl.set q ⟨h, ks, 0, -1⟩) ks)[i]? = some s' → (i = q ∧ s' = ⟨h, ks, 0, -1⟩) ∨ (i ≠ q ∧ ∃ s, S.sl[i]? = some s ∧ s' = { s with refs := s.refs + ks.count i }) := fun i s' hs' => by
        by_cases e : i = q
        · subst e; rw [hgp] at hs'; cases hs'; exact .inl ⟨rfl, rfl⟩
        · rw [hgo i e] at hs'
          obtain ⟨s, h1, h2⟩ := Option.map_eq_some_iff.1 hs'
          exact .inr ⟨e, s, h1, h2.symm⟩
      have hcnt : ∀ i, cntK (bumps (S2.sl.set q ⟨h, ks, 0, -1⟩) ks) i = cntK S.sl i + ks.count i := fun i => by
        rw [cntK_bumps]
        have := cntK_set h0 ⟨h, ks, 0, -1⟩ i
        rw [h0k, T.cnt] at this
        simpa using this
      have hlen : (bumps (S2.sl.set q ⟨h, ks, 0, -1⟩) ks).length = S2.sl.length := by rw [bumps_len]; simp
      have hqf : q ∉ S2.fl := fun hm => ((T.fl q).1 hm).2 rfl
      have hfl : ∀ i, i ≠ q → i ∉ S2.fl → i ∉ S.fl := fun i hne hm h' => hm ((T.fl i).2 ⟨h', hne⟩)
      have hfl2 : ∀ i, i ∉ S.fl → i ∉ S2.fl := fun i hm h' => hm ((T.fl i).1 h').1
      refine ⟨fun i => if i = q then 1 + (ks.map z).sum else z i, ⟨fun i s' hs' => ?_, fun i hm => ?_, fun k i => ?_, fun i s' hs' k hm => ?_, fun r hr => ?_, fun i s' hs' hm => ?_, fun i s' hs' => ?_, fun i s' hs' hm hr => ?_, by show (bumps _ ks).length ≤ _; rw [hlen]; exact T.len4, T.nd⟩, by simp, fun i h1 h2 => if_neg (hnoL i ⟨h1, h2⟩), ⟨by rw [hlen]; exact hq2, hqf⟩, fun i h1 h2 => ⟨by rw [hlen]; exact Nat.lt_of_lt_of_le h1 T.len, hfl2 i h2⟩⟩
      · show s'.refs = cntK (bumps (S2.sl.set q ⟨h, ks, 0, -1⟩) ks) i + S2.roots.count (i : Int)
        rw [hcnt, T.roots]
        rcases hget i s' hs' with ⟨rfl, rfl⟩ | ⟨hne, s, hs, rfl⟩
        · rw [hcq, hck, hqr]
        · have := hi.refs i s hs
          simp only; omega
      · have hm' : i ∈ S2.fl := hm
        obtain ⟨h1, h2⟩ := (T.fl i).1 hm'
        obtain ⟨s, hs, a, b, c⟩ := hi.free i h1
        have hci : ks.count i = 0 := List.count_eq_zero.2 (fun hx => (hk i hx).2 h1)
        exact ⟨{ s with refs := s.refs + ks.count i }, by show (bumps _ ks)[i]? = _; rw [hgo i h2, hs]; rfl, a, b, by simp only; omega⟩
      · show updF S2.F _ _ k = some i ↔ i ∉ S2.fl ∧ _
        rw [T.F]
        by_cases e : k = keyH h (intL ks)
        · subst e
          rw [updF_same]
          constructor
          · intro e; cases e
            exact ⟨hqf, _, hgp, rfl⟩
          · rintro ⟨h1, s', hs', hk'⟩
            rcases hget i s' hs' with ⟨rfl, _⟩ | ⟨hne, s, hs, rfl⟩
            · rfl
            · have := (hi.key (keyH h (intL ks)) i).2 ⟨hfl i hne h1, s, hs, hk'⟩
              rw [hF] at this; cases this
        · rw [updF_other _ _ e, hi.key]
          constructor
          · rintro ⟨h1, s, hs, hk'⟩
            have hne : i ≠ q := hnoL i ⟨(List.getElem?_eq_some_iff.1 hs).1, h1⟩
            exact ⟨hfl2 i h1, { s with refs := s.refs + ks.count i }, by show (bumps _ ks)[i]? = _; rw [hgo i hne, hs]; rfl, hk'⟩
          · rintro ⟨h1, s', hs', hk'⟩
            rcases hget i s' hs' with ⟨rfl, rfl⟩ | ⟨hne, s, hs, rfl⟩
            · exact absurd hk'.symm e
            · exact ⟨hfl i hne h1, s, hs, hk'⟩
      · rcases hget i s' hs' with ⟨rfl, rfl⟩ | ⟨hne, s, hs, rfl⟩
        · have := hk k hm
          exact ⟨by rw [hlen]; exact Nat.lt_of_lt_of_le this.1 T.len, hfl2 k this.2⟩
        · have := hi.kids i s hs k hm
          exact ⟨by rw [hlen]; exact Nat.lt_of_lt_of_le this.1 T.len, hfl2 k this.2⟩
      · have hr' : r ∈ S.roots := by rw [← T.roots]; exact hr
        refine (hi.roots r hr').imp id (fun ⟨j, e, h1, h2⟩ => ⟨j, e, ?_, hfl2 j h2⟩)
        rw [hlen]; exact Nat.lt_of_lt_of_le h1 T.len
      · rcases hget i s' hs' with ⟨rfl, rfl⟩ | ⟨hne, s, hs, rfl⟩
        · rfl
        · exact hi.next i s hs (hfl i hne hm)
      · rcases hget i s' hs' with ⟨rfl, rfl⟩ | ⟨hne, s, hs, rfl⟩
        · simp only [if_true]
          refine ⟨?_, hsz⟩
          congr 1
          exact (sum_congr (fun k hm => if_neg (fun e => hqks (by rw [← e]; exact hm)))).symm
        · have := hi.size i s hs
          simp only
          rw [if_neg hne]
          refine ⟨this.1.trans ?_, this.2⟩
          congr 1
          exact (sum_congr (fun k hm => if_neg (fun e => hnoK i s hs (by rw [← e]; exact hm)))).symm
      · rcases hget i s' hs' with ⟨rfl, rfl⟩ | ⟨hne, s, hs, rfl⟩
        · simp
        · have hr' : s.refs + ks.count i = 0 := hr
          have hni : i ∉ ks := List.count_eq_zero.1 (by omega)
          exact List.mem_cons_of_mem _ ((List.mem_append.1 (hi.ow i s hs (hfl i hne hm) (by omega))).resolve_left hni)
/-- What was laid stays. -/
def Stay (S S' : St) (z z' : Nat → Nat) : Prop := ∀ i, i < S.sl.length → i ∉ S.fl → z' i = z i ∧ i < S'.sl.length ∧ i ∉ S'.fl
theorem Stay.trans {S S1 S2 : St} {z z1 z2 : Nat → Nat} (h : Stay S S1 z z1) (k : Stay S1 S2 z1 z2) : Stay S S2 z z2 := fun i a b => by
  obtain ⟨e, a1, b1⟩ := h i a b
  obtain ⟨e2, a2, b2⟩ := k i a1 b1
  exact ⟨e2.trans e, a2, b2⟩
mutual
theorem layN_inv : ∀ (t : Nd) (S : St) (ow : List Nat) (z : Nat → Nat) (most : Nat) (b : Int) (S' : St) (p : Nat), Inv S ow z most → cntN t ≤ most → layN t S b = (S', some p) → ∃ z', Inv S' (p :: ow) z' most ∧ z' p = cntN t ∧ Stay S S' z z' ∧ p < S'.sl.length ∧ p ∉ S'.fl
  | .mk h l, S, ow, z, most, b, S', p, hi, hc, he => by
    simp only [layN] at he
    have hct : cntN (.mk h l) = cntL l + 1 := cntN_mk _
    rcases hl : layL l S h.frm with ⟨S1, _ | ks⟩
    · rw [hl] at he; simp at he
    · rw [hl] at he
      simp only at he
      obtain ⟨z1, i1, s1, k1, a1⟩ := layL_inv l S ow z most h.frm S1 ks hi (by omega) hl
      obtain ⟨z2, i2, s2, k2, ⟨p1, p2⟩, k3⟩ := i1.put a1 (by omega) he
      exact ⟨z2, i2, by omega, k1.trans (fun i a b => ⟨k2 i a b, k3 i a b⟩), p1, p2⟩
theorem layL_inv : ∀ (l : List Nd) (S : St) (ow : List Nat) (z : Nat → Nat) (most : Nat) (b : Int) (S' : St) (ks : List Nat), Inv S ow z most → cntL l ≤ most → layL l S b = (S', some ks) → ∃ z', Inv S' (ks ++ ow) z' most ∧ (ks.map z').sum = cntL l ∧ Stay S S' z z' ∧ ∀ k ∈ ks, k < S'.sl.length ∧ k ∉ S'.fl
  | [], S, ow, z, most, b, S', ks, hi, _, he => by
    simp only [layL, Prod.mk.injEq, Option.some.injEq] at he
    obtain ⟨rfl, rfl⟩ := he
    exact ⟨z, hi, by simp [cntL], fun i a b => ⟨rfl, a, b⟩, fun k hk => by cases hk⟩
  | t :: l, S, ow, z, most, b, S', ks, hi, hc, he => by
    simp only [layL] at he
    simp only [cntL] at hc
    rcases ht : layN t S b with ⟨S1, _ | p⟩
    · rw [ht] at he; simp at he
    · rw [ht] at he
      simp only at he
      obtain ⟨z1, i1, e1, k1, p1, p2⟩ := layN_inv t S ow z most b S1 p hi (by omega) ht
      rcases hl : layL l S1 b with ⟨S2, _ | ks2⟩
      · rw [hl] at he; simp at he
      · rw [hl] at he
        simp only [Prod.mk.injEq, Option.some.injEq] at he
        obtain ⟨rfl, rfl⟩ := he
        obtain ⟨z2, i2, e2, k2, a2⟩ := layL_inv l S1 (p :: ow) z1 most b S2 ks2 i1 (by omega) hl
        obtain ⟨q1, q2, q3⟩ := k2 p p1 p2
        refine ⟨z2, i2.more (fun x hx => ?_), by simp only [List.map_cons, List.sum_cons, cntL]; omega, k1.trans k2, fun k hk => ?_⟩
        · rcases List.mem_append.1 hx with hx | hx
          · exact List.mem_append.2 (.inl (List.mem_cons_of_mem _ hx))
          · rcases List.mem_cons.1 hx with rfl | hx
            · simp
            · exact List.mem_append.2 (.inr hx)
        · rcases List.mem_cons.1 hk with rfl | hk
          · exact ⟨q2, q3⟩
          · exact a2 k hk
end
end Go.Proofs.Ytoocafcagelbgaa
