/- A builder's state: what is laid, released. -/
import Derived.Test.YtoocafcagelbgaaAOwn
namespace Go.Proofs.Ytoocafcagelbgaa
open Go.RowKit

structure SN where
  h : Hd
  ks : List Nat
  refs : Nat
  next : Int
def intL (ks : List Nat) : List Int := List.map (fun k : Nat => (k : Int)) ks
def SN.sl (s : SN) : Sl := ⟨.mk s.h [], intL s.ks, (s.refs : Int), s.next⟩
def zeroH : Hd := ⟨⟨#[]⟩, false, ⟨#[]⟩, 0, 0, 0⟩
def zeroN (next : Int) : SN := ⟨zeroH, [], 0, next⟩
def keyN (s : SN) : HK := keyH s.h (intL s.ks)
structure St where
  sl : List SN
  fl : List Nat
  roots : List Int
  F : HK → Option Nat
  cnt : Nat
def freeI : List Nat → Int
  | [] => -1
  | p :: _ => (p : Int)
def St.free (S : St) : Int := freeI S.fl
def St.ar (S : St) : Ar := ⟨S.sl.map SN.sl, S.free, S.roots⟩
def takeS (S : St) : Option (St × Nat) := match S.fl with
  | p :: l => some ({ S with fl := l }, p)
  | [] => if S.sl.length = 4096 then none else some ({ S with sl := S.sl ++ [zeroN 0] }, S.sl.length)
def bump (sl : List SN) (k : Nat) : List SN := match sl[k]? with
  | some s => sl.set k { s with refs := s.refs + 1 }
  | none => sl
def bumps (sl : List SN) (ks : List Nat) : List SN := ks.foldl bump sl
def putS (S : St) (h : Hd) (ks : List Nat) : St × Option Nat := match S.F (keyH h (intL ks)) with
  | some p => (S, some p)
  | none => match takeS S with
    | none => (S, none)
    | some (S2, p) => ({ S2 with sl := bumps (S2.sl.set p ⟨h, ks, 0, -1⟩) ks, F := updF S2.F (keyH h (intL ks)) (some p), cnt := S2.cnt + 1 }, some p)
def relH (h : Hd) (base : Int) : Hd := { h with frm := wrap64 (h.frm - base), til := wrap64 (h.til - base) }
mutual
def layN : Nd → St → Int → St × Option Nat
  | .mk h l, S, base => match layL l S h.frm with
    | (S1, none) => (S1, none)
    | (S1, some ks) => putS S1 (relH h base) ks
def layL : List Nd → St → Int → St × Option (List Nat)
  | [], S, _ => (S, some [])
  | t :: l, S, base => match layN t S base with
    | (S1, none) => (S1, none)
    | (S1, some p) => match layL l S1 base with
      | (S2, none) => (S2, none)
      | (S2, some ks) => (S2, some (p :: ks))
 end
theorem layN_mk (t : Nd) (S : St) (base : Int) : layN t S base = match layL t.kids S t.h.frm with
    | (S1, none) => (S1, none)
    | (S1, some ks) => putS S1 (relH t.h base) ks := by cases t; simp only [layN, Nd.kids, Nd.h]
theorem layL_snoc (base : Int) : ∀ (l : List Nd) (S : St) (t : Nd), layL (l ++ [t]) S base = match layL l S base with
    | (S1, none) => (S1, none)
    | (S1, some ks) => match layN t S1 base with
      | (S2, none) => (S2, none)
      | (S2, some p) => (S2, some (ks ++ [p]))
  | [], S, t => by
    simp only [List.nil_append, layL]
  | u :: l, S, t => by
    rw [List.cons_append]
    simp only [layL]
    rcases layN u S base with ⟨S1, _ | p⟩
    · simp
    · simp only
      rw [layL_snoc base l S1 t]
      rcases layL l S1 base with ⟨S2, _ | ks⟩
      · simp
      · simp only
        rcases layN t S2 base with ⟨S3, _ | q⟩ <;> simp
theorem layL_none (base : Int) : ∀ (a b : List Nd) (S : St), (layL a S base).2 = none → layL (a ++ b) S base = ((layL a S base).1, none)
  | [], b, S, h => by simp [layL] at h
  | u :: a, b, S, h => by
    rw [List.cons_append]
    simp only [layL] at h ⊢
    rcases hu : layN u S base with ⟨S1, _ | p⟩
    · simp
    · rw [hu] at h
      simp only at h ⊢
      have hr : (layL a S1 base).2 = none := by
        rcases hv : layL a S1 base with ⟨S2, _ | ks⟩
        · rfl
        · rw [hv] at h; simp at h
      rw [layL_none base a b S1 hr]
      rcases hv : layL a S1 base with ⟨S2, _ | ks⟩
      · simp
      · rw [hv] at hr
def relS : Nat → St → Nat → St
  | 0, S, _ => S
  | f + 1, S, i => match S.sl[i]? with
    | none => S
    | some s => if 1 < s.refs then { S with sl := S.sl.set i { s with refs := s.refs - 1 } } else s.ks.foldl (relS f) { S with sl := S.sl.set i (zeroN S.free), fl := i :: S.fl, F := updF S.F (keyN s) none }

/-- How the free ones lie. -/
def Chain (sl : List SN) : List Nat → Prop
  | [] => True
  | p :: l => (∃ s, sl[p]? = some s ∧ s.next = freeI l) ∧ Chain sl l
structure Wf (S : St) (R : Nat) : Prop where
  len : S.sl.length ≤ 4096
  chain : Chain S.sl S.fl
  nd : S.fl.Nodup
  fin : ∀ k p, S.F k = some p → p < S.sl.length
  kin : ∀ s ∈ S.sl, ∀ k ∈ s.ks, k < S.sl.length
  kl : ∀ s ∈ S.sl, s.ks.length ≤ 1000000
  hd : ∀ s ∈ S.sl, HdOk s.h
  refs : ∀ s ∈ S.sl, s.refs ≤ R
  cnt : S.cnt ≤ R
theorem Chain.in {sl : List SN} : ∀ {l : List Nat}, Chain sl l → ∀ p ∈ l, p < sl.length
  | [], _, p, h => by cases h
  | q :: l, ⟨⟨s, h1, _⟩, h2⟩, p, h => by
    rcases List.mem_cons.1 h with rfl | h
    · exact (List.getElem?_eq_some_iff.1 h1).1
    · exact h2.in p h
theorem Chain.same {sl sl' : List SN} : ∀ {l : List Nat}, Chain sl l → (∀ p ∈ l, ∀ s, sl[p]? = some s → ∃ s', sl'[p]? = some s' ∧ s'.next = s.next) → Chain sl' l
  | [], _, _ => trivial
  | q :: l, ⟨⟨s, h1, h3⟩, h2⟩, h => by
    obtain ⟨s', e1, e2⟩ := h q (by simp) s h1
    exact ⟨⟨s', e1, e2.trans h3⟩, h2.same (fun p hp => h p (by simp [hp]))⟩
theorem bump_get (sl : List SN) (k i : Nat) : (bump sl k)[i]? = if i = k then (sl[i]?).map (fun s => { s with refs := s.refs + 1 }) else sl[i]? := by
  unfold bump
  cases h : sl[k]? with
  | none =>
    by_cases e : i = k
    · subst e; rw [if_pos rfl, h]; rfl
    · rw [if_neg e]
  | some s =>
    have hk := (List.getElem?_eq_some_iff.1 h).1
    simp only
    rw [List.getElem?_set]
    by_cases e : i = k
    · subst e; rw [if_pos rfl, if_pos hk, if_pos rfl, h]; rfl
    · rw [if_neg (fun h => e h.symm), if_neg e]
theorem bump_len (sl : List SN) (k : Nat) : (bump sl k).length = sl.length := by
  unfold bump
  split <;> simp
/-- What bumps leave and turn. -/
theorem bumps_get : ∀ (ks : List Nat) (sl : List SN) (i : Nat), (bumps sl ks)[i]? = (sl[i]?).map (fun s => { s with refs := s.refs + ks.count i })
  | [], sl, i => by simp [bumps]
  | k :: ks, sl, i => by
    have := bumps_get ks (bump sl k) i
    unfold bumps at this ⊢
    rw [List.foldl_cons, this, bump_get, List.count_cons]
    by_cases e : i = k
    · subst e
      rw [if_pos rfl]
      cases sl[i]? with
      | none => rfl
      | some s => simp; omega
    · rw [if_neg e]
      have : (k == i) = false := by simp; exact fun h => e h.symm
      cases sl[i]? with
      | none => rfl
      | some s => simp [this]
theorem bumps_len : ∀ (ks : List Nat) (sl : List SN), (bumps sl ks).length = sl.length
  | [], sl => rfl
  | k :: ks, sl => by
    have := bumps_len ks (bump sl k)
    unfold bumps at this ⊢
    rw [List.foldl_cons, this, bump_len]
theorem bumps_mem {ks : List Nat} {sl : List SN} {s : SN} (h : s ∈ bumps sl ks) : ∃ s0 ∈ sl, ∃ c, c ≤ ks.length ∧ s = { s0 with refs := s0.refs + c } := by
  obtain ⟨i, hi, rfl⟩ := List.getElem_of_mem h
  have h1 : (bumps sl ks)[i]? = some (bumps sl ks)[i] := List.getElem?_eq_getElem hi
  rw [bumps_get] at h1
  obtain ⟨s0, h2, h3⟩ := Option.map_eq_some_iff.1 h1
  exact ⟨s0, List.mem_of_getElem? h2, ks.count i, List.count_le_length, h3.symm⟩
theorem Wf.mono {S : St} {R R' : Nat} (h : Wf S R) (hr : R ≤ R') : Wf S R' := ⟨h.len, h.chain, h.nd, h.fin, h.kin, h.kl, h.hd, fun s hs => Nat.le_trans (h.refs s hs) hr, Nat.le_trans h.cnt hr⟩
theorem hdok_zero : HdOk zeroH := ⟨⟨by decide, by decide⟩, ⟨by decide, by decide⟩, ⟨by decide, by decide⟩, by decide, by decide⟩
theorem Wf.take {S S2 : St} {R p : Nat} (h : Wf S R) (ht : takeS S = some (S2, p)) : Wf S2 R ∧ p < S2.sl.length ∧ p ∉ S2.fl ∧ S2.F = S.F ∧ S2.roots = S.roots ∧ S.sl.length ≤ S2.sl.length := by
  unfold takeS at ht
  cases hf : S.fl with
  | cons q l =>
    rw [hf] at ht
    simp only [Option.some.injEq, Prod.mk.injEq] at ht
    obtain ⟨rfl, rfl⟩ := ht
    have hc := h.chain
    rw [hf] at hc
    have hn := h.nd
    rw [hf] at hn
    have hn' := List.nodup_cons.1 hn
    exact ⟨⟨h.len, hc.2, hn'.2, h.fin, h.kin, h.kl, h.hd, h.refs, h.cnt⟩, Chain.in hc _ (by simp), hn'.1, rfl, rfl, Nat.le_refl _⟩
  | nil =>
    rw [hf] at ht
    simp only at ht
    split at ht
    · cases ht
    · rename_i hne
      simp only [Option.some.injEq, Prod.mk.injEq] at ht
      obtain ⟨rfl, rfl⟩ := ht
      have hl := h.len
      refine ⟨⟨by simp; omega, by trivial, List.nodup_nil, fun k p hk => by have := h.fin k p hk; simp; omega, fun s hs k hk => ?_, fun s hs => ?_, fun s hs => ?_, fun s hs => ?_, h.cnt⟩, by simp, by simp, rfl, rfl, by simp⟩
      all_goals rcases List.mem_append.1 hs with hs | hs
      · have := h.kin s hs k hk; simp; omega
      · simp at hs; subst hs; simp [zeroN] at hk
      · exact h.kl s hs
      · simp at hs; subst hs; simp [zeroN]
      · exact h.hd s hs
      · simp at hs; subst hs; exact hdok_zero
      · exact h.refs s hs
      · simp at hs; subst hs; simp [zeroN]
theorem Wf.put {S S' : St} {R : Nat} {hd : Hd} {ks : List Nat} {p : Nat} (h : Wf S R) (hh : HdOk hd) (hk : ∀ k ∈ ks, k < S.sl.length) (hkl : ks.length ≤ 1000000) (hp : putS S hd ks = (S', some p)) : Wf S' (R + ks.length + 1) ∧ p < S'.sl.length ∧ S.sl.length ≤ S'.sl.length := by
  unfold putS at hp
  cases hF : S.F (keyH hd (intL ks)) with
  | some q =>
    rw [hF] at hp
    simp only [Prod.mk.injEq, Option.some.injEq] at hp
    obtain ⟨rfl, rfl⟩ := hp
    exact ⟨h.mono (by omega), h.fin _ _ hF, Nat.le_refl _⟩
  | none =>
    rw [hF] at hp
    simp only at hp
    cases ht : takeS S with
    | none => rw [ht] at hp; simp at hp
    | some x =>
      obtain ⟨S2, q⟩ := x
      rw [ht] at hp
      simp only [Prod.mk.injEq, Option.some.injEq] at hp
      obtain ⟨rfl, rfl⟩ := hp
      obtain ⟨h2, hq, hqn, hF2, hr2, hle⟩ := h.take ht
      have hm : ∀ s ∈ bumps (S2.sl.set q ⟨hd, ks, 0, -1⟩) ks, ∃ s0, (s0 ∈ S2.sl ∨ s0 = ⟨hd, ks, 0, -1⟩) ∧ ∃ c, c ≤ ks.length ∧ s = { s0 with refs := s0.refs + c } := fun s hs => by
        obtain ⟨s0, h0, c, hc, e⟩ := bumps_mem hs
        exact ⟨s0, List.mem_or_eq_of_mem_set h0, c, hc, e⟩
      have hlen : (bumps (S2.sl.set q ⟨hd, ks, 0, -1⟩) ks).length = S2.sl.length := by rw [bumps_len]; simp
      refine ⟨⟨by simp only [hlen]; exact h2.len, ?_, h2.nd, fun k p hk => ?_, fun s hs k hk' => ?_, fun s hs => ?_, fun s hs => ?_, fun s hs => ?_, by have := h2.cnt; simp only; omega⟩, by simp only [hlen]; exact hq, by simp only [hlen]; exact hle⟩
      · refine h2.chain.same fun i hi s hs => ?_
        rw [bumps_get, List.getElem?_set, if_neg (fun e => hqn (by rw [e]; exact hi)), hs]
        exact ⟨_, rfl, rfl⟩
      · simp only [hlen]
        simp only at hk
        by_cases e : k = keyH hd (intL ks)
        · subst e; rw [updF_same] at hk; cases hk; exact hq
        · rw [updF_other _ _ e] at hk; exact h2.fin k p hk
      · simp only [hlen]
        obtain ⟨s0, h0, c, hc, rfl⟩ := hm s hs
        rcases h0 with h0 | rfl
        · exact h2.kin s0 h0 k hk'
        · have := hk k hk'; omega
      · obtain ⟨s0, h0, c, hc, rfl⟩ := hm s hs
        rcases h0 with h0 | rfl
        · exact h2.kl s0 h0
        · exact hkl
      · obtain ⟨s0, h0, c, hc, rfl⟩ := hm s hs
        rcases h0 with h0 | rfl
        · exact h2.hd s0 h0
        · exact hh
      · obtain ⟨s0, h0, c, hc, rfl⟩ := hm s hs
        rcases h0 with h0 | rfl
        · have := h2.refs s0 h0; simp only; omega
        · simp only; omega
end Go.Proofs.Ytoocafcagelbgaa
