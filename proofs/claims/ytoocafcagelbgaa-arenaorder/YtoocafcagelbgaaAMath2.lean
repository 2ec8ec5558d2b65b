/- A fit arena as a builder's state. -/
import Derived.Test.YtoocafcagelbgaaAMath1
import Derived.Test.YtoocafcagelbgaaPPlaces
namespace Go.Proofs.Ytoocafcagelbgaa
open Go.RowKit

def toSN (s : Sl) : SN := ⟨s.nd.h, s.kids.map Int.toNat, s.refs.toNat, s.next⟩
/-- The free ones, one behind the other. -/
def flG (l : List Sl) : Nat → Int → List Nat
  | 0, _ => []
  | k + 1, p => match l[p.toNat]? with
    | none => []
    | some s => if p = -1 then [] else p.toNat :: flG l k s.next
def toSt (a : Ar) : St := ⟨a.slots.map toSN, flG a.slots (a.slots.length - liveN a.slots) a.free, a.roots, (plF a.slots a.slots.length).1, (plF a.slots a.slots.length).2⟩
theorem frG_succ {l : List Sl} {k : Nat} {p : Int} (h : frG l (k + 1) p = true) : p ≠ -1 ∧ ∃ s, l[p.toNat]? = some s ∧ 0 ≤ p ∧ ¬ 0 < s.refs ∧ frG l k s.next = true := by
  unfold frG at h
  by_cases hp : p = -1
  · rw [if_pos hp] at h; simp at h
  · rw [if_neg hp] at h
    simp only at h
    cases hs : l[p.toNat]? with
    | none => rw [hs] at h; cases h
    | some s =>
      rw [hs] at h
      simp only [Bool.and_eq_true, decide_eq_true_eq] at h
      exact ⟨hp, s, rfl, h.1.1, h.1.2, h.2⟩
theorem frG_none {l : List Sl} {p : Int} (h : frG l 0 p = true) : p = -1 := by
  unfold frG at h
  by_cases hp : p = -1
  · exact hp
  · rw [if_neg hp] at h; simp at h
theorem frG_uniq (l : List Sl) : ∀ {a b : Nat} {p : Int}, frG l a p = true → frG l b p = true → a = b
  | 0, 0, _, _, _ => rfl
  | 0, b + 1, p, h1, h2 => absurd (frG_none h1) (frG_succ h2).1
  | a + 1, 0, p, h1, h2 => absurd (frG_none h2) (frG_succ h1).1
  | a + 1, b + 1, p, h1, h2 => by
    obtain ⟨_, s, hs, _, _, k1⟩ := frG_succ h1
    obtain ⟨_, t, ht, _, _, k2⟩ := frG_succ h2
    rw [hs] at ht; cases ht
    rw [frG_uniq l k1 k2]
theorem flG_step {l : List Sl} {k : Nat} {p : Int} {s : Sl} (hs : l[p.toNat]? = some s) (hp : p ≠ -1) : flG l (k + 1) p = p.toNat :: flG l k s.next := by
  conv => lhs; unfold flG
  rw [hs]
  simp only
  rw [if_neg hp]
theorem flG_free (l : List Sl) : ∀ {k : Nat} {p : Int}, frG l k p = true → freeI (flG l k p) = p
  | 0, p, h => by rw [frG_none h]; rfl
  | k + 1, p, h => by
    obtain ⟨hp, s, hs, h0, _, _⟩ := frG_succ h
    rw [flG_step hs hp]
    show ((p.toNat : Nat) : Int) = p
    omega
theorem flG_mem (l : List Sl) : ∀ {k : Nat} {p : Int}, frG l k p = true → ∀ q ∈ flG l k p, (∃ j, 0 < j ∧ j ≤ k ∧ frG l j (q : Int) = true) ∧ ∃ s, l[q]? = some s ∧ ¬ 0 < s.refs
  | 0, p, h, q, hq => by simp [flG] at hq
  | k + 1, p, h, q, hq => by
    obtain ⟨hp, s, hs, h0, h1, h2⟩ := frG_succ h
    rw [flG_step hs hp] at hq
    rcases List.mem_cons.1 hq with rfl | hq
    · have e : ((p.toNat : Nat) : Int) = p := by omega
      exact ⟨⟨k + 1, by omega, Nat.le_refl _, by rw [e]; exact h⟩, s, hs, h1⟩
    · obtain ⟨⟨j, a1, a2, a3⟩, h4⟩ := flG_mem l h2 q hq
      exact ⟨⟨j, a1, by omega, a3⟩, h4⟩
theorem flG_nodup (l : List Sl) : ∀ {k : Nat} {p : Int}, frG l k p = true → (flG l k p).Nodup
  | 0, p, h => by simp [flG]
  | k + 1, p, h => by
    obtain ⟨hp, s, hs, h0, h1, h2⟩ := frG_succ h
    rw [flG_step hs hp]
    refine List.nodup_cons.2 ⟨fun hm => ?_, flG_nodup l h2⟩
    obtain ⟨⟨j, _, a2, a3⟩, _⟩ := flG_mem l h2 _ hm
    have e : ((p.toNat : Nat) : Int) = p := by omega
    rw [e] at a3
    have := frG_uniq l h a3
    omega
theorem flG_chain (l : List Sl) : ∀ {k : Nat} {p : Int}, frG l k p = true → Chain (l.map toSN) (flG l k p)
  | 0, p, h => by simp [flG, Chain]
  | k + 1, p, h => by
    obtain ⟨hp, s, hs, h0, h1, h2⟩ := frG_succ h
    rw [flG_step hs hp]
    refine ⟨⟨toSN s, by rw [List.getElem?_map, hs]; rfl, ?_⟩, flG_chain l h2⟩
    rw [flG_free l h2]; rfl
/-- What is told to be held is held by a live one. -/
theorem plF_in (l : List Sl) : ∀ (j : Nat) (k : HK) (p : Nat), (plF l j).1 k = some p → p < j ∧ ∃ s, l[p]? = some s ∧ 0 < s.refs ∧ keyH s.nd.h s.kids = k
  | 0, k, p, h => by simp [plF] at h
  | j + 1, k, p, h => by
    unfold plF at h
    cases hs : l[j]? with
    | none =>
      rw [hs] at h
      obtain ⟨h1, h2⟩ := plF_in l j k p h
      exact ⟨by omega, h2⟩
    | some s =>
      rw [hs] at h
      simp only at h
      split at h
      · rename_i hr
        simp only at h
        by_cases e : k = keyH s.nd.h s.kids
        · subst e
          rw [updF_same] at h
          cases h
          exact ⟨by omega, s, hs, hr, rfl⟩
        · rw [updF_other _ _ e] at h
          obtain ⟨h1, h2⟩ := plF_in l j k p h
          exact ⟨by omega, h2⟩
      · obtain ⟨h1, h2⟩ := plF_in l j k p h
        exact ⟨by omega, h2⟩
/-- What fitting slots are. -/
structure SlFit (n : Nat) (s : Sl) : Prop where
  leaf : s.nd.kids = []
  refs : 0 ≤ s.refs
  kids : ∀ k ∈ s.kids, ∃ i : Nat, k = i ∧ i < n
  zero : s.refs = 0 → s.kids = [] ∧ s.nd.h = zeroH
  next : s.refs ≠ 0 → s.next = -1
theorem textB_nil {ks : List Int} (h : textK ks = ⟨#[]⟩) : ks = [] := by
  have h1 : (textB ks).length = 0 := by
    unfold textK at h
    simp only [ByteArray.mk.injEq] at h
    have := congrArg Array.size h
    simpa using this
  rw [textB_len] at h1
  exact List.length_eq_zero_iff.1 (by omega)
theorem slotB_fit {n : Nat} {s : Sl} (h : slotB n s = true) : SlFit n s := by
  unfold slotB at h
  simp only [Bool.and_eq_true, decide_eq_true_eq, List.isEmpty_iff] at h
  obtain ⟨⟨h1, h2⟩, h3⟩ := h
  by_cases hr : s.refs = 0
  · rw [if_pos hr] at h3
    simp only [decide_eq_true_eq] at h3
    obtain ⟨⟨hd, nks⟩, ks, rf, nx⟩ := s
    obtain ⟨a, b, c, d, e, f⟩ := hd
    simp only [keyH, zeroK, HK.mk.injEq, Nd.h] at h3
    obtain ⟨e1, e2, e3, e4, e5, e6, e7⟩ := h3
    have e8 := textB_nil e7
    subst e1 e2 e3 e4 e5 e6
    exact ⟨h1, h2, fun k hk => (by simp only at e8 hk; rw [e8] at hk; cases hk), fun _ => ⟨e8, rfl⟩, fun h => absurd hr h⟩
  · rw [if_neg hr] at h3
    simp only [Bool.and_eq_true, decide_eq_true_eq] at h3
    exact ⟨h1, h2, fun k hk => isSl_in (List.all_eq_true.1 h3.2 k hk), fun h => absurd h hr, fun _ => h3.1⟩
theorem SlFit.intL {n : Nat} {s : Sl} (h : SlFit n s) : intL (s.kids.map Int.toNat) = s.kids := by
  unfold Go.Proofs.Ytoocafcagelbgaa.intL
  rw [List.map_map]
  conv => rhs; rw [← List.map_id s.kids]
  refine List.map_congr_left fun k hk => ?_
  obtain ⟨i, rfl, _⟩ := h.kids k hk
  simp
theorem SlFit.sl {n : Nat} {s : Sl} (h : SlFit n s) : (toSN s).sl = s := by
  have h1 := h.leaf
  have h2 := h.intL
  have h3 := h.refs
  obtain ⟨⟨hd, nks⟩, ks, rf, nx⟩ := s
  simp only [Nd.kids] at h1
  subst h1
  simp only [toSN, SN.sl, Sl.mk.injEq, and_true]
  exact ⟨rfl, h2, by simp only at h3; omega⟩
theorem fit_parts {a : Ar} {most : Nat} (h : fitAB a most = true) : a.slots.length ≤ 4096 ∧ a.roots.length ≤ 4096 ∧ (∀ s ∈ a.slots, SlFit a.slots.length s) ∧ frG a.slots (a.slots.length - liveN a.slots) a.free = true ∧ (∀ p ∈ a.roots, rootB a.slots.length p = true) ∧ (∀ (i : Nat) s, a.slots[i]? = some s → s.refs = (cntR a.slots a.roots i : Int)) ∧ treesB a.slots a.roots most = true ∧ (plF a.slots a.slots.length).2 = liveN a.slots := by
  unfold fitAB framedB at h
  simp only [Bool.and_eq_true, decide_eq_true_eq] at h
  obtain ⟨⟨h1, h2, h3, h4, h5, h6, h7⟩, h8⟩ := h
  exact ⟨h1, h2, fun s hs => slotB_fit (List.all_eq_true.1 h3 s hs), h4, fun p hp => List.all_eq_true.1 h5 p hp, (refsB_iff _ _).1 h6, h7, h8⟩
theorem toSt_ar {a : Ar} {most : Nat} (h : fitAB a most = true) : (toSt a).ar = a := by
  obtain ⟨_, _, h3, h4, _⟩ := fit_parts h
  obtain ⟨sl, fr, rt⟩ := a
  simp only [toSt, St.ar, St.free, Ar.mk.injEq, and_true]
  refine ⟨?_, flG_free _ h4⟩
  rw [List.map_map]
  conv => rhs; rw [← List.map_id sl]
  exact List.map_congr_left fun s hs => (h3 s hs).sl
theorem toSt_wf {a : Ar} {most : Nat} (h : fitAB a most = true) (hok : ∀ s ∈ a.slots, SlOk s) (hkl : ∀ s ∈ a.slots, s.kids.length ≤ 1000000) : Wf (toSt a) 4100000000 := by
  obtain ⟨h1, h2, h3, h4, h5, h6, h7, h8⟩ := fit_parts h
  have hm : ∀ s ∈ (toSt a).sl, ∃ t ∈ a.slots, toSN t = s := fun s hs => List.mem_map.1 hs
  have hl : (toSt a).sl.length = a.slots.length := by simp [toSt]
  refine ⟨by rw [hl]; exact h1, flG_chain _ h4, flG_nodup _ h4, fun k p hk => ?_, fun s hs k hk => ?_, fun s hs => ?_, fun s hs => ?_, fun s hs => ?_, ?_⟩
  · rw [hl]
    exact (plF_in _ _ k p hk).1
  · rw [hl]
    obtain ⟨t, ht, rfl⟩ := hm s hs
    obtain ⟨k', hk', rfl⟩ := List.mem_map.1 hk
    obtain ⟨i, rfl, hi⟩ := (h3 t ht).kids k' hk'
    simpa using hi
  · obtain ⟨t, ht, rfl⟩ := hm s hs
    have := hkl t ht
    simpa [toSN] using this
  · obtain ⟨t, ht, rfl⟩ := hm s hs
    exact (hok t ht).hd
  · obtain ⟨t, ht, rfl⟩ := hm s hs
    obtain ⟨i, hi, rfl⟩ := List.getElem_of_mem ht
    have e := h6 i _ (List.getElem?_eq_getElem hi)
    have hc := cntS_le a.slots 1000000 hkl i
    have hr : a.roots.count (i : Int) ≤ a.roots.length := List.count_le_length
    have hc2 : a.slots.length * 1000000 ≤ 4096 * 1000000 := Nat.mul_le_mul_right _ h1
    show (a.slots[i].refs).toNat ≤ _
    rw [e]
    unfold cntR
    omega
  · show (plF a.slots a.slots.length).2 ≤ _
    have := plF_le a.slots a.slots.length
    omega
end Go.Proofs.Ytoocafcagelbgaa
