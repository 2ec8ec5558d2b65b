/- The invariant of what is laid. -/
import Derived.Test.YtoocafcagelbgaaAMath5
import Derived.Test.YtoocafcagelbgaaBLay
namespace Go.Proofs.Ytoocafcagelbgaa
open Go.RowKit

theorem byteI_nat (a b : Int) (h : byteI a = byteI b) : a % 256 = b % 256 := by
  unfold byteI at h
  have h2 := congrArg UInt8.toNat h
  simp only [UInt8.toNat_ofNat'] at h2
  omega
/-- Keys tell places apart. -/
theorem textB_inj : ∀ {ks ls : List Nat}, (∀ k ∈ ks, k < 65536) → (∀ k ∈ ls, k < 65536) → textB (intL ks) = textB (intL ls) → ks = ls
  | [], [], _, _, _ => rfl
  | [], l :: ls, _, _, h => by
    have := congrArg List.length h
    rw [textB_len, textB_len] at this
    simp [intL] at this
  | k :: ks, [], _, _, h => by
    have := congrArg List.length h
    rw [textB_len, textB_len] at this
    simp [intL] at this
  | k :: ks, l :: ls, hk, hl, h => by
    have h1 : byteI ((k : Int) / 256) :: byteI (k : Int) :: textB (intL ks) = byteI ((l : Int) / 256) :: byteI (l : Int) :: textB (intL ls) := h
    simp only [List.cons.injEq] at h1
    obtain ⟨e1, e2, e3⟩ := h1
    have a1 := hk k (by simp)
    have a2 := hl l (by simp)
    have b1 := byteI_nat _ _ e1
    have b2 := byteI_nat _ _ e2
    have e : k = l := by omega
    rw [e, textB_inj (fun x hx => hk x (by simp [hx])) (fun x hx => hl x (by simp [hx])) e3]
theorem keyH_inj {h h' : Hd} {ks ls : List Nat} (hk : ∀ k ∈ ks, k < 65536) (hl : ∀ k ∈ ls, k < 65536) (e : keyH h (intL ks) = keyH h' (intL ls)) : h = h' ∧ ks = ls := by
  obtain ⟨a, b, c, d, f, g⟩ := h
  obtain ⟨a', b', c', d', f', g'⟩ := h'
  simp only [keyH, HK.mk.injEq] at e
  obtain ⟨e1, e2, e3, e4, e5, e6, e7⟩ := e
  subst e1 e2 e3 e4 e5 e6
  refine ⟨rfl, textB_inj hk hl ?_⟩
  unfold textK at e7
  simp only [ByteArray.mk.injEq] at e7
  have := congrArg Array.toList e7
  simpa using this
/-- How often a place stands among kids. -/
def cntK (sl : List SN) (i : Nat) : Nat := (sl.map fun s => s.ks.count i).sum
theorem cntK_set {sl : List SN} {p : Nat} {s0 : SN} (h : sl[p]? = some s0) (s : SN) (i : Nat) : cntK (sl.set p s) i + s0.ks.count i = cntK sl i + s.ks.count i := by
  unfold cntK
  induction sl generalizing p with
  | nil => simp at h
  | cons x sl ih =>
    cases p with
    | zero => simp at h; subst h; simp; omega
    | succ p =>
      simp only [List.set_cons_succ, List.map_cons, List.sum_cons]
      have := ih (p := p) (by simpa using h)
      omega
theorem cntK_bump (sl : List SN) (k i : Nat) : cntK (bump sl k) i = cntK sl i := by
  cases h : sl[k]? with
  | none => unfold bump; rw [h]
  | some s =>
    rw [bump_some h]
    have := cntK_set h { s with refs := s.refs + 1 } i
    simp only at this
    omega
theorem cntK_bumps : ∀ (ks : List Nat) (sl : List SN) (i : Nat), cntK (bumps sl ks) i = cntK sl i
  | [], _, _ => rfl
  | k :: ks, sl, i => by
    have := cntK_bumps ks (bump sl k) i
    unfold bumps at this ⊢
    rw [List.foldl_cons, this, cntK_bump]
theorem cntK_app (a b : List SN) (i : Nat) : cntK (a ++ b) i = cntK a i + cntK b i := by unfold cntK; simp
theorem cntK_zero {sl : List SN} {i : Nat} (h : ∀ s ∈ sl, i ∉ s.ks) : cntK sl i = 0 := by
  unfold cntK
  induction sl with
  | nil => rfl
  | cons s sl ih =>
    rw [List.map_cons, List.sum_cons, ih (fun t ht => h t (by simp [ht])), List.count_eq_zero.2 (h s (by simp))]
theorem cntK_pos {sl : List SN} {y i : Nat} {s : SN} (hs : sl[y]? = some s) (hi : i ∈ s.ks) : 1 ≤ cntK sl i := by
  unfold cntK
  induction sl generalizing y with
  | nil => simp at hs
  | cons t sl ih =>
    rw [List.map_cons, List.sum_cons]
    cases y with
    | zero => simp at hs; subst hs; have : 1 ≤ t.ks.count i := List.count_pos_iff.2 hi; omega
    | succ y => have := ih (y := y) (by simpa using hs); omega
/-- What holds of a builder while it lays. -/
structure Inv (S : St) (ow : List Nat) (z : Nat → Nat) (most : Nat) : Prop where
  refs : ∀ (i : Nat) (s : SN), S.sl[i]? = some s → s.refs = cntK S.sl i + S.roots.count (i : Int)
  free : ∀ p ∈ S.fl, ∃ s, S.sl[p]? = some s ∧ s.h = zeroH ∧ s.ks = [] ∧ s.refs = 0
  key : ∀ (k : HK) (p : Nat), S.F k = some p ↔ p ∉ S.fl ∧ ∃ s, S.sl[p]? = some s ∧ keyN s = k
  kids : ∀ (p : Nat) (s : SN), S.sl[p]? = some s → ∀ k ∈ s.ks, k < S.sl.length ∧ k ∉ S.fl
  roots : ∀ p ∈ S.roots, p = -1 ∨ ∃ j : Nat, p = j ∧ j < S.sl.length ∧ j ∉ S.fl
  next : ∀ (p : Nat) (s : SN), S.sl[p]? = some s → p ∉ S.fl → s.next = -1
  size : ∀ (p : Nat) (s : SN), S.sl[p]? = some s → z p = 1 + (s.ks.map z).sum ∧ z p ≤ most
  ow : ∀ (p : Nat) (s : SN), S.sl[p]? = some s → p ∉ S.fl → s.refs = 0 → p ∈ ow
  len : S.sl.length ≤ 4096
  nd : S.fl.Nodup
/-- A slot taken. -/
structure Took (S S2 : St) (p : Nat) : Prop where
  at0 : ∃ s0, S2.sl[p]? = some s0 ∧ s0.ks = [] ∧ s0.refs = 0
  other : ∀ i, i ≠ p → S2.sl[i]? = S.sl[i]?
  fl : ∀ i, i ∈ S2.fl ↔ i ∈ S.fl ∧ i ≠ p
  new : p ∈ S.fl ∨ S.sl.length ≤ p
  cnt : ∀ i, cntK S2.sl i = cntK S.sl i
  len : S.sl.length ≤ S2.sl.length
  F : S2.F = S.F
  roots : S2.roots = S.roots
  len4 : S2.sl.length ≤ 4096
  nd : S2.fl.Nodup
theorem Inv.took {S S2 : St} {ow : List Nat} {z : Nat → Nat} {most p : Nat} (h : Inv S ow z most) (ht : takeS S = some (S2, p)) : Took S S2 p := by
  have hn := h.nd
  have hl4 := h.len
  unfold takeS at ht
  cases hf : S.fl with
  | cons q l =>
    rw [hf] at ht
    simp only [Option.some.injEq, Prod.mk.injEq] at ht
    obtain ⟨rfl, rfl⟩ := ht
    rw [hf] at hn
    have hn' := List.nodup_cons.1 hn
    obtain ⟨s, hs, h1, h2, h3⟩ := h.free q (by rw [hf]; simp)
    refine ⟨⟨s, hs, h2, h3⟩, fun i _ => rfl, fun i => ?_, .inl (by rw [hf]; simp), fun i => rfl, Nat.le_refl _, rfl, rfl, hl4, hn'.2⟩
    show i ∈ l ↔ i ∈ S.fl ∧ i ≠ q
    rw [hf]
    constructor
    · intro hi; exact ⟨List.mem_cons_of_mem _ hi, fun e => hn'.1 (by rw [← e]; exact hi)⟩
    · rintro ⟨hi, hne⟩; exact (List.mem_cons.1 hi).resolve_left hne
  | nil =>
    rw [hf] at ht
    simp only at ht
    split at ht
    · cases ht
    · simp only [Option.some.injEq, Prod.mk.injEq] at ht
      obtain ⟨rfl, rfl⟩ := ht
      refine ⟨⟨zeroN 0, by simp, rfl, rfl⟩, fun i hi => ?_, fun i => by simp [hf], .inr (Nat.le_refl _), fun i => by simp only; rw [cntK_app]; simp [cntK, zeroN], by simp, rfl, rfl, by simp; omega, by simp⟩
      simp only
      rcases Nat.lt_or_ge i S.sl.length with h' | h'
      · rw [List.getElem?_append_left h']
      · rw [List.getElem?_append_right h', List.getElem?_eq_none (l := S.sl) h', List.getElem?_eq_none (by simp; omega)]
end Go.Proofs.Ytoocafcagelbgaa
