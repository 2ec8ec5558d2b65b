/- A text of letters tells its numbers. -/
import Derived.Test.YtdalomibilicfaaPText
import Derived.Test.YtdalomibilicfaaRunMath
namespace Go.Proofs.Ytdalomibilicfaa
open Go.RowKit

def encU (x : Int) : List UInt8 := (Utf8.encode x).data.toList
theorem runes_list (l : List Int) : (runesBytes l).data.toList = l.flatMap encU := by
  have key : ∀ (l : List Int) (s : ByteArray), (l.foldl (fun r n => r ++ Utf8.encode n) s).data.toList = s.data.toList ++ l.flatMap encU := by
    intro l
    induction l with
    | nil => intro s; simp
    | cons x l ih =>
      intro s
      rw [List.foldl_cons, ih, List.flatMap_cons]
      simp [encU, ByteArray.data_append]
  unfold runesBytes
  rw [key]
  rfl
theorem encU_eq {x : Int} (h : letB x) : encU x = if x.toNat < 0x80 then [UInt8.ofNat x.toNat] else if x.toNat < 0x800 then [UInt8.ofNat (0xC0 + x.toNat / 64), UInt8.ofNat (0x80 + x.toNat % 64)] else [UInt8.ofNat (0xE0 + x.toNat / 4096), UInt8.ofNat (0x80 + x.toNat / 64 % 64), UInt8.ofNat (0x80 + x.toNat % 64)] := by
  unfold letB at h
  have hv : Utf8.valid x = true := by unfold Utf8.valid; simp; omega
  unfold encU Utf8.encode
  simp only [hv, if_true]
  split
  · rfl
  · split
    · rfl
    · rw [if_pos (by omega)]
theorem u8_inj {a b : Nat} (ha : a < 256) (hb : b < 256) (h : UInt8.ofNat a = UInt8.ofNat b) : a = b := by
  have := congrArg UInt8.toNat h
  simp only [UInt8.toNat_ofNat'] at this
  omega
theorem encU_first {x y : Int} (hx : letB x) (hy : letB y) {s t : List UInt8} (h : encU x ++ s = encU y ++ t) : x = y ∧ s = t := by
  have ex := encU_eq hx
  have ey := encU_eq hy
  unfold letB at hx hy
  rw [ex, ey] at h
  obtain ⟨a, rfl⟩ := Int.eq_ofNat_of_zero_le hx.1
  obtain ⟨b, rfl⟩ := Int.eq_ofNat_of_zero_le hy.1
  simp only [Int.toNat_natCast] at h
  have ha : a < 55296 := by omega
  have hb : b < 55296 := by omega
  clear ex ey hx hy
  have fin : a = b → s = t → ((a : Int) = b ∧ s = t) := fun e1 e2 => ⟨by rw [e1], e2⟩
  by_cases a1 : a < 0x80
  · rw [if_pos a1] at h
    by_cases b1 : b < 0x80
    · rw [if_pos b1] at h
      simp only [List.cons_append, List.nil_append, List.cons.injEq] at h
      exact fin (u8_inj (by omega) (by omega) h.1) h.2
    · rw [if_neg b1] at h
      exfalso
      by_cases b2 : b < 0x800
      · rw [if_pos b2] at h
        simp only [List.cons_append, List.nil_append, List.cons.injEq] at h
        have := u8_inj (by omega) (by omega) h.1; omega
      · rw [if_neg b2] at h
        simp only [List.cons_append, List.nil_append, List.cons.injEq] at h
        have := u8_inj (by omega) (by omega) h.1; omega
  rw [if_neg a1] at h
  by_cases a2 : a < 0x800
  · rw [if_pos a2] at h
    by_cases b1 : b < 0x80
    · rw [if_pos b1] at h
      simp only [List.cons_append, List.nil_append, List.cons.injEq] at h
      have := u8_inj (by omega) (by omega) h.1; omega
    rw [if_neg b1] at h
    by_cases b2 : b < 0x800
    · rw [if_pos b2] at h
      simp only [List.cons_append, List.nil_append, List.cons.injEq] at h
      have h1 := u8_inj (by omega) (by omega) h.1
      have h2 := u8_inj (by omega) (by omega) h.2.1
      exact fin (by omega) h.2.2
    · rw [if_neg b2] at h
      simp only [List.cons_append, List.nil_append, List.cons.injEq] at h
      have := u8_inj (by omega) (by omega) h.1; omega
  rw [if_neg a2] at h
  by_cases b1 : b < 0x80
  · rw [if_pos b1] at h
    simp only [List.cons_append, List.nil_append, List.cons.injEq] at h
    have := u8_inj (by omega) (by omega) h.1; omega
  rw [if_neg b1] at h
  by_cases b2 : b < 0x800
  · rw [if_pos b2] at h
    simp only [List.cons_append, List.nil_append, List.cons.injEq] at h
    have := u8_inj (by omega) (by omega) h.1; omega
  rw [if_neg b2] at h
  simp only [List.cons_append, List.nil_append, List.cons.injEq] at h
  have h1 := u8_inj (by omega) (by omega) h.1
  have h2 := u8_inj (by omega) (by omega) h.2.1
  have h3 := u8_inj (by omega) (by omega) h.2.2.1
  exact fin (by omega) h.2.2.2
theorem encU_ne {x : Int} (h : letB x) : encU x ≠ [] := by
  rw [encU_eq h]
  split
  · simp
  · split <;> simp
theorem flat_inj : ∀ {l m : List Int}, (∀ x ∈ l, letB x) → (∀ x ∈ m, letB x) → l.flatMap encU = m.flatMap encU → l = m
  | [], [], _, _, _ => rfl
  | [], y :: m, _, hm, h => by
    rw [List.flatMap_cons, List.flatMap_nil] at h
    have := (List.append_eq_nil_iff.1 h.symm).1
    exact absurd this (encU_ne (hm y (by simp)))
  | x :: l, [], hl, _, h => by
    rw [List.flatMap_cons, List.flatMap_nil] at h
    have := (List.append_eq_nil_iff.1 h).1
    exact absurd this (encU_ne (hl x (by simp)))
  | x :: l, y :: m, hl, hm, h => by
    rw [List.flatMap_cons, List.flatMap_cons] at h
    obtain ⟨e1, e2⟩ := encU_first (hl x (by simp)) (hm y (by simp)) h
    rw [e1, flat_inj (fun z hz => hl z (by simp [hz])) (fun z hz => hm z (by simp [hz])) e2]
/-- A text of letters tells its numbers. -/
theorem runes_inj {l m : List Int} (hl : ∀ x ∈ l, letB x) (hm : ∀ x ∈ m, letB x) (h : runesBytes l = runesBytes m) : l = m := by
  have := congrArg (fun s => s.data.toList) h
  simp only [runes_list] at this
  exact flat_inj hl hm this
theorem cls_let {c : List Int} (h : ∀ x ∈ c, 0 ≤ x ∧ x < 50000) (a : Int) : 0 ≤ clsOf c a ∧ clsOf c a < 50000 := by
  unfold clsOf
  split
  · omega
  · cases hx : c[a.toNat]? with
    | none => simp
    | some x => exact h x (List.mem_of_getElem? hx)
/-- What a key has are letters. -/
theorem key_let {c : List Int} (h : ∀ x ∈ c, 0 ≤ x ∧ x < 50000) {l : List Ar} (hl : upA l 0) (j : Int) : ∀ x ∈ clsOf c j :: (runC (clsOf c) l).flatMap tri, letB x := by
  intro x hx
  unfold letB
  rcases List.mem_cons.1 hx with rfl | hx
  · have := cls_let h j; omega
  · obtain ⟨y, hy, hx⟩ := List.mem_flatMap.1 hx
    obtain ⟨p1, p2, _, _⟩ := runC_all (clsOf c) hl
    obtain ⟨z1, z2, z3⟩ := upA_at p1 hy
    obtain ⟨_, u, _, e⟩ := p2 y hy
    have := cls_let h u.tg
    simp only [tri, List.mem_cons, List.not_mem_nil, or_false] at hx
    rcases hx with rfl | rfl | rfl <;> omega
end Go.Proofs.Ytdalomibilicfaa
