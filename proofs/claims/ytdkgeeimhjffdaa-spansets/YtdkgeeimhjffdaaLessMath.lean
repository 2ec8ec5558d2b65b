/- What is left of a set without one range: plain mathematics of the document's Less. -/
import Derived.Test.YtdkgeeimhjffdaaRefNorm
namespace Go.Proofs.Ytdkgeeimhjffdaa
open Go.RowKit

def lessP (s r : Rg) : List Rg := [(r.1, min r.2 s.1), (max r.1 s.2, r.2)]
def cutL (left : List Rg) (s : Rg) : List Rg := left.flatMap (lessP s)
theorem cut_has (left : List Rg) (s : Rg) (x : Int) : hasL (cutL left s) x = (hasL left x && !decide (0 ≤ x ∧ s.1 ≤ x ∧ x < s.2)) := by
  rw [Bool.eq_iff_iff, Bool.and_eq_true, hasL_iff, hasL_iff, Bool.not_eq_true', decide_eq_false_iff_not]
  constructor
  · rintro ⟨q, hq, h0, h1, h2⟩
    obtain ⟨r, hr, hq⟩ := List.mem_flatMap.1 hq
    simp [lessP] at hq
    rcases hq with rfl | rfl
    · simp only at h1 h2
      exact ⟨⟨r, hr, h0, h1, by omega⟩, by omega⟩
    · simp only at h1 h2
      exact ⟨⟨r, hr, h0, by omega, h2⟩, by omega⟩
  · rintro ⟨⟨r, hr, h0, h1, h2⟩, h3⟩
    rcases Int.lt_or_le x s.1 with h | h
    · exact ⟨(r.1, min r.2 s.1), List.mem_flatMap.2 ⟨r, hr, by simp [lessP]⟩, h0, h1, by simp only; omega⟩
    · exact ⟨(max r.1 s.2, r.2), List.mem_flatMap.2 ⟨r, hr, by simp [lessP]⟩, h0, by simp only; omega, h2⟩
theorem cut_ok {left : List Rg} {s : Rg} (hx : ∀ r ∈ left, RgOk r) (hs : RgOk s) : ∀ r ∈ cutL left s, RgOk r := by
  intro q hq
  obtain ⟨r, hr, hq⟩ := List.mem_flatMap.1 hq
  have h1 := hx r hr
  unfold RgOk at *
  simp [lessP] at hq
  rcases hq with rfl | rfl
  · simp only; omega
  · simp only; omega
theorem cut_len (left : List Rg) (s : Rg) : (cutL left s).length = 2 * left.length := by
  induction left with
  | nil => rfl
  | cons r t ih =>
    have : cutL (r :: t) s = lessP s r ++ cutL t s := by simp [cutL]
    rw [this, List.length_append, ih, List.length_cons]
    simp [lessP]
    omega
theorem cnt_cons (r s : Rg) (t : List Rg) : (cutL (r :: t) s).countP nonE = (nonE (r.1, min r.2 s.1)).toNat + (nonE (max r.1 s.2, r.2)).toNat + (cutL t s).countP nonE := by
  have : cutL (r :: t) s = (r.1, min r.2 s.1) :: (max r.1 s.2, r.2) :: cutL t s := by simp [cutL, lessP]
  rw [this, List.countP_cons, List.countP_cons]
  cases nonE (r.1, min r.2 s.1) <;> cases nonE (max r.1 s.2, r.2) <;> simp <;> omega
theorem cut_right {s : Rg} (hs : s.1 < s.2) : ∀ {t : List Rg}, Fit t → (∀ r ∈ t, s.2 < r.1) → (cutL t s).countP nonE ≤ t.length
  | [], _, _ => by simp [cutL]
  | r :: t, hf, h => by
    have h1 := cut_right hs hf.tail (fun q hq => h q (by simp [hq]))
    have h2 := h r (by simp)
    have h3 : nonE (r.1, min r.2 s.1) = false := by unfold nonE; simp only; exact decide_eq_false (by omega)
    rw [cnt_cons, h3, List.length_cons]
    have : (nonE (max r.1 s.2, r.2)).toNat ≤ 1 := Bool.toNat_le _
    simp only [Bool.toNat_false]
    omega
theorem cut_cnt {s : Rg} (hs : s.1 < s.2) : ∀ {t : List Rg}, Fit t → (cutL t s).countP nonE ≤ t.length + 1
  | [], _ => by simp [cutL]
  | r :: t, hf => by
    rw [cnt_cons, List.length_cons]
    by_cases hb : nonE (max r.1 s.2, r.2) = true
    · have h0 := of_decide_eq_true hb
      simp only at h0
      have h1 := cut_right hs hf.tail (fun q hq => by have := hf.head q hq; omega)
      have e1 : (nonE (r.1, min r.2 s.1)).toNat ≤ 1 := Bool.toNat_le _
      have e2 : (nonE (max r.1 s.2, r.2)).toNat ≤ 1 := Bool.toNat_le _
      omega
    · have h1 := cut_cnt hs hf.tail
      have e1 : (nonE (r.1, min r.2 s.1)).toNat ≤ 1 := Bool.toNat_le _
      have e2 : nonE (max r.1 s.2, r.2) = false := by simpa using hb
      rw [e2]
      simp only [Bool.toNat_false]
      omega
end Go.Proofs.Ytdkgeeimhjffdaa
