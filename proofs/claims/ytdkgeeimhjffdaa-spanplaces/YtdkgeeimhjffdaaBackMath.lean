/- There and back between the places within and without: plain mathematics. -/
import Derived.Test.YtdkgeeimhjffdaaInner
import Derived.Test.YtdkgeeimhjffdaaRefNorm
namespace Go.Proofs.Ytdkgeeimhjffdaa

theorem out_false : ∀ {es : List Rg} {a k : Int}, Fit es → outF a es = (k, false) → sizeN es ≤ a ∨ es = []
  | [], _, _, _, _ => .inr rfl
  | r :: t, a, k, hf, h => by
    rw [outF] at h
    by_cases hc : a < r.2 - r.1
    · rw [if_pos hc] at h; cases h
    · rw [if_neg hc] at h
      left
      rcases out_false hf.tail h with h1 | rfl
      · simp only [sizeN]; omega
      · simp only [sizeN]; omega
theorem out_lt : ∀ {es : List Rg} {a k : Int}, Fit es → outF a es = (k, true) → a < sizeN es
  | [], _, _, _, h => by cases h
  | r :: t, a, k, hf, h => by
    rw [outF] at h
    have h0 := sizeN_nonneg hf.tail
    simp only [sizeN]
    by_cases hc : a < r.2 - r.1
    · omega
    · rw [if_neg hc] at h
      have := out_lt hf.tail h
      omega
theorem out_in : ∀ {es : List Rg} {a k T : Int}, Fit es → 0 ≤ a → outF a es = (k, true) → innF k T es = (T + a, true) ∧ hasL es k = true
  | [], _, _, _, _, _, h => by cases h
  | r :: t, a, k, T, hf, ha, h => by
    have h0 := hf.1 r (by simp)
    rw [outF] at h
    rw [innF, hasL_cons]
    by_cases hc : a < r.2 - r.1
    · rw [if_pos hc] at h
      obtain rfl : r.1 + a = k := by simpa using congrArg Prod.fst h
      rw [if_neg (by omega), if_pos (by omega), decide_eq_true (by omega)]
      refine ⟨?_, rfl⟩
      congr 1
      omega
    · rw [if_neg hc] at h
      obtain ⟨h1, h2⟩ := out_in (T := T + (r.2 - r.1)) hf.tail (by omega) h
      obtain ⟨s, hs, _, k1, _⟩ := hasL_iff.1 h2
      have := hf.head s hs
      rw [if_neg (by omega), if_neg (by omega), h1, h2]
      refine ⟨?_, by simp⟩
      congr 1
      omega
theorem out_rise : ∀ {es : List Rg} {a k k2 : Int}, Fit es → 0 ≤ a → outF a es = (k, true) → outF (a + 1) es = (k2, true) → k < k2
  | [], _, _, _, _, _, h, _ => by cases h
  | r :: t, a, k, k2, hf, ha, h, h' => by
    have h0 := hf.1 r (by simp)
    rw [outF] at h h'
    by_cases hc : a < r.2 - r.1
    · rw [if_pos hc] at h
      obtain rfl : r.1 + a = k := by simpa using congrArg Prod.fst h
      by_cases hc2 : a + 1 < r.2 - r.1
      · rw [if_pos hc2] at h'
        obtain rfl : r.1 + (a + 1) = k2 := by simpa using congrArg Prod.fst h'
        omega
      · rw [if_neg hc2] at h'
        obtain ⟨_, h2⟩ := out_in (T := 0) hf.tail (by omega) h'
        obtain ⟨s, hs, _, k1, _⟩ := hasL_iff.1 h2
        have := hf.head s hs
        omega
    · rw [if_neg hc] at h
      rw [if_neg (by omega)] at h'
      have e : a + 1 - (r.2 - r.1) = a - (r.2 - r.1) + 1 := by omega
      rw [e] at h'
      exact out_rise hf.tail (by omega) h h'
theorem out_text {l : List UInt8} : ∀ {es : List Rg} {a k : Nat}, Fit es → outF a es = ((k : Int), true) → k < l.length → (textN l es)[a]? = l[k]?
  | [], _, _, _, h, _ => by cases h
  | r :: t, a, k, hf, h, hk => by
    have h0 := hf.1 r (by simp)
    rw [outF] at h
    have ht : textN l (r :: t) = pieceN l r ++ textN l t := by simp [textN]
    rw [ht]
    have hpl : (pieceN l r).length = min (r.2.toNat - r.1.toNat) (l.length - r.1.toNat) := by simp [pieceN]
    by_cases hc : (a : Int) < r.2 - r.1
    · rw [if_pos hc] at h
      have hk1 : r.1 + a = k := by simpa using congrArg Prod.fst h
      rw [List.getElem?_append_left (by rw [hpl]; omega)]
      rw [pieceN, List.getElem?_take, if_pos (by omega), List.getElem?_drop]
      congr 1
      omega
    · rw [if_neg hc] at h
      obtain ⟨_, h2⟩ := out_in (T := 0) hf.tail (by omega) h
      obtain ⟨s, hs, _, k1, _⟩ := hasL_iff.1 h2
      have := hf.head s hs
      rw [List.getElem?_append_right (by rw [hpl]; omega)]
      have e : (a : Int) - (r.2 - r.1) = ((a - (pieceN l r).length : Nat) : Int) := by rw [hpl]; omega
      rw [e] at h
      exact out_text hf.tail h hk
end Go.Proofs.Ytdkgeeimhjffdaa
