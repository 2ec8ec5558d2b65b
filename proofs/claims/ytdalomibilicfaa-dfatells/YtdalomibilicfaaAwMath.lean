/- The two machines of the example: they are in the least form; where they differ. -/
import Derived.Test.YtdalomibilicfaaDifMath
import Derived.Test.YtdalomibilicfaaJDSeen
import Derived.Test.YtdalomibilicfaaJRFit
import Derived.Test.YtdalomibilicfaaJPBackR
namespace Go.Proofs.Ytdalomibilicfaa
open Go.RowKit

def dA : List Ds := [⟨[⟨97, 97, 1⟩], -1⟩, ⟨[⟨98, 98, 2⟩], 0⟩, ⟨[], 0⟩]
def dB : List Ds := [⟨[⟨97, 97, 1⟩], -1⟩, ⟨[⟨97, 97, 2⟩, ⟨98, 98, 3⟩], 0⟩, ⟨[⟨97, 97, 2⟩], 0⟩, ⟨[], 0⟩]
theorem nfA : NF dA := by
  refine ⟨⟨by simp [dA], fun s hs => ?_, fun s hs => ?_⟩, fun i j hi hj he => ?_, fun p hp x hx => ?_, fun p hp => ?_, fun p hp => ?_, fun p hp => ?_, by rfl⟩
  · simp [dA] at hs
    rcases hs with rfl | rfl | rfl <;> simp [upA, dA]
  · simp [dA] at hs
    rcases hs with rfl | rfl | rfl <;> simp
  · have h0 := congrFun he []
    have h1 := congrFun he [98]
    simp [dA] at hi hj
    have h3 : i = 0 ∨ i = 1 ∨ i = 2 := by omega
    have h4 : j = 0 ∨ j = 1 ∨ j = 2 := by omega
    rcases h3 with rfl | rfl | rfl <;> rcases h4 with rfl | rfl | rfl <;> first | rfl | (exfalso; revert h0 h1; decide)
  · refine ⟨[], ?_⟩
    have h3 : p = 0 ∨ p = 1 ∨ p = 2 := by simp [dA] at hp; omega
    rcases h3 with rfl | rfl | rfl
    · have : x = ⟨97, 97, 1⟩ := by simpa [arcsD, dA] using hx
      subst this; decide
    · have : x = ⟨98, 98, 2⟩ := by simpa [arcsD, dA] using hx
      subst this; decide
    · simp [arcsD, dA] at hx
  · have h3 : p = 0 ∨ p = 1 ∨ p = 2 := by simp [dA] at hp; omega
    rcases h3 with rfl | rfl | rfl <;> simp [arcsD, dA, runsA]
  · have h3 : p = 0 ∨ p = 1 ∨ p = 2 := by simp [dA] at hp; omega
    rcases h3 with rfl | rfl | rfl <;> simp [arcsD, dA, growB, metB, behB]
  · have h3 : p = 0 ∨ p = 1 ∨ p = 2 := by simp [dA] at hp; omega
    rcases h3 with rfl | rfl | rfl <;> simp [arcsD, dA, metB, behB]
theorem nfB : NF dB := by
  refine ⟨⟨by simp [dB], fun s hs => ?_, fun s hs => ?_⟩, fun i j hi hj he => ?_, fun p hp x hx => ?_, fun p hp => ?_, fun p hp => ?_, fun p hp => ?_, by rfl⟩
  · simp [dB] at hs
    rcases hs with rfl | rfl | rfl | rfl <;> simp [upA, dB]
  · simp [dB] at hs
    rcases hs with rfl | rfl | rfl | rfl <;> simp
  · have h0 := congrFun he []
    have h1 := congrFun he [98]
    have h2 := congrFun he [97]
    simp [dB] at hi hj
    have h3 : i = 0 ∨ i = 1 ∨ i = 2 ∨ i = 3 := by omega
    have h4 : j = 0 ∨ j = 1 ∨ j = 2 ∨ j = 3 := by omega
    rcases h3 with rfl | rfl | rfl | rfl <;> rcases h4 with rfl | rfl | rfl | rfl <;> first | rfl | (exfalso; revert h0 h1 h2; decide)
  · refine ⟨[], ?_⟩
    have h3 : p = 0 ∨ p = 1 ∨ p = 2 ∨ p = 3 := by simp [dB] at hp; omega
    rcases h3 with rfl | rfl | rfl | rfl
    · have : x = ⟨97, 97, 1⟩ := by simpa [arcsD, dB] using hx
      subst this; decide
    · have : x = ⟨97, 97, 2⟩ ∨ x = ⟨98, 98, 3⟩ := by simpa [arcsD, dB] using hx
      rcases this with rfl | rfl <;> decide
    · have : x = ⟨97, 97, 2⟩ := by simpa [arcsD, dB] using hx
      subst this; decide
    · simp [arcsD, dB] at hx
  · have h3 : p = 0 ∨ p = 1 ∨ p = 2 ∨ p = 3 := by simp [dB] at hp; omega
    rcases h3 with rfl | rfl | rfl | rfl <;> simp [arcsD, dB, runsA]
  · have h3 : p = 0 ∨ p = 1 ∨ p = 2 ∨ p = 3 := by simp [dB] at hp; omega
    rcases h3 with rfl | rfl | rfl | rfl <;> simp [arcsD, dB, growB, metB, behB]
  · have h3 : p = 0 ∨ p = 1 ∨ p = 2 ∨ p = 3 := by simp [dB] at hp; omega
    rcases h3 with rfl | rfl | rfl | rfl <;> simp [arcsD, dB, metB, behB]
theorem ledA0 (z : Int) : ledD dA 0 z = if z = 97 then 1 else -1 := by
  simp [ledD, arcsD, dA, nextA, arcOf]
  by_cases h : z = 97
  · subst h; simp
  · rw [if_neg (by omega), if_neg h]
theorem ledA1 (z : Int) : ledD dA 1 z = if z = 98 then 2 else -1 := by
  simp [ledD, arcsD, dA, nextA, arcOf]
  by_cases h : z = 98
  · subst h; simp
  · rw [if_neg (by omega), if_neg h]
theorem ledB0 (z : Int) : ledD dB 0 z = if z = 97 then 1 else -1 := by
  simp [ledD, arcsD, dB, nextA, arcOf]
  by_cases h : z = 97
  · subst h; simp
  · rw [if_neg (by omega), if_neg h]
theorem ledB1 (z : Int) : ledD dB 1 z = if z = 97 then 2 else if z = 98 then 3 else -1 := by
  simp [ledD, arcsD, dB, nextA, arcOf]
  by_cases h : z = 97
  · subst h; simp
  · rw [if_neg (by omega), if_neg h]
    by_cases h2 : z = 98
    · subst h2; simp
    · rw [if_neg (by omega), if_neg h2]
theorem firstAB : FirstD (resD dA 0) (resD dB 0) [97, 97] := by
  refine ⟨by decide, fun v hv => ?_⟩
  match v, hv with
  | [], hv => exact absurd rfl hv
  | [z], hv =>
    exfalso
    apply hv
    rw [resD_cons, resD_cons, ledA0, ledB0]
    by_cases h : z = 97
    · rw [if_pos h]; rfl
    · rw [if_neg h]; rfl
  | [z, y], hv =>
    refine .inr ⟨rfl, ?_⟩
    by_cases h : z = 97
    · subst h
      rw [resD_cons dA, resD_cons dB, ledA0, ledB0, if_pos rfl, resD_cons dA, resD_cons dB, ledA1, ledB1] at hv
      by_cases h : y = 97
      · subst h; simp [lexL]
      · exfalso
        apply hv
        rw [if_neg h]
        by_cases h2 : y = 98
        · rw [if_pos h2, if_pos h2]; rfl
        · rw [if_neg h2, if_neg h2]; rfl
    · exfalso
      apply hv
      rw [resD_cons dA, resD_cons dB, ledA0, ledB0, if_neg h]
      rw [res_dead _ _ _ (by omega), res_dead _ _ _ (by omega)]
  | z :: y :: x :: v, hv => exact .inl (by simp)
theorem runA : runD dA (bsZ ⟨#[97, 98, 98]⟩) = (2, 0) := by decide
theorem seenA : seenD dA (bsZ ⟨#[97, 98, 98]⟩) = 3 := by decide
theorem fitA : fitB dA = true := by decide
theorem fitBB : fitB dB = true := by decide
theorem strAA : strB [97, 97] = ⟨#[97, 97]⟩ := by decide
end Go.Proofs.Ytdalomibilicfaa
