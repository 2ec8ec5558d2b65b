/- Rows of numbers that rise: slices.BinarySearch. -/
import Derived.Test.YtjpbfckdiojghaaPSmall
namespace Go.Proofs.Ytjpbfckdiojghaa
open Go.RowKit

set_option maxRecDepth 100000 in
set_option maxHeartbeats 800000 in
theorem isNaN2_any (a : Int) (w : World) : Calls Try.prog 45 #[.int .i64 a] w fun e w' => e = .returned (.bool false) ∧ w' = w := by
  have h : (a != a) = false := by simp
  go_enter Try.func45, Try.ntmps45
  go_wp2_with fail
  go_ret
  exact ⟨rfl, rfl⟩
set_option maxRecDepth 100000 in
set_option maxHeartbeats 1600000 in
theorem less_any (a b : Int) (w : World) : Calls Try.prog 44 #[.int .i64 a, .int .i64 b] w fun e w' => e = .returned (.bool (decide (a < b))) ∧ w' = w := by
  have C1 := isNaN_any a w
  go_enter Try.func44, Try.ntmps44
  go_wp2_with fail
  refine C1.mono ?_
  rintro e w1 ⟨rfl, rfl⟩
  clear C1
  go_wp2_with fail
  go_ret
  exact ⟨rfl, rfl⟩

def posL (l : List Int) (x : Int) : Nat := l.findIdx fun y => !decide (y < x)
theorem posL_eq {l : List Int} {x : Int} {i : Nat} (hi : i ≤ l.length) (h1 : ∀ t (ht : t < l.length), t < i → l[t] < x) (h2 : ∀ h : i < l.length, ¬ l[i] < x) : posL l x = i := by
  unfold posL
  rcases Nat.lt_or_ge i l.length with h | h
  · rw [List.findIdx_eq h]
    exact ⟨by simpa using h2 h, fun j hj => by simpa using h1 j (by omega) hj⟩
  · obtain rfl : i = l.length := by omega
    rw [List.findIdx_eq_length]
    intro y hy
    obtain ⟨t, ht, rfl⟩ := List.getElem_of_mem hy
    simpa using h1 t ht ht
theorem posL_le (l : List Int) (x : Int) : posL l x ≤ l.length := List.findIdx_le_length
def isAt (l : List Int) (x : Int) : Bool := (l[posL l x]?).any fun y => decide (y = x)

set_option maxRecDepth 100000 in
set_option maxHeartbeats 1600000 in
theorem bin_any (l : List Int) (v : Value) (x : Int) (w : World) (hl : SlI l v w) (hu : UpL l) (hlen : l.length ≤ 1000000) :
    Calls Try.prog 25 #[v, .int .i64 x] w fun e w' => e = .returned (.tuple #[.int .i64 (posL l x : Nat), .bool (isAt l x)]) ∧ w' = w := by
  have HU : Hid (UpL l) := hu
  clear hu
  obtain ⟨la, lc, rfl, hr, _⟩ := hl
  go_enter Try.func25, Try.ntmps25
  go_wp2_with fail
  go_loopw [7, 8] (fun iv jv wr => ∃ (i j : Nat), iv = .int .i64 i ∧ jv = .int .i64 j ∧ i ≤ j ∧ j ≤ l.length ∧ Hid ((∀ t (ht : t < l.length), t < i → l[t] < x) ∧ (∀ t (ht : t < l.length), j ≤ t → x ≤ l[t])) ∧ wr = w) (fun i j _ => (intOf j).toNat - (intOf i).toNat)
  case atStart => exact ⟨0, l.length, rfl, rfl, Nat.zero_le _, Nat.le_refl _, ⟨fun t _ h => by omega, fun t h1 h2 => by omega⟩, rfl⟩
  case round =>
  obtain ⟨i, j, rfl, rfl, hij, hj, HF, rfl⟩ := hrel
  by_cases hlt : i < j
  · obtain ⟨m, hm⟩ : ∃ m : Nat, (i + j) / 2 = m := ⟨_, rfl⟩
    have hm1 : ((i : Int) + j) / 2 = m := by omega
    have hml : m < l.length := by omega
    have hmi : i ≤ m ∧ m < j := by omega
    obtain ⟨b2, o2, rfl, hb2, q0⟩ := hr.at (Below.refl _ _) hml
    have HLT : Hid (l[m] < x → ∀ t (ht : t < l.length), t < m + 1 → l[t] < x) := fun h t ht htm => by
      rcases Nat.lt_or_ge t m with h' | h'
      · exact Int.lt_trans (List.pairwise_iff_getElem.1 HU.out t m ht hml h') h
      · obtain rfl : t = m := by omega
        exact h
    have HGE : Hid (¬ l[m] < x → ∀ t (ht : t < l.length), m ≤ t → x ≤ l[t]) := fun h t ht htm => Int.not_lt.1 fun hl => by
      rcases Nat.lt_or_ge m t with h' | h'
      · exact h (Int.lt_trans (List.pairwise_iff_getElem.1 HU.out m t hml ht h') hl)
      · obtain rfl : t = m := by omega
        exact h hl
    simp only [encI] at q0
    generalize l[m] = y at *
    clear hm hr
    have HC := less_any y x wr
    by_cases hc : y < x
    · have HF2 : Hid ((∀ t (ht : t < l.length), t < m + 1 → l[t] < x) ∧ (∀ t (ht : t < l.length), j ≤ t → x ≤ l[t])) := ⟨HLT.out hc, HF.out.2⟩
      rw [decide_eq_true hc] at HC
      clear HF HLT HGE
      go_wp2_with fail
      refine HC.mono ?_
      rintro e w1 ⟨rfl, rfl⟩
      clear HC
      go_wp2_with fail
      exact ⟨⟨m + 1, j, by go_num, rfl, by omega, hj, HF2, trivial⟩, by simp [intOf]; omega⟩
    · have HF2 : Hid ((∀ t (ht : t < l.length), t < i → l[t] < x) ∧ (∀ t (ht : t < l.length), m ≤ t → x ≤ l[t])) := ⟨HF.out.1, HGE.out hc⟩
      rw [decide_eq_false hc] at HC
      clear HF HLT HGE
      go_wp2_with fail
      refine HC.mono ?_
      rintro e w1 ⟨rfl, rfl⟩
      clear HC
      go_wp2_with fail
      exact ⟨⟨i, m, rfl, rfl, by omega, by omega, HF2, trivial⟩, by simp [intOf]; omega⟩
  · obtain rfl : i = j := by omega
    have HP : Hid (posL l x = i) := posL_eq hj (fun t ht h => HF.out.1 t ht h) (fun h => Int.not_lt.2 (HF.out.2 i h (Nat.le_refl _)))
    have HV : Hid (isAt l x = (l[i]?).any fun y => decide (y = x)) := by show _ = _; unfold isAt; rw [HP.out]
    by_cases hil : i < l.length
    · obtain ⟨b2, o2, rfl, hb2, q0⟩ := hr.at (Below.refl _ _) hil
      have HX : Hid (isAt l x = decide (l[i] = x)) := by show _ = _; rw [HV.out, List.getElem?_eq_getElem hil]; rfl
      simp only [encI] at q0
      generalize l[i] = y at *
      clear hr HF HV
      have d8 : decide ((i : Int) < l.length) = true := decide_eq_true (by omega)
      by_cases hy : y = x
      · have dy : (y == x) = true := by simpa using hy
        have HX2 : Hid (isAt l x = true) := by show _ = _; rw [HX.out]; exact decide_eq_true hy
        clear HX hy
        go_wp2_with fail
        go_ret2
        exact ⟨by rw [HX2.out, HP.out]; rfl, rfl⟩
      · have dy : (y == x) = false := by simpa using hy
        have HX2 : Hid (isAt l x = false) := by show _ = _; rw [HX.out]; exact decide_eq_false hy
        have HC := isNaN2_any y wr
        clear HX hy
        go_wp2_with fail
        refine HC.mono ?_
        rintro e w1 ⟨rfl, rfl⟩
        clear HC
        go_wp2_with fail
        go_ret2
        exact ⟨by rw [HX2.out, HP.out]; rfl, rfl⟩
    · have HX2 : Hid (isAt l x = false) := by show _ = _; rw [HV.out, List.getElem?_eq_none (by omega)]; rfl
      clear hr HF HV
      have d8 : decide ((i : Int) < l.length) = false := decide_eq_false (by omega)
      go_wp2_with fail
      go_ret2
      exact ⟨by rw [HX2.out, HP.out]; rfl, rfl⟩
end Go.Proofs.Ytjpbfckdiojghaa
