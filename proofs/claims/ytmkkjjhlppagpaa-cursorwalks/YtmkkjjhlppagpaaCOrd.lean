/- Order: both sides. -/
import Derived.Test.YtmkkjjhlppagpaaCTold
namespace Go.Proofs.Ytmkkjjhlppagpaa
open Go.RowKit

/-- Which of two rows of numbers is ahead. -/
def ordN : List Int → List Int → Int
  | [], [] => 0
  | [], _ :: _ => -1
  | _ :: _, [] => 1
  | a :: l, b :: m => if a < b then -1 else if b < a then 1 else ordN l m
theorem ordN_drop {l m : List Int} {j : Nat} (h1 : j < l.length) (h2 : j < m.length) : ordN (l.drop j) (m.drop j) = if l[j] < m[j] then -1 else if m[j] < l[j] then 1 else ordN (l.drop (j + 1)) (m.drop (j + 1)) := by
  rw [List.drop_eq_getElem_cons h1, List.drop_eq_getElem_cons h2, ordN]
theorem ordN_one {l m : List Int} {j : Nat} (h1 : j < l.length) (h2 : m.length ≤ j) : ordN (l.drop j) (m.drop j) = 1 := by
  rw [List.drop_eq_getElem_cons h1, List.drop_of_length_le h2, ordN]
theorem ordN_two {l m : List Int} {j : Nat} (h1 : l.length ≤ j) (h2 : j < m.length) : ordN (l.drop j) (m.drop j) = -1 := by
  rw [List.drop_eq_getElem_cons h2, List.drop_of_length_le h1, ordN]
theorem ordN_end {l m : List Int} {j : Nat} (h1 : l.length ≤ j) (h2 : m.length ≤ j) : ordN (l.drop j) (m.drop j) = 0 := by
  rw [List.drop_of_length_le h1, List.drop_of_length_le h2, ordN]
theorem ordN_turn : ∀ (l m : List Int), ordN m l = -ordN l m
  | [], [] => rfl
  | [], _ :: _ => rfl
  | _ :: _, [] => rfl
  | a :: l, b :: m => by
    rw [ordN, ordN, ordN_turn l m]
    split <;> split <;> first | omega | (split <;> omega)
theorem ordN_range (l m : List Int) : -1 ≤ ordN l m ∧ ordN l m ≤ 1 := by
  induction l generalizing m with
  | nil => cases m <;> simp [ordN]
  | cons a l ih =>
    cases m with
    | nil => simp [ordN]
    | cons b m =>
      rw [ordN]
      have := ih m
      split
      · omega
      · split <;> omega

set_option maxRecDepth 100000 in
theorem nan_any (x : Int) (w : World) : Calls Try.prog 48 #[.int .i64 x] w fun e w' => e = .returned (.bool false) ∧ w' = w := by
  go_enter Try.func48, Try.ntmps48
  go_wp2_with fail
  go_ret
  exact ⟨ret_bool (by simp), rfl⟩
set_option maxRecDepth 100000 in
set_option maxHeartbeats 2000000 in
theorem cmp_any (x y : Int) (w : World) : Calls Try.prog 45 #[.int .i64 x, .int .i64 y] w fun e w' => e = .returned (.int .i64 (if x < y then -1 else if y < x then 1 else 0)) ∧ w' = w := by
  have h1 := nan_any x w
  have h2 := nan_any y w
  rcases Int.lt_trichotomy x y with h | h | h
  · rw [if_pos h]
    go_enter Try.func45, Try.ntmps45
    go_wp2_with fail
    refine h1.mono ?_
    rintro e w1 ⟨rfl, rfl⟩
    clear h1
    go_wp2_with fail
    refine h2.mono ?_
    rintro e w2 ⟨rfl, rfl⟩
    clear h2
    go_wp2_with fail
    go_ret
    exact ⟨rfl, rfl⟩
  · subst h
    rw [if_neg (by omega), if_neg (by omega)]
    have k1 : ¬ x < x := by omega
    go_enter Try.func45, Try.ntmps45
    go_wp2_with fail
    refine h1.mono ?_
    rintro e w1 ⟨rfl, rfl⟩
    clear h1
    go_wp2_with fail
    refine h2.mono ?_
    rintro e w2 ⟨rfl, rfl⟩
    clear h2
    go_wp2_with fail
    go_ret
    exact ⟨rfl, rfl⟩
  · rw [if_neg (by omega), if_pos h]
    have k1 : ¬ x < y := by omega
    go_enter Try.func45, Try.ntmps45
    go_wp2_with fail
    refine h1.mono ?_
    rintro e w1 ⟨rfl, rfl⟩
    clear h1
    go_wp2_with fail
    refine h2.mono ?_
    rintro e w2 ⟨rfl, rfl⟩
    clear h2
    go_wp2_with fail
    go_ret
    exact ⟨rfl, rfl⟩

set_option maxRecDepth 100000 in
set_option maxHeartbeats 4000000 in
theorem compare_any (l m : List Int) (lv mv : Value) (w : World) (hl : SlP l lv w) (hm : SlP m mv w) (hll : l.length ≤ 140737488351232) (_hml : m.length ≤ 140737488351232) :
    Calls Try.prog 40 #[lv, mv] w fun e w' => e = .returned (.int .i64 (ordN l m)) ∧ w' = w := by
  obtain ⟨la, lc, rfl, hlr, _⟩ := hl
  obtain ⟨ma, mc, rfl, hmr, _⟩ := hm
  have HR : Hid (RowI l la w ∧ RowI m ma w) := ⟨hlr, hmr⟩
  obtain ⟨V, hV⟩ : ∃ V, ordN l m = V := ⟨_, rfl⟩
  have HV : Hid (ordN l m = V) := hV
  rw [hV]
  clear hlr hmr hV
  go_enter Try.func40, Try.ntmps40
  go_wp2_with fail
  go_loopw [11] (fun c wr => ∃ j : Nat, c = .int .i64 j ∧ j ≤ l.length ∧ wr = w ∧ Hid (j ≤ m.length ∧ V = ordN (l.drop j) (m.drop j))) (fun c _ => l.length - (intOf c).toNat)
  case atStart => exact ⟨0, rfl, Nat.zero_le _, rfl, Nat.zero_le _, by simpa using HV.out.symm⟩
  case round =>
    obtain ⟨j, rfl, hj, hwr, HF⟩ := hrel
    obtain rfl : w = wr := hwr.symm
    clear hwr
    obtain ⟨hjm, hF⟩ := HF.out
    by_cases hlt : j < l.length
    · have k1 : (j : Int) < l.length := by omega
      obtain ⟨b, o, rfl, hb, c1⟩ := HR.out.1 j l[j] (by simp [hlt])
      by_cases hlm : j < m.length
      · have k2 : (j : Int) < m.length := by omega
        obtain ⟨b2, o2, rfl, hb2, c2⟩ := HR.out.2 j m[j] (by simp [hlm])
        have hc := cmp_any l[j] m[j] w
        rw [ordN_drop hlt hlm] at hF
        generalize l[j] = x at *
        generalize m[j] = y at *
        rcases Int.lt_trichotomy x y with h | h | h
        · rw [if_pos h] at hF hc
          have HE : Hid (V = -1) := hF
          clear HF hF HR HV
          go_wp2_with fail
          refine hc.mono ?_
          rintro e w1 ⟨rfl, rfl⟩
          clear hc
          go_wp2_with fail
          go_ret
          exact ⟨ret_int HE.out.symm, rfl⟩
        · subst h
          rw [if_neg (by omega), if_neg (by omega)] at hF hc
          have HF2 : Hid (j + 1 ≤ m.length ∧ V = ordN (l.drop (j + 1)) (m.drop (j + 1))) := ⟨by omega, hF⟩
          clear HF hF HR HV
          go_wp2_with fail
          refine hc.mono ?_
          rintro e w1 ⟨rfl, rfl⟩
          clear hc
          go_wp2_with fail
          exact ⟨⟨j + 1, by go_num, by omega, trivial, HF2⟩, by simp [intOf]; omega⟩
        · rw [if_neg (by omega), if_pos h] at hF hc
          have HE : Hid (V = 1) := hF
          clear HF hF HR HV
          go_wp2_with fail
          refine hc.mono ?_
          rintro e w1 ⟨rfl, rfl⟩
          clear hc
          go_wp2_with fail
          go_ret
          exact ⟨ret_int HE.out.symm, rfl⟩
      · have k2 : ¬ (j : Int) < m.length := by omega
        rw [ordN_one hlt (by omega)] at hF
        have HE : Hid (V = 1) := hF
        clear HF hF HR HV
        go_wp2_with fail
        go_ret
        exact ⟨ret_int HE.out.symm, rfl⟩
    · have k1 : ¬ (j : Int) < l.length := by omega
      by_cases hlm : l.length < m.length
      · rw [ordN_two (by omega) (by omega)] at hF
        have k2 : (l.length : Int) < m.length := by omega
        have HE : Hid (V = -1) := hF
        clear HF hF HR HV
        go_wp2_with fail
        go_ret
        exact ⟨ret_int HE.out.symm, rfl⟩
      · rw [ordN_end (by omega) (by omega)] at hF
        have k2 : ¬ (l.length : Int) < m.length := by omega
        have HE : Hid (V = 0) := hF
        clear HF hF HR HV
        go_wp2_with fail
        go_ret
        exact ⟨ret_int HE.out.symm, rfl⟩

set_option maxRecDepth 100000 in
theorem order_any (l m : List Int) (lv mv : Value) (w : World) (hl : SlP l lv w) (hm : SlP m mv w) (hll : l.length ≤ 140737488351232) (hml : m.length ≤ 140737488351232) :
    Calls Try.prog 25 #[lv, mv] w fun e w' => e = .returned (.int .i64 (ordN l m)) ∧ w' = w := by
  have hc := compare_any l m lv mv w hl hm hll hml
  obtain ⟨la, lc, rfl, _⟩ := hl
  obtain ⟨ma, mc, rfl, _⟩ := hm
  generalize ordN l m = V at *
  go_enter Try.func25, Try.ntmps25
  go_wp2_with fail
  refine hc.mono ?_
  rintro e w1 ⟨rfl, rfl⟩
  clear hc
  go_wp2_with fail
  go_ret
  exact ⟨rfl, rfl⟩

set_option maxRecDepth 100000 in
set_option maxHeartbeats 4000000 in
theorem rorder_any (l m : List Int) (lv mv : Value) (w : World) (hl : SlP l lv w) (hm : SlP m mv w) (hll : l.length ≤ 140737488351232) (_hml : m.length ≤ 140737488351232) :
    Calls Try.prog 26 #[lv, mv] w fun e w' => e = .returned (.int .i64 (ordN l m)) ∧ Below w.heap.size w w' := by
  obtain ⟨la, lc, rfl, hlr, _⟩ := hl
  obtain ⟨ma, mc, rfl, hmr, _⟩ := hm
  have HR : Hid (RowI l la w ∧ RowI m ma w) := ⟨hlr, hmr⟩
  obtain ⟨V, hV⟩ : ∃ V, ordN l m = V := ⟨_, rfl⟩
  have HV : Hid (ordN l m = V) := hV
  rw [hV]
  clear hlr hmr hV
  go_enter Try.func26, Try.ntmps26
  go_wp2_with fail
  go_loopw [5] (fun c wr => ∃ j : Nat, c = .int .i64 j ∧ j ≤ l.length ∧ Below w.heap.size w wr ∧ Hid (j ≤ m.length ∧ V = ordN (l.drop j) (m.drop j))) (fun c _ => l.length - (intOf c).toNat)
  case atStart => exact ⟨0, rfl, Nat.zero_le _, Below.refl _ _, Nat.zero_le _, by simpa using HV.out.symm⟩
  case round =>
    obtain ⟨j, rfl, hj, hB, HF⟩ := hrel
    obtain ⟨hjm, hF⟩ := HF.out
    by_cases hlt : j < l.length
    · have k1 : (j : Int) < l.length := by omega
      obtain ⟨b, o, rfl, hb, c1⟩ := (HR.out.1.next hB) j l[j] (by simp [hlt])
      by_cases hlm : j < m.length
      · have k2 : (j : Int) < m.length := by omega
        obtain ⟨b2, o2, rfl, hb2, c2⟩ := (HR.out.2.next hB) j m[j] (by simp [hlm])
        rw [ordN_drop hlt hlm] at hF
        generalize l[j] = x at *
        generalize m[j] = y at *
        rcases Int.lt_trichotomy x y with h | h | h
        · rw [if_pos h] at hF
          have HE : Hid (V = -1) := hF
          clear HF hF HR HV
          go_wp2_with fail
          go_quiet (fail)
          go_wp2_with fail
          go_ret
          exact ⟨ret_int HE.out.symm, below_drewN hB _⟩
        · subst h
          rw [if_neg (by omega), if_neg (by omega)] at hF
          have HF2 : Hid (j + 1 ≤ m.length ∧ V = ordN (l.drop (j + 1)) (m.drop (j + 1))) := ⟨by omega, hF⟩
          have k3 : ¬ x < x := by omega
          clear HF hF HR HV
          go_wp2_with fail
          go_quiet (fail)
          go_wp2_with fail
          go_quiet (fail)
          go_wp2_with fail
          exact ⟨⟨j + 1, by go_num, by omega, below_drewN hB _, HF2⟩, by simp [intOf]; omega⟩
        · rw [if_neg (by omega), if_pos h] at hF
          have HE : Hid (V = 1) := hF
          have k3 : ¬ x < y := by omega
          clear HF hF HR HV
          go_wp2_with fail
          go_quiet (fail)
          go_wp2_with fail
          go_quiet (fail)
          go_wp2_with fail
          go_ret
          exact ⟨ret_int HE.out.symm, below_drewN (below_drewN hB _) _⟩
      · have k2 : ¬ (j : Int) < m.length := by omega
        rw [ordN_one hlt (by omega)] at hF
        have k3 : ¬ (l.length : Int) < m.length := by omega
        have k4 : (m.length : Int) < l.length := by omega
        have HE : Hid (V = 1) := hF
        clear HF hF HR HV
        go_wp2_with fail
        go_ret
        exact ⟨ret_int HE.out.symm, hB⟩
    · have k1 : ¬ (j : Int) < l.length := by omega
      by_cases hlm : l.length < m.length
      · rw [ordN_two (by omega) (by omega)] at hF
        have k2 : (l.length : Int) < m.length := by omega
        have HE : Hid (V = -1) := hF
        clear HF hF HR HV
        go_wp2_with fail
        go_ret
        exact ⟨ret_int HE.out.symm, hB⟩
      · rw [ordN_end (by omega) (by omega)] at hF
        have k2 : ¬ (l.length : Int) < m.length := by omega
        have k3 : ¬ (m.length : Int) < l.length := by omega
        have HE : Hid (V = 0) := hF
        clear HF hF HR HV
        go_wp2_with fail
        go_ret
        exact ⟨ret_int HE.out.symm, hB⟩
end Go.Proofs.Ytmkkjjhlppagpaa
