/- The law TextMaps, walked: a byte that is not taken out is, behind an edit, the byte it was, and such bytes stay in order. -/
import Derived.Test.YtneailhanohdhaaBackWalk
namespace Go.Proofs.Ytneailhanohdhaa
open Go.RowKit

/-- The last place that was told, and how many bytes were taken out, ahead of byte i. -/
def lastN (a o tl i : Int) : Int := if i ≤ a then i - 1 else if i ≤ a + o then a - 1 else i - 1 - o + tl
def outN (a o i : Int) : Int := if i ≤ a then 0 else if i ≤ a + o then i - a else o

theorem outN_bd {a o n : Int} (j : Int) (ha : 0 ≤ a) (ho : 0 ≤ o) (h : a + o ≤ n) : 0 ≤ outN a o j ∧ outN a o j ≤ n := by
  unfold outN
  split
  · omega
  · split <;> omega
theorem outN_end {a o n : Int} (_ha : 0 ≤ a) (ho : 0 ≤ o) (h : a + o ≤ n) : outN a o n = o := by
  unfold outN
  split
  · omega
  · split <;> omega
theorem step1 {a o tl i : Int} (_ho : 0 ≤ o) (h : i < a) : lastN a o tl i < i ∧ lastN a o tl (i + 1) = i ∧ outN a o (i + 1) = outN a o i := by
  unfold lastN outN
  rw [if_pos (by omega), if_pos (by omega), if_pos (by omega), if_pos (by omega)]
  omega
theorem step2 {a o tl i : Int} (h : ¬ i < a) (h2 : i - a < o) : lastN a o tl (i + 1) = lastN a o tl i ∧ outN a o (i + 1) = outN a o i + 1 := by
  unfold lastN outN
  by_cases e : i = a
  · rw [if_neg (by omega), if_pos (by omega), if_pos (by omega), if_neg (by omega), if_pos (by omega), if_pos (by omega)]; omega
  · rw [if_neg (by omega), if_pos (by omega), if_neg (by omega), if_pos (by omega), if_neg (by omega), if_pos (by omega), if_neg (by omega), if_pos (by omega)]; omega
theorem step3 {a o tl i : Int} (ho : 0 ≤ o) (htl : 0 ≤ tl) (h : ¬ i < a) (h2 : ¬ i - a < o) : lastN a o tl i < i - o + tl ∧ lastN a o tl (i + 1) = i - o + tl ∧ outN a o (i + 1) = outN a o i := by
  unfold lastN outN
  refine ⟨?_, ?_, ?_⟩
  · split
    · omega
    · split <;> omega
  · rw [if_neg (by omega), if_neg (by omega)]; omega
  · rw [if_neg (by omega), if_neg (by omega)]
    split
    · omega
    · split <;> omega

theorem byte_of {s t : ByteArray} {i k : Nat} (hi : i < s.size) (hk : k < t.size) (h : t.data.toList[k]? = s.data.toList[i]?) : t[k] = s[i] := by
  rw [List.getElem?_eq_getElem (by simpa using hk), List.getElem?_eq_getElem (by simpa using hi)] at h
  exact Option.some.inj h

/-- Ahead of the edit. -/
theorem keep1 {s t : ByteArray} {a o : Int} {i : Nat} (hf : fitN s.size a o t.size = 0) (h : (i : Int) < a) : i < (appB s t a o).size ∧ (appB s t a o).data.toList[i]? = s.data.toList[i]? ∧ mapN a o t.size i = ((i : Int), true) := by
  have hz := fit_zero hf
  have hsz := appB_size hf
  refine ⟨by omega, ?_, ?_⟩
  · rw [appB_list hf, List.append_assoc, List.getElem?_append_left (by simp; omega), List.getElem?_take_of_lt (by omega)]
  · unfold mapN; rw [if_neg (by omega), if_pos (by omega)]
theorem keep2 {s t : ByteArray} {a o : Int} {i : Nat} (hf : fitN s.size a o t.size = 0) (_h : ¬ (i : Int) < a) (h2 : (i : Int) - a < o) : mapN a o t.size i = (0, false) := by
  have hz := fit_zero hf
  unfold mapN; rw [if_neg (by omega), if_neg (by omega), if_pos (by omega)]
theorem keep3 {s t : ByteArray} {a o : Int} {i : Nat} (hf : fitN s.size a o t.size = 0) (h : ¬ (i : Int) < a) (h2 : ¬ (i : Int) - a < o) (hi : i < s.size) (hs : s.size ≤ 140737488351232) (ht : t.size ≤ 140737488351232) :
    i - o.toNat + t.size < (appB s t a o).size ∧ (appB s t a o).data.toList[i - o.toNat + t.size]? = s.data.toList[i]? ∧ mapN a o t.size i = (((i - o.toNat + t.size : Nat) : Int), true) := by
  have hz := fit_zero hf
  have hsz := appB_size hf
  refine ⟨by omega, ?_, ?_⟩
  · rw [appB_list hf, List.getElem?_append_right (by simp; omega), List.getElem?_drop]
    congr 1
    simp
    omega
  · unfold mapN; rw [if_neg (by omega), if_neg (by omega), if_neg (by omega), IntWalk.wrap64_in _ (by omega)]
    congr 1
    omega

set_option maxHeartbeats 400000 in
theorem maps_no (s t r : ByteArray) (a o f : Int) (w : World) (c14 : Hid (∀ w, Calls Try.prog 14 #[.string s, .agg #[.int .i64 a, .int .i64 o, .string t]] w fun e w' => e = .returned (.tuple #[.string r, .int .i64 f]) ∧ Below w.heap.size w w')) (hf : (f != 0) = true) :
    Calls Try.prog 7 #[.string s, .agg #[.int .i64 a, .int .i64 o, .string t]] w fun e w' => e = .returned (.bool true) ∧ Below w.heap.size w w' := by
  go_enter Try.func7, Try.ntmps7
  go_wp2_with fail
  refine (c14.out _).mono ?_
  rintro e w1 ⟨rfl, hb⟩
  have B1 : Below w.heap.size w w1 := below_then ((Below.refl w.heap.size w).alloc (Nat.le_refl _) _) hb (by simp)
  clear hb
  go_wp2_with fail
  refine (awake_any _).mono ?_
  rintro e w6 ⟨rfl, hb⟩
  replace B1 := below_then B1 hb B1.size
  go_wp2
  go_ret
  exact ⟨rfl, B1⟩

set_option maxHeartbeats 1000000 in
theorem maps_yes (s t r : ByteArray) (a o : Int) (w : World) (hs : s.size ≤ 140737488351232) (_ht : t.size ≤ 140737488351232) (ha : 0 ≤ a) (ho : 0 ≤ o) (hao : a + o ≤ s.size)
    (c14 : Hid (∀ w, Calls Try.prog 14 #[.string s, .agg #[.int .i64 a, .int .i64 o, .string t]] w fun e w' => e = .returned (.tuple #[.string r, .int .i64 0]) ∧ Below w.heap.size w w'))
    (c18 : Hid (∀ i : Nat, i < s.size → ((∃ (k : Nat) (hk : k < r.size) (hi : i < s.size), lastN a o t.size i < k ∧ r[k] = s[i] ∧ lastN a o t.size (i + 1) = k ∧ outN a o (i + 1) = outN a o i ∧ ∀ w, Calls Try.prog 18 #[.agg #[.int .i64 a, .int .i64 o, .string t], .int .i64 i] w fun e w' => e = .returned (.tuple #[.int .i64 k, .bool true]) ∧ Below w.heap.size w w') ∨
      (lastN a o t.size (i + 1) = lastN a o t.size i ∧ outN a o (i + 1) = outN a o i + 1 ∧ ∀ w, Calls Try.prog 18 #[.agg #[.int .i64 a, .int .i64 o, .string t], .int .i64 i] w fun e w' => e = .returned (.tuple #[.int .i64 0, .bool false]) ∧ Below w.heap.size w w')))) :
    Calls Try.prog 7 #[.string s, .agg #[.int .i64 a, .int .i64 o, .string t]] w fun e w' => e = .returned (.bool true) ∧ Below w.heap.size w w' := by
  go_enter Try.func7, Try.ntmps7
  go_wp2_with fail
  refine (c14.out _).mono ?_
  rintro e w1 ⟨rfl, hb⟩
  have k1 : Has3 w.heap.size (.int .i64 a) (.int .i64 o) (.string t) w1 := (Has3.new w _ _ _ _).next hb
  have B1 : Below w.heap.size w w1 := below_then ((Below.refl w.heap.size w).alloc (Nat.le_refl _) _) hb (by simp)
  clear hb
  go_wp2_with fail
  go_loopw [7, 8, 9] (fun l n i wr => ∃ j : Nat, j ≤ s.size ∧ l = .int .i64 (lastN a o t.size j) ∧ n = .int .i64 (outN a o j) ∧ i = .int .i64 j ∧ Has3 w.heap.size (.int .i64 a) (.int .i64 o) (.string t) wr ∧ Below w.heap.size w wr) (fun _ _ i _ => s.size - (intOf i).toNat)
  case atStart => exact ⟨0, Nat.zero_le _, by simp [lastN, ha], by simp [outN, ha], rfl, k1, B1⟩
  case round =>
    clear k1 B1
    obtain ⟨j, hj, rfl, rfl, rfl, k1, B1⟩ := hrel
    obtain ⟨l1, a0, a1, a2⟩ := id k1
    by_cases hlt : j < s.size
    · rcases c18.out j hlt with ⟨k, hk, hi, g1, g2, g3, g4, c⟩ | ⟨g3, g4, c⟩
      · have C : Hid (∀ w, Calls Try.prog 18 #[.agg #[.int .i64 a, .int .i64 o, .string t], .int .i64 j] w fun e w' => e = .returned (.tuple #[.int .i64 k, .bool true]) ∧ Below w.heap.size w w') := c
        have G3 : Hid (lastN a o t.size (j + 1) = k) := g3
        have G4 : Hid (outN a o (j + 1) = outN a o j) := g4
        clear c g3 g4
        generalize lastN a o t.size j = L at *
        generalize outN a o j = N at *
        have hd1 : decide ((k : Int) ≤ L) = false := by rw [decide_eq_false_iff_not]; omega
        have hd2 : decide (((r.size : Nat) : Int) ≤ k) = false := by rw [decide_eq_false_iff_not]; omega
        go_wp2_with fail
        refine (C.out _).mono ?_
        rintro e w2 ⟨rfl, hb⟩
        replace k1 := k1.next hb
        replace B1 := below_then B1 hb B1.size
        clear hb l1 a0 a1 a2
        go_wp2_with fail
        go_quiet (fail)
        go_wp2
        exact ⟨⟨j + 1, by omega, by rw [Int.natCast_add, Int.natCast_one, G3.out], by rw [Int.natCast_add, Int.natCast_one, G4.out], by go_num, k1.next (below_drewN (Below.refl _ _) nq), below_drewN B1 nq⟩, by simp [intOf]; omega⟩
      · have C : Hid (∀ w, Calls Try.prog 18 #[.agg #[.int .i64 a, .int .i64 o, .string t], .int .i64 j] w fun e w' => e = .returned (.tuple #[.int .i64 0, .bool false]) ∧ Below w.heap.size w w') := c
        have G3 : Hid (lastN a o t.size (j + 1) = lastN a o t.size j) := g3
        have G4 : Hid (outN a o (j + 1) = outN a o j + 1) := g4
        have hN := outN_bd (a := a) (o := o) (n := s.size) j ha ho hao
        clear c g3 g4
        generalize lastN a o t.size j = L at *
        generalize outN a o j = N at *
        obtain ⟨hN1, hN2⟩ := hN
        go_wp2_with fail
        refine (C.out _).mono ?_
        rintro e w2 ⟨rfl, hb⟩
        replace k1 := k1.next hb
        replace B1 := below_then B1 hb B1.size
        clear hb l1 a0 a1 a2
        go_wp2
        exact ⟨⟨j + 1, by omega, by rw [Int.natCast_add, Int.natCast_one, G3.out], by rw [Int.natCast_add, Int.natCast_one, G4.out], by go_num, k1, B1⟩, by simp [intOf]; omega⟩
    · have hj2 : j = s.size := by omega
      have hN : outN a o j = o := by rw [hj2]; exact outN_end ha ho hao
      rw [hN]
      clear hN c18 c14
      generalize lastN a o t.size j = L at *
      have hoo : (o == o) = true := by simp
      go_wp2_with fail
      refine (awake_any _).mono ?_
      rintro e w6 ⟨rfl, hb⟩
      replace B1 := below_then B1 hb B1.size
      go_wp2
      go_ret
      exact ⟨rfl, B1⟩
end Go.Proofs.Ytneailhanohdhaa
