/- The contracts of Diff (the least edit between two texts), of the program and the document's own: both are one edit, told by how many bytes two texts have alike at both ends; for every two texts of at most 140737488351232 bytes each. -/
import Derived.Test.YtneailhanohdhaaEdits
namespace Go.Proofs.Ytneailhanohdhaa
open Go.RowKit

/-- How many letters two rows have alike at their beginning. -/
def cp : List UInt8 → List UInt8 → Nat
  | x :: xs, y :: ys => if x = y then cp xs ys + 1 else 0
  | _, _ => 0

theorem cp_le : ∀ (x y : List UInt8), cp x y ≤ x.length ∧ cp x y ≤ y.length
  | [], _ => by simp [cp]
  | _ :: _, [] => by simp [cp]
  | a :: x, b :: y => by
    have h := cp_le x y
    by_cases e : a = b <;> simp [cp, e] <;> omega

theorem drop_at (s : ByteArray) (k : Nat) (h : k < s.size) : s.data.toList.drop k = s[k] :: s.data.toList.drop (k + 1) := by
  rw [List.drop_eq_getElem_cons (by simpa using h)]; rfl

theorem cp_step {a b : ByteArray} {k : Nat} (ha : k < a.size) (hb : k < b.size) (e : a[k] = b[k]) : cp (a.data.toList.drop k) (b.data.toList.drop k) = cp (a.data.toList.drop (k + 1)) (b.data.toList.drop (k + 1)) + 1 := by
  rw [drop_at a k ha, drop_at b k hb]; simp [cp, e]
theorem cp_stop {a b : ByteArray} {k : Nat} (ha : k < a.size) (hb : k < b.size) (e : ¬ a[k] = b[k]) : cp (a.data.toList.drop k) (b.data.toList.drop k) = 0 := by
  rw [drop_at a k ha, drop_at b k hb]; simp [cp, e]
theorem cp_end1 {a b : ByteArray} {k : Nat} (ha : a.size ≤ k) : cp (a.data.toList.drop k) (b.data.toList.drop k) = 0 := by
  rw [List.drop_of_length_le (by simpa using ha)]; simp [cp]
theorem cp_end2 {a b : ByteArray} {k : Nat} (hb : b.size ≤ k) : cp (a.data.toList.drop k) (b.data.toList.drop k) = 0 := by
  rw [List.drop_of_length_le (l := b.data.toList) (by simpa using hb)]; cases a.data.toList.drop k <;> simp [cp]

theorem toNat_ne {x y : UInt8} (h : ¬ x = y) : ((x.toNat : Int) == (y.toNat : Int)) = false := by
  rw [beq_eq_false_iff_ne]; intro e; exact h (UInt8.toNat_inj.1 (by omega))

set_option maxHeartbeats 400000 in
theorem ahead_any (a b : ByteArray) (w : World) (ha : a.size ≤ 140737488351232) (_hb : b.size ≤ 140737488351232) :
    Calls Try.prog 27 #[.string a, .string b] w fun e w' => e = .returned (.int .i64 (cp a.data.toList b.data.toList)) ∧ ∃ q, w' = w.drewN q := by
  go_enter Try.func27, Try.ntmps27
  go_wp2
  go_loopw [5] (fun n wr => ∃ (k q : Nat), k ≤ a.size ∧ k ≤ b.size ∧ n = .int .i64 k ∧ wr = w.drewN q ∧ cp a.data.toList b.data.toList = k + cp (a.data.toList.drop k) (b.data.toList.drop k)) (fun n _ => a.size - (intOf n).toNat)
  case atStart => exact ⟨0, 0, Nat.zero_le _, Nat.zero_le _, rfl, rfl, by simp⟩
  case round =>
    obtain ⟨k, q, hk1, hk2, rfl, rfl, hcp⟩ := hrel
    have HC : Hid (cp a.data.toList b.data.toList = k + cp (a.data.toList.drop k) (b.data.toList.drop k)) := hcp
    clear hcp
    by_cases h1 : k < a.size
    · have hd1 : decide ((k : Int) < a.size) = true := by simpa using h1
      by_cases h2 : k < b.size
      · have hd2 : decide ((k : Int) < b.size) = true := by simpa using h2
        by_cases h3 : a[k] = b[k]
        · have HH : Hid (cp (a.data.toList.drop k) (b.data.toList.drop k) = cp (a.data.toList.drop (k + 1)) (b.data.toList.drop (k + 1)) + 1) := cp_step h1 h2 h3
          go_wp2_with fail
          go_quiet (fail)
          go_wp2
          exact ⟨⟨k + 1, _, by omega, by omega, by go_num, rfl, by rw [HC.out, HH.out]; omega⟩, by simp [intOf]; omega⟩
        · have HH : Hid (cp (a.data.toList.drop k) (b.data.toList.drop k) = 0) := cp_stop h1 h2 h3
          have h4 := toNat_ne h3
          clear h3
          go_wp2_with fail
          go_quiet (fail)
          go_wp2
          go_ret
          exact ⟨ret_int (by rw [HC.out, HH.out]; simp), _, World.drewN_drewN ..⟩
      · have hd2 : decide ((k : Int) < b.size) = false := by simpa using h2
        have HH : Hid (cp (a.data.toList.drop k) (b.data.toList.drop k) = 0) := cp_end2 (by omega)
        go_wp2_with fail
        go_quiet (fail)
        go_wp2
        go_ret
        exact ⟨ret_int (by rw [HC.out, HH.out]; simp), _, World.drewN_drewN ..⟩
    · have hd1 : decide ((k : Int) < a.size) = false := by simpa using h1
      have HH : Hid (cp (a.data.toList.drop k) (b.data.toList.drop k) = 0) := cp_end1 (by omega)
      go_wp2_with fail
      go_quiet (fail)
      go_wp2
      go_ret
      exact ⟨ret_int (by rw [HC.out, HH.out]; simp), _, World.drewN_drewN ..⟩

theorem rev_at (s : ByteArray) (k : Nat) (h : k < s.size) : s.data.toList.reverse.drop k = (s[s.size - 1 - k]'(by omega)) :: s.data.toList.reverse.drop (k + 1) := by
  rw [List.drop_eq_getElem_cons (by simpa using h)]
  congr 1
  rw [List.getElem_reverse]
  simp
  rfl

theorem rp_step {a b : ByteArray} {k : Nat} (ha : k < a.size) (hb : k < b.size) (e : a[a.size - 1 - k]'(by omega) = b[b.size - 1 - k]'(by omega)) : cp (a.data.toList.reverse.drop k) (b.data.toList.reverse.drop k) = cp (a.data.toList.reverse.drop (k + 1)) (b.data.toList.reverse.drop (k + 1)) + 1 := by
  rw [rev_at a k ha, rev_at b k hb]; simp [cp, e]
theorem rp_stop {a b : ByteArray} {k : Nat} (ha : k < a.size) (hb : k < b.size) (e : ¬ a[a.size - 1 - k]'(by omega) = b[b.size - 1 - k]'(by omega)) : cp (a.data.toList.reverse.drop k) (b.data.toList.reverse.drop k) = 0 := by
  rw [rev_at a k ha, rev_at b k hb]; simp [cp, e]
theorem rp_end1 {a b : ByteArray} {k : Nat} (ha : a.size ≤ k) : cp (a.data.toList.reverse.drop k) (b.data.toList.reverse.drop k) = 0 := by
  rw [List.drop_of_length_le (by simpa using ha)]; simp [cp]
theorem rp_end2 {a b : ByteArray} {k : Nat} (hb : b.size ≤ k) : cp (a.data.toList.reverse.drop k) (b.data.toList.reverse.drop k) = 0 := by
  rw [List.drop_of_length_le (l := b.data.toList.reverse) (by simpa using hb)]; cases a.data.toList.reverse.drop k <;> simp [cp]

theorem index_back (a : ByteArray) (k : Nat) (h : k < a.size) (w : World) : (Instr.index 9 (.string a) (.int .i64 ((a.size : Int) - 1 - k))).run Try.prog w = .ok (.int .u8 (a[a.size - 1 - k]'(by omega)).toNat) w := by
  rw [run_index_string w 9 a .i64 _ Try.underlying9, dif_pos (by omega)]
  have : ((a.size : Int) - 1 - k).toNat = a.size - 1 - k := by omega
  simp only [this]

set_option maxHeartbeats 400000 in
theorem behind_any (a b : ByteArray) (w : World) (ha : a.size ≤ 140737488351232) (hb : b.size ≤ 140737488351232) :
    Calls Try.prog 28 #[.string a, .string b] w fun e w' => e = .returned (.int .i64 (cp a.data.toList.reverse b.data.toList.reverse)) ∧ ∃ q, w' = w.drewN q := by
  go_enter Try.func28, Try.ntmps28
  go_wp2
  go_loopw [5] (fun n wr => ∃ (k q : Nat), k ≤ a.size ∧ k ≤ b.size ∧ n = .int .i64 k ∧ wr = w.drewN q ∧ cp a.data.toList.reverse b.data.toList.reverse = k + cp (a.data.toList.reverse.drop k) (b.data.toList.reverse.drop k)) (fun n _ => a.size - (intOf n).toNat)
  case atStart => exact ⟨0, 0, Nat.zero_le _, Nat.zero_le _, rfl, rfl, by simp⟩
  case round =>
    obtain ⟨k, q, hk1, hk2, rfl, rfl, hcp⟩ := hrel
    have HC : Hid (cp a.data.toList.reverse b.data.toList.reverse = k + cp (a.data.toList.reverse.drop k) (b.data.toList.reverse.drop k)) := hcp
    clear hcp
    by_cases h1 : k < a.size
    · have hd1 : decide ((k : Int) < a.size) = true := by simpa using h1
      by_cases h2 : k < b.size
      · have hd2 : decide ((k : Int) < b.size) = true := by simpa using h2
        have i1 := index_back a k h1
        have i2 := index_back b k h2
        by_cases h3 : a[a.size - 1 - k]'(by omega) = b[b.size - 1 - k]'(by omega)
        · have HH : Hid (cp (a.data.toList.reverse.drop k) (b.data.toList.reverse.drop k) = cp (a.data.toList.reverse.drop (k + 1)) (b.data.toList.reverse.drop (k + 1)) + 1) := rp_step h1 h2 h3
          go_wp2_with fail
          go_quiet (fail)
          go_wp2
          exact ⟨⟨k + 1, _, by omega, by omega, by go_num, rfl, by rw [HC.out, HH.out]; omega⟩, by simp [intOf]; omega⟩
        · have HH : Hid (cp (a.data.toList.reverse.drop k) (b.data.toList.reverse.drop k) = 0) := rp_stop h1 h2 h3
          have h4 := toNat_ne h3
          clear h3
          go_wp2_with fail
          go_quiet (fail)
          go_wp2
          go_ret
          exact ⟨ret_int (by rw [HC.out, HH.out]; simp), _, World.drewN_drewN ..⟩
      · have hd2 : decide ((k : Int) < b.size) = false := by simpa using h2
        have HH : Hid (cp (a.data.toList.reverse.drop k) (b.data.toList.reverse.drop k) = 0) := rp_end2 (by omega)
        go_wp2_with fail
        go_quiet (fail)
        go_wp2
        go_ret
        exact ⟨ret_int (by rw [HC.out, HH.out]; simp), _, World.drewN_drewN ..⟩
    · have hd1 : decide ((k : Int) < a.size) = false := by simpa using h1
      have HH : Hid (cp (a.data.toList.reverse.drop k) (b.data.toList.reverse.drop k) = 0) := rp_end1 (by omega)
      go_wp2_with fail
      go_quiet (fail)
      go_wp2
      go_ret
      exact ⟨ret_int (by rw [HC.out, HH.out]; simp), _, World.drewN_drewN ..⟩

/-- How many bytes two texts have alike at their beginning; and of what is left, at the end. -/
def dI (a b : ByteArray) : Nat := cp a.data.toList b.data.toList
def dK (a b : ByteArray) : Nat := cp (a.data.toList.drop (dI a b)).reverse (b.data.toList.drop (dI a b)).reverse
def diffV (a b : ByteArray) : Value := .agg #[.int .i64 (dI a b : Nat), .int .i64 ((a.size - dI a b - dK a b : Nat) : Int), .string (b.extract (dI a b) (b.size - dK a b))]

theorem dI_le (a b : ByteArray) : dI a b ≤ a.size ∧ dI a b ≤ b.size := by have := cp_le a.data.toList b.data.toList; simpa [dI] using this
theorem dK_le (a b : ByteArray) : dI a b + dK a b ≤ a.size ∧ dI a b + dK a b ≤ b.size := by
  have h := cp_le (a.data.toList.drop (dI a b)).reverse (b.data.toList.drop (dI a b)).reverse
  have h1 := dI_le a b
  simp at h
  unfold dK
  omega
theorem ex_list (a : ByteArray) (i j : Nat) : (a.extract i j).data.toList = (a.data.toList.drop i).take (j - i) := by
  simp [ByteArray.data_extract, List.extract_eq_take_drop]
theorem ex_tail (a : ByteArray) (i : Nat) : (a.extract i a.size).data.toList = a.data.toList.drop i := by
  rw [ex_list, List.take_of_length_le (by simp)]
theorem ex_size (a : ByteArray) (i : Nat) (_h : i ≤ a.size) : (a.extract i a.size).size = a.size - i := by simp
theorem ba_ext {a b : ByteArray} (h : a.data.toList = b.data.toList) : a = b := by
  cases a; cases b; simpa using h
theorem ex_ex (b : ByteArray) (i k : Nat) (h : i + k ≤ b.size) : (b.extract i b.size).extract 0 (b.size - i - k) = b.extract i (b.size - k) := by
  apply ba_ext
  rw [ex_list, ex_tail, ex_list]
  simp
  congr 1
  omega

set_option maxHeartbeats 400000 in
theorem diff_any (a b : ByteArray) (w : World) (ha : a.size ≤ 140737488351232) (hb : b.size ≤ 140737488351232) :
    Calls Try.prog 24 #[.string a, .string b] w fun e w' => e = .returned (diffV a b) ∧ Below w.heap.size w w' := by
  obtain ⟨hi1, hi2⟩ := dI_le a b
  obtain ⟨hk1, hk2⟩ := dK_le a b
  have HV : Hid (diffV a b = .agg #[.int .i64 (dI a b : Nat), .int .i64 ((a.size - dI a b - dK a b : Nat) : Int), .string (b.extract (dI a b) (b.size - dK a b))]) := rfl
  have HK : Hid (cp (a.extract (dI a b) a.size).data.toList.reverse (b.extract (dI a b) b.size).data.toList.reverse = dK a b) := by
    show _ = _
    rw [ex_tail, ex_tail]; rfl
  have HI : Hid (cp a.data.toList b.data.toList = dI a b) := rfl
  generalize dI a b = i at *
  generalize dK a b = k at *
  go_enter Try.func24, Try.ntmps24
  go_wp2_with fail
  refine (ahead_any _ _ _ ha hb).mono ?_
  rw [HI.out]
  rintro e w1 ⟨rfl, q, rfl⟩
  go_wp2_with fail
  go_quiet (fail)
  go_wp2_with fail
  refine (behind_any _ _ _ (by simp; omega) (by simp; omega)).mono ?_
  rw [HK.out]
  rintro e w1 ⟨rfl, q1, rfl⟩
  go_wp2
  refine bodyPost_ret (v := .agg #[.int .i64 i, .int .i64 (((a.size - i : Nat) : Int) - k), .string ((b.extract i b.size).extract 0 (b.size - i - k))]) (by simp [results, Try.results24, go_sem]) rfl ⟨?_, ?_⟩
  · rw [HV.out, ex_ex b i k hk2, show (((a.size - i : Nat) : Int) - k) = ((a.size - i - k : Nat) : Int) from by omega]
  · exact (((below_drewN ((Below.refl _ _).alloc (Nat.le_refl _) _) _).setCell (by simp) _).setCell (by simp) _).setCell (by simp) _

theorem cut_at (a : ByteArray) (i k : Nat) (h : i + k < a.size) : (a.data.toList.drop i).reverse.drop k = (a[a.size - 1 - k]'(by omega)) :: (a.data.toList.drop i).reverse.drop (k + 1) := by
  rw [List.drop_eq_getElem_cons (by simp; omega)]
  congr 1
  rw [List.getElem_reverse, List.getElem_drop]
  have : i + ((a.data.toList.drop i).length - 1 - k) = a.size - 1 - k := by simp; omega
  simp only [this]
  rfl
theorem kp_step {a b : ByteArray} {i k : Nat} (ha : i + k < a.size) (hb : i + k < b.size) (e : a[a.size - 1 - k]'(by omega) = b[b.size - 1 - k]'(by omega)) : cp ((a.data.toList.drop i).reverse.drop k) ((b.data.toList.drop i).reverse.drop k) = cp ((a.data.toList.drop i).reverse.drop (k + 1)) ((b.data.toList.drop i).reverse.drop (k + 1)) + 1 := by
  rw [cut_at a i k ha, cut_at b i k hb]; simp [cp, e]
theorem kp_stop {a b : ByteArray} {i k : Nat} (ha : i + k < a.size) (hb : i + k < b.size) (e : ¬ a[a.size - 1 - k]'(by omega) = b[b.size - 1 - k]'(by omega)) : cp ((a.data.toList.drop i).reverse.drop k) ((b.data.toList.drop i).reverse.drop k) = 0 := by
  rw [cut_at a i k ha, cut_at b i k hb]; simp [cp, e]
theorem kp_end1 {a b : ByteArray} {i k : Nat} (ha : a.size ≤ i + k) : cp ((a.data.toList.drop i).reverse.drop k) ((b.data.toList.drop i).reverse.drop k) = 0 := by
  rw [List.drop_of_length_le (by simp; omega)]; simp [cp]
theorem kp_end2 {a b : ByteArray} {i k : Nat} (hb : b.size ≤ i + k) : cp ((a.data.toList.drop i).reverse.drop k) ((b.data.toList.drop i).reverse.drop k) = 0 := by
  rw [List.drop_of_length_le (l := (b.data.toList.drop i).reverse) (by simp; omega)]; cases (a.data.toList.drop i).reverse.drop k <;> simp [cp]

/-- The ways in which a first look ends. -/
theorem ends1 {a b : ByteArray} {k : Nat} (hn : ¬ (k < a.size ∧ k < b.size ∧ a.data.toList[k]? = b.data.toList[k]?)) :
    (¬ k < a.size ∧ decide ((k : Int) < a.size) = false) ∨ (k < a.size ∧ ¬ k < b.size ∧ decide ((k : Int) < a.size) = true ∧ decide ((k : Int) < b.size) = false) ∨ (∃ (h1 : k < a.size) (h2 : k < b.size), decide ((k : Int) < a.size) = true ∧ decide ((k : Int) < b.size) = true ∧ (((a[k]'h1).toNat : Int) == ((b[k]'h2).toNat : Int)) = false) := by
  by_cases h1 : k < a.size
  · by_cases h2 : k < b.size
    · refine .inr (.inr ⟨h1, h2, by simpa using h1, by simpa using h2, toNat_ne fun e => hn ⟨h1, h2, ?_⟩⟩)
      rw [List.getElem?_eq_getElem (by simpa using h1), List.getElem?_eq_getElem (by simpa using h2)]
      exact congrArg some e
    · exact .inr (.inl ⟨h1, h2, by simpa using h1, by simpa using h2⟩)
  · exact .inl ⟨h1, by simpa using h1⟩
theorem ends1_cp {a b : ByteArray} {k : Nat} (hn : ¬ (k < a.size ∧ k < b.size ∧ a.data.toList[k]? = b.data.toList[k]?)) : cp (a.data.toList.drop k) (b.data.toList.drop k) = 0 := by
  by_cases h1 : k < a.size
  · by_cases h2 : k < b.size
    · refine cp_stop h1 h2 fun e => hn ⟨h1, h2, ?_⟩
      rw [List.getElem?_eq_getElem (by simpa using h1), List.getElem?_eq_getElem (by simpa using h2)]
      exact congrArg some e
    · exact cp_end2 (by omega)
  · exact cp_end1 (by omega)

theorem ends2 {a b : ByteArray} {k j : Nat} (hn : ¬ (k + j < a.size ∧ k + j < b.size ∧ a.data.toList[a.size - 1 - j]? = b.data.toList[b.size - 1 - j]?)) :
    (¬ (j : Int) < a.size - k ∧ decide ((j : Int) < a.size - k) = false) ∨ ((j : Int) < a.size - k ∧ ¬ (j : Int) < b.size - k ∧ decide ((j : Int) < a.size - k) = true ∧ decide ((j : Int) < b.size - k) = false) ∨
    (∃ (h1 : k + j < a.size) (h2 : k + j < b.size), decide ((j : Int) < a.size - k) = true ∧ decide ((j : Int) < b.size - k) = true ∧
      (∀ w, (Instr.index 9 (.string a) (.int .i64 ((a.size : Int) - 1 - j))).run Try.prog w = .ok (.int .u8 (a[a.size - 1 - j]'(by omega)).toNat) w) ∧
      (∀ w, (Instr.index 9 (.string b) (.int .i64 ((b.size : Int) - 1 - j))).run Try.prog w = .ok (.int .u8 (b[b.size - 1 - j]'(by omega)).toNat) w) ∧
      (((a[a.size - 1 - j]'(by omega)).toNat : Int) == ((b[b.size - 1 - j]'(by omega)).toNat : Int)) = false) := by
  by_cases h1 : k + j < a.size
  · by_cases h2 : k + j < b.size
    · refine .inr (.inr ⟨h1, h2, by rw [decide_eq_true_iff]; omega, by rw [decide_eq_true_iff]; omega, index_back a j (by omega), index_back b j (by omega), toNat_ne fun e => hn ⟨h1, h2, ?_⟩⟩)
      rw [List.getElem?_eq_getElem (by simp; omega), List.getElem?_eq_getElem (by simp; omega)]
      exact congrArg some e
    · exact .inr (.inl ⟨by omega, by omega, by rw [decide_eq_true_iff]; omega, by rw [decide_eq_false_iff_not]; omega⟩)
  · exact .inl ⟨by omega, by rw [decide_eq_false_iff_not]; omega⟩
theorem ends2_cp {a b : ByteArray} {k j : Nat} (hn : ¬ (k + j < a.size ∧ k + j < b.size ∧ a.data.toList[a.size - 1 - j]? = b.data.toList[b.size - 1 - j]?)) : cp ((a.data.toList.drop k).reverse.drop j) ((b.data.toList.drop k).reverse.drop j) = 0 := by
  by_cases h1 : k + j < a.size
  · by_cases h2 : k + j < b.size
    · refine kp_stop h1 h2 fun e => hn ⟨h1, h2, ?_⟩
      rw [List.getElem?_eq_getElem (by simp; omega), List.getElem?_eq_getElem (by simp; omega)]
      exact congrArg some e
    · exact kp_end2 (by omega)
  · exact kp_end1 (by omega)

set_option maxHeartbeats 2000000 in
theorem rdiff_any (a b : ByteArray) (w : World) (ha : a.size ≤ 140737488351232) (hb : b.size ≤ 140737488351232) :
    Calls Try.prog 25 #[.string a, .string b] w fun e w' => e = .returned (diffV a b) ∧ Below w.heap.size w w' := by
  go_enter Try.func25, Try.ntmps25
  go_wp2
  go_loopw [5] (fun n wr => ∃ (k q : Nat), k ≤ a.size ∧ k ≤ b.size ∧ n = .int .i64 k ∧ wr = (w.alloc (.cells #[.int .i64 0, .int .i64 0, .string { data := #[] }] 36)).drewN q ∧ dI a b = k + cp (a.data.toList.drop k) (b.data.toList.drop k)) (fun n _ => a.size - (intOf n).toNat)
  case atStart => exact ⟨0, 0, Nat.zero_le _, Nat.zero_le _, rfl, rfl, by simp [dI]⟩
  case round =>
    obtain ⟨k, q, hk1, hk2, rfl, rfl, hcp⟩ := hrel
    have HC : Hid (dI a b = k + cp (a.data.toList.drop k) (b.data.toList.drop k)) := hcp
    clear hcp
    by_cases hn : k < a.size ∧ k < b.size ∧ a.data.toList[k]? = b.data.toList[k]?
    · obtain ⟨h1, h2, h3⟩ := hn
      have hd1 : decide ((k : Int) < a.size) = true := by simpa using h1
      have hd2 : decide ((k : Int) < b.size) = true := by simpa using h2
      rw [List.getElem?_eq_getElem (by simpa using h1), List.getElem?_eq_getElem (by simpa using h2)] at h3
      replace h3 : a[k] = b[k] := Option.some.inj h3
      have HH : Hid (cp (a.data.toList.drop k) (b.data.toList.drop k) = cp (a.data.toList.drop (k + 1)) (b.data.toList.drop (k + 1)) + 1) := cp_step h1 h2 h3
      go_wp2_with fail
      go_quiet (fail)
      go_wp2
      exact ⟨⟨k + 1, _, by omega, by omega, by go_num, rfl, by rw [HC.out, HH.out]; omega⟩, by simp [intOf]; omega⟩
    · have HD : Hid (dI a b = k) := by have := ends1_cp hn; have h := HC.out; show _ = _; omega
      have he := ends1 hn
      clear hn HC
      rcases he with ⟨h1, he⟩ | ⟨h1, h2, he1, he2⟩ | ⟨h1, h2, he1, he2, he3⟩
      all_goals
        go_wp2_with fail
        go_quiet (fail)
        go_wp2
        go_loopw [6] (fun n wr => ∃ (j q : Nat), k + j ≤ a.size ∧ k + j ≤ b.size ∧ n = .int .i64 j ∧ wr = (w.alloc (.cells #[.int .i64 0, .int .i64 0, .string { data := #[] }] 36)).drewN q ∧ dK a b = j + cp ((a.data.toList.drop k).reverse.drop j) ((b.data.toList.drop k).reverse.drop j)) (fun n _ => a.size - (intOf n).toNat)
        case atStart => exact ⟨0, _, by omega, by omega, rfl, World.drewN_drewN .., by simp [dK, HD.out]⟩
        case round =>
          obtain ⟨j, q', hj1, hj2, rfl, rfl, hcp⟩ := hrel
          have HC : Hid (dK a b = j + cp ((a.data.toList.drop k).reverse.drop j) ((b.data.toList.drop k).reverse.drop j)) := hcp
          clear hcp
          by_cases hn : k + j < a.size ∧ k + j < b.size ∧ a.data.toList[a.size - 1 - j]? = b.data.toList[b.size - 1 - j]?
          · obtain ⟨g1, g2, g3⟩ := hn
            have hd1 : decide ((j : Int) < a.size - k) = true := by rw [decide_eq_true_iff]; omega
            have hd2 : decide ((j : Int) < b.size - k) = true := by rw [decide_eq_true_iff]; omega
            rw [List.getElem?_eq_getElem (by simp; omega), List.getElem?_eq_getElem (by simp; omega)] at g3
            replace g3 : a[a.size - 1 - j]'(by omega) = b[b.size - 1 - j]'(by omega) := Option.some.inj g3
            have i1 := index_back a j (by omega)
            have i2 := index_back b j (by omega)
            have HH : Hid (cp ((a.data.toList.drop k).reverse.drop j) ((b.data.toList.drop k).reverse.drop j) = cp ((a.data.toList.drop k).reverse.drop (j + 1)) ((b.data.toList.drop k).reverse.drop (j + 1)) + 1) := kp_step g1 g2 g3
            go_wp2_with fail
            go_quiet (fail)
            go_wp2
            exact ⟨⟨j + 1, _, by omega, by omega, by go_num, rfl, by rw [HC.out, HH.out]; omega⟩, by simp [intOf]; omega⟩
          · have HK : Hid (dK a b = j) := by have := ends2_cp hn; have h := HC.out; show _ = _; omega
            have he := ends2 hn
            clear hn HC
            rcases he with ⟨g1, hg1⟩ | ⟨g1, g2, hg1, hg2⟩ | ⟨g1, g2, hg1, hg2, i1, i2, hg3⟩
            all_goals try (exfalso; omega)
            all_goals
              go_wp2_with fail
              go_quiet (fail)
              go_wp2
              refine bodyPost_ret (v := .agg #[.int .i64 k, .int .i64 ((a.size : Int) - j - k), .string (b.extract k (b.size - j))]) (by simp [results, Try.results25, go_sem]) rfl ⟨?_, ?_⟩
              · unfold diffV; rw [HD.out, HK.out, show ((a.size : Int) - j - k) = ((a.size - k - j : Nat) : Int) from by omega]
              · exact (((below_drewN ((Below.refl _ _).alloc (Nat.le_refl _) _) _).setCell (p := ⟨w.heap.size, 0, none⟩) (Nat.le_refl _) _).setCell (p := ⟨w.heap.size, 1, none⟩) (Nat.le_refl _) _).setCell (p := ⟨w.heap.size, 2, none⟩) (Nat.le_refl _) _
end Go.Proofs.Ytneailhanohdhaa
