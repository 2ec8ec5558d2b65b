/- The law TextBack, walked: what an edit has done the edit that takes it back undoes; the least edit between two texts makes one the other. -/
import Derived.Test.YtneailhanohdhaaBoxes
namespace Go.Proofs.Ytneailhanohdhaa
open Go.RowKit

theorem app_list (a b : ByteArray) : (a ++ b).data.toList = a.data.toList ++ b.data.toList := by simp [ByteArray.data_append]
theorem appB_list {s t : ByteArray} {a o : Int} (h : fitN s.size a o t.size = 0) : (appB s t a o).data.toList = s.data.toList.take a.toNat ++ t.data.toList ++ s.data.toList.drop (a + o).toNat := by
  unfold appB
  rw [if_pos h, app_list, app_list, ex_tail, ex_list]
  simp
theorem appB_size {s t : ByteArray} {a o : Int} (h : fitN s.size a o t.size = 0) : ((appB s t a o).size : Int) = s.size - o + t.size := by
  have hl : (appB s t a o).size = (appB s t a o).data.toList.length := by simp
  have hf := fit_zero h
  rw [hl, appB_list h]
  simp
  omega

theorem fit_mk {n a o tl : Int} (h1 : 0 ≤ a) (h2 : 0 ≤ o) (h3 : o ≤ n - a) (h4 : tl ≤ 65536 - (n - o)) : fitN n a o tl = 0 := by
  unfold fitN
  rw [if_neg (by omega), if_neg (by omega)]

/-- The edit that takes one back can be made, and makes the text that was. -/
theorem back_fit {s t : ByteArray} {a o : Int} (h : fitN s.size a o t.size = 0) (hs : s.size ≤ 65536) : fitN (appB s t a o).size a t.size (s.extract a.toNat (a + o).toNat).size = 0 := by
  have hf := fit_zero h
  have hz := appB_size h
  have e : ((s.extract a.toNat (a + o).toNat).size : Int) = o := by simp; omega
  rw [hz, e]
  exact fit_mk hf.1 (by omega) (by omega) (by omega)
theorem back_app {s t : ByteArray} {a o : Int} (h : fitN s.size a o t.size = 0) (hs : s.size ≤ 65536) : appB (appB s t a o) (s.extract a.toNat (a + o).toNat) a t.size = s := by
  have hf := fit_zero h
  apply ba_ext
  rw [appB_list (back_fit h hs), appB_list h, ex_list]
  obtain ⟨A, rfl⟩ := Int.eq_ofNat_of_zero_le hf.1
  obtain ⟨O, rfl⟩ := Int.eq_ofNat_of_zero_le hf.2.1
  have e1 : ((A : Int) + (O : Int)).toNat = A + O := by omega
  have e2 : ((A : Int) + ((t.size : Nat) : Int)).toNat = A + t.size := by omega
  have e4 : (s.data.toList.take A).length = A := by simp; omega
  have e5 : (s.data.toList.take A ++ t.data.toList).length = A + t.size := by simp; omega
  have g1 : (s.data.toList.take A ++ t.data.toList ++ s.data.toList.drop (A + O)).take A = s.data.toList.take A := by rw [List.append_assoc]; exact List.take_left' e4
  have g2 : (s.data.toList.take A ++ t.data.toList ++ s.data.toList.drop (A + O)).drop (A + t.size) = s.data.toList.drop (A + O) := List.drop_left' e5
  rw [e1, e2, Int.toNat_natCast, g1, g2]
  have e6 : s.data.toList.drop (A + O) = (s.data.toList.drop A).drop O := by rw [List.drop_drop]
  have e7 : A + O - A = O := by omega
  rw [e6, e7, List.append_assoc, List.take_append_drop, List.take_append_drop]

theorem cp_take : ∀ (x y : List UInt8), x.take (cp x y) = y.take (cp x y)
  | [], _ => by simp [cp]
  | _ :: _, [] => by simp [cp]
  | a :: x, b :: y => by
    by_cases e : a = b
    · simp [cp, e, cp_take x y]
    · simp [cp, e]

theorem end_eq (x y : List UInt8) (i k : Nat) (hx : i + k ≤ x.length) (hy : i + k ≤ y.length) (h : (x.drop i).reverse.take k = (y.drop i).reverse.take k) : x.drop (x.length - k) = y.drop (y.length - k) := by
  rw [List.take_reverse, List.take_reverse] at h
  have h2 := List.reverse_inj.1 h
  rw [List.drop_drop, List.drop_drop] at h2
  have e1 : i + ((x.drop i).length - k) = x.length - k := by simp; omega
  have e2 : i + ((y.drop i).length - k) = y.length - k := by simp; omega
  rwa [e1, e2] at h2

theorem diff_fit (s b : ByteArray) (hb : b.size ≤ 65536) : fitN s.size (dI s b : Nat) ((s.size - dI s b - dK s b : Nat) : Int) (b.extract (dI s b) (b.size - dK s b)).size = 0 := by
  have h1 := dI_le s b
  have h2 := dK_le s b
  have e : (b.extract (dI s b) (b.size - dK s b)).size = b.size - dK s b - dI s b := by simp
  rw [e]
  exact fit_mk (by omega) (by omega) (by omega) (by omega)
theorem diff_app (s b : ByteArray) (hb : b.size ≤ 65536) : appB s (b.extract (dI s b) (b.size - dK s b)) (dI s b : Nat) ((s.size - dI s b - dK s b : Nat) : Int) = b := by
  have h1 := dI_le s b
  have h2 := dK_le s b
  apply ba_ext
  rw [appB_list (diff_fit s b hb), ex_list]
  have t1 : s.data.toList.take (dI s b) = b.data.toList.take (dI s b) := cp_take s.data.toList b.data.toList
  have t2 : s.data.toList.drop (s.data.toList.length - dK s b) = b.data.toList.drop (b.data.toList.length - dK s b) :=
    end_eq s.data.toList b.data.toList (dI s b) (dK s b) (by simpa using h2.1) (by simpa using h2.2) (cp_take _ _)
  have e1 : (((dI s b : Nat) : Int) + ((s.size - dI s b - dK s b : Nat) : Int)).toNat = s.data.toList.length - dK s b := by simp; omega
  rw [e1, Int.toNat_natCast, t1, t2]
  have e2 : b.data.toList.length - dK s b = (b.size - dK s b - dI s b) + dI s b := by simp; omega
  have e3 : b.data.toList.drop (b.data.toList.length - dK s b) = (b.data.toList.drop (dI s b)).drop (b.size - dK s b - dI s b) := by
    rw [List.drop_drop, e2]; congr 1; omega
  rw [e3, List.append_assoc, List.take_append_drop, List.take_append_drop]

set_option maxHeartbeats 400000 in
theorem back_long (s t b : ByteArray) (a o : Int) (w : World) (h : 65536 < s.size ∨ 65536 < b.size) :
    Calls Try.prog 6 #[.string s, .agg #[.int .i64 a, .int .i64 o, .string t], .string b] w fun e w' => e = .returned (.bool true) ∧ Below w.heap.size w w' := by
  have hc : (65536 < s.size ∧ decide ((65536 : Int) < s.size) = true) ∨ (¬ 65536 < s.size ∧ 65536 < b.size ∧ decide ((65536 : Int) < s.size) = false) := by
    by_cases h1 : 65536 < s.size
    · exact .inl ⟨h1, by rw [decide_eq_true_iff]; omega⟩
    · exact .inr ⟨h1, by omega, by rw [decide_eq_false_iff_not]; omega⟩
  clear h
  rcases hc with ⟨h1, hd⟩ | ⟨h1, h2, hd⟩
  all_goals
    go_enter Try.func6, Try.ntmps6
    go_wp2_with fail
    refine (awake_any _).mono ?_
    rintro e w1 ⟨rfl, hb⟩
    go_wp2
    go_ret
    exact ⟨rfl, below_then ((Below.refl _ _).alloc (Nat.le_refl _) _) hb (by simp)⟩

/-- What the calls of the law hand back, in every world. -/
structure Said6 (s t b : ByteArray) (a o f : Int) (r ub : ByteArray) (u0 u1 : Int) (d0 d1 : Int) (db : ByteArray) : Prop where
  c14 : ∀ w, Calls Try.prog 14 #[.string s, .agg #[.int .i64 a, .int .i64 o, .string t]] w fun e w' => e = .returned (.tuple #[.string r, .int .i64 f]) ∧ Below w.heap.size w w'
  c16 : ∀ w, Calls Try.prog 16 #[.string s, .agg #[.int .i64 a, .int .i64 o, .string t]] w fun e w' => e = .returned (.tuple #[.agg #[.int .i64 u0, .int .i64 u1, .string ub], .int .i64 f]) ∧ Below w.heap.size w w'
  cb : f = 0 → ∀ w, Calls Try.prog 14 #[.string r, .agg #[.int .i64 u0, .int .i64 u1, .string ub]] w fun e w' => e = .returned (.tuple #[.string s, .int .i64 0]) ∧ Below w.heap.size w w'
  c24 : ∀ w, Calls Try.prog 24 #[.string s, .string b] w fun e w' => e = .returned (.agg #[.int .i64 d0, .int .i64 d1, .string db]) ∧ Below w.heap.size w w'
  cd : ∀ w, Calls Try.prog 14 #[.string s, .agg #[.int .i64 d0, .int .i64 d1, .string db]] w fun e w' => e = .returned (.tuple #[.string b, .int .i64 0]) ∧ Below w.heap.size w w'

set_option maxHeartbeats 1000000 in
theorem back_walk (s t b : ByteArray) (a o f : Int) (r ub : ByteArray) (u0 u1 : Int) (d0 d1 : Int) (db : ByteArray) (w : World) (h : Said6 s t b a o f r ub u0 u1 d0 d1 db) (hs : ¬ 65536 < s.size) (hb : ¬ 65536 < b.size) :
    Calls Try.prog 6 #[.string s, .agg #[.int .i64 a, .int .i64 o, .string t], .string b] w fun e w' => e = .returned (.bool true) ∧ Below w.heap.size w w' := by
  have hd1 : decide ((65536 : Int) < s.size) = false := by rw [decide_eq_false_iff_not]; omega
  have hd2 : decide ((65536 : Int) < b.size) = false := by rw [decide_eq_false_iff_not]; omega
  have hcase : (f = 0 ∧ (f == 0) = true) ∨ (¬ f = 0 ∧ (f == 0) = false) := by
    by_cases e : f = 0
    · exact .inl ⟨e, by simpa using e⟩
    · exact .inr ⟨e, by simpa using e⟩
  go_enter Try.func6, Try.ntmps6
  go_wp2_with fail
  refine (h.c14 _).mono ?_
  rintro e w1 ⟨rfl, hb⟩
  have k1 : Has3 w.heap.size (.int .i64 a) (.int .i64 o) (.string t) w1 := (Has3.new w _ _ _ _).next hb
  have B1 : Below w.heap.size w w1 := below_then ((Below.refl w.heap.size w).alloc (Nat.le_refl _) _) hb (by simp)
  clear hb
  obtain ⟨l1, a0, a1, a2⟩ := id k1
  go_wp2_with fail
  refine (h.c16 _).mono ?_
  rintro e w2 ⟨rfl, hb⟩
  replace B1 := below_then B1 hb B1.size
  clear hb l1 a0 a1 a2 k1
  rcases hcase with ⟨rfl, hf⟩ | ⟨hn, hf⟩
  · go_wp2_with fail
    refine (h.cb rfl _).mono ?_
    rintro e w3 ⟨rfl, hb⟩
    replace B1 := below_then (B1.alloc B1.size _) hb (by have := B1.size; simp; omega)
    clear hb
    go_wp2_with fail
    refine (h.c24 _).mono ?_
    rintro e w4 ⟨rfl, hb⟩
    replace B1 := below_then B1 hb B1.size
    clear hb
    go_wp2_with fail
    refine (h.cd _).mono ?_
    rintro e w5 ⟨rfl, hb⟩
    replace B1 := below_then B1 hb B1.size
    clear hb
    go_wp2_with fail
    refine (awake_any _).mono ?_
    rintro e w6 ⟨rfl, hb⟩
    replace B1 := below_then B1 hb B1.size
    go_wp2
    go_ret
    exact ⟨rfl, B1⟩
  · go_wp2_with fail
    refine (h.c24 _).mono ?_
    rintro e w4 ⟨rfl, hb⟩
    replace B1 := below_then (B1.alloc B1.size _) hb (by have := B1.size; simp; omega)
    clear hb
    go_wp2_with fail
    refine (h.cd _).mono ?_
    rintro e w5 ⟨rfl, hb⟩
    replace B1 := below_then B1 hb B1.size
    clear hb
    go_wp2_with fail
    refine (awake_any _).mono ?_
    rintro e w6 ⟨rfl, hb⟩
    replace B1 := below_then B1 hb B1.size
    go_wp2
    go_ret
    exact ⟨rfl, B1⟩
end Go.Proofs.Ytneailhanohdhaa
