/- The law TextApart, walked: two edits that do not touch do the same in either order, the second one moved by the first. -/
import Derived.Test.YtneailhanohdhaaAlls
namespace Go.Proofs.Ytneailhanohdhaa
open Go.RowKit

theorem allN_two (s : ByteArray) (e1 e2 : Ed) : allN s s [e1, e2] = if fitN s.size e1.a e1.o e1.t.size = 0 then (if fitN (appB s e1.t e1.a e1.o).size e2.a e2.o e2.t.size = 0 then (appB (appB s e1.t e1.a e1.o) e2.t e2.a e2.o, 0) else (s, fitN (appB s e1.t e1.a e1.o).size e2.a e2.o e2.t.size)) else (s, fitN s.size e1.a e1.o e1.t.size) := by
  simp only [allN]

/-- Either order makes one text, where both can be made. -/
theorem apart_eq {s ta tb : ByteArray} {a o b q : Int} (hf : fitN s.size a o ta.size = 0) (hg : fitN s.size b q tb.size = 0) (hab : a + o ≤ b)
    (h1 : fitN (appB s ta a o).size (b - o + ta.size) q tb.size = 0) (h2 : fitN (appB s tb b q).size a o ta.size = 0) :
    appB (appB s ta a o) tb (b - o + ta.size) q = appB (appB s tb b q) ta a o := by
  have za := fit_zero hf
  have zb := fit_zero hg
  apply ba_ext
  rw [appB_list h1, appB_list h2, appB_list hf, appB_list hg]
  obtain ⟨A, rfl⟩ := Int.eq_ofNat_of_zero_le za.1
  obtain ⟨O, rfl⟩ := Int.eq_ofNat_of_zero_le za.2.1
  obtain ⟨B, rfl⟩ := Int.eq_ofNat_of_zero_le zb.1
  obtain ⟨Q, rfl⟩ := Int.eq_ofNat_of_zero_le zb.2.1
  have e1 : ((B : Int) - O + (ta.size : Nat)).toNat = A + ta.size + (B - A - O) := by omega
  have e2 : ((B : Int) - O + (ta.size : Nat) + Q).toNat = A + ta.size + (B + Q - A - O) := by omega
  have e3 : ((A : Int) + O).toNat = A + O := by omega
  have e4 : ((B : Int) + Q).toNat = B + Q := by omega
  rw [e1, e2, e3, e4, Int.toNat_natCast, Int.toNat_natCast]
  generalize hS : s.data.toList = S at *
  have hSl : S.length = s.size := by rw [← hS]; simp
  have hta : ta.data.toList.length = ta.size := by simp
  have l1 : (S.take A ++ ta.data.toList).length = A + ta.size := by simp; omega
  have l2 : (S.take B).length = B := by simp; omega
  have t1 : (S.take A ++ ta.data.toList ++ S.drop (A + O)).take (A + ta.size + (B - A - O)) = S.take A ++ ta.data.toList ++ (S.drop (A + O)).take (B - A - O) := by
    rw [List.take_append, l1, List.take_of_length_le (by omega)]
    congr 2
    omega
  have t2 : (S.take A ++ ta.data.toList ++ S.drop (A + O)).drop (A + ta.size + (B + Q - A - O)) = S.drop (B + Q) := by
    rw [List.drop_append, l1, List.drop_of_length_le (by omega), List.nil_append, List.drop_drop]
    congr 1
    omega
  have t3 : (S.take B ++ tb.data.toList ++ S.drop (B + Q)).take A = S.take A := by
    rw [List.append_assoc, List.take_append_of_le_length (by omega), List.take_take]
    congr 1
    omega
  have t4 : (S.take B ++ tb.data.toList ++ S.drop (B + Q)).drop (A + O) = (S.drop (A + O)).take (B - A - O) ++ tb.data.toList ++ S.drop (B + Q) := by
    rw [List.append_assoc, List.drop_append_of_le_length (by omega), List.drop_take, ← List.append_assoc]
    congr 3
    omega
  rw [t1, t2, t3, t4]
  simp [List.append_assoc]

theorem edCells_new (W : World) (e1 e2 : Ed) : EdCells W.heap.size 0 [e1, e2] (W.alloc (.cells #[.int .i64 e1.a, .int .i64 e1.o, .string e1.t, .int .i64 e2.a, .int .i64 e2.o, .string e2.t] 36)) := fun i e he => by
  match i, he with
  | 0, he =>
    obtain rfl : e1 = e := by simpa using he
    exact ⟨by simp, by simp, by simp, by simp⟩
  | 1, he =>
    obtain rfl : e2 = e := by simpa using he
    exact ⟨by simp, by simp, by simp, by simp⟩

set_option maxHeartbeats 1000000 in
theorem apart_walk_no (s ta tb : ByteArray) (a o b q f g : Int) (w : World)
    (c1 : Hid (∀ w, Calls Try.prog 21 #[.string s, .agg #[.int .i64 a, .int .i64 o, .string ta]] w fun e w' => e = .returned (.int .i64 f) ∧ Below w.heap.size w w'))
    (c2 : Hid (∀ w, Calls Try.prog 21 #[.string s, .agg #[.int .i64 b, .int .i64 q, .string tb]] w fun e w' => e = .returned (.int .i64 g) ∧ Below w.heap.size w w'))
    (h : ((f != 0) = true) ∨ ((f != 0) = false ∧ (g != 0) = true) ∨ ((f != 0) = false ∧ (g != 0) = false ∧ 0 ≤ a ∧ 0 ≤ o ∧ a + o ≤ 140737488351232 ∧ b < a + o)) :
    Calls Try.prog 8 #[.string s, .agg #[.int .i64 a, .int .i64 o, .string ta], .agg #[.int .i64 b, .int .i64 q, .string tb]] w fun e w' => e = .returned (.bool true) ∧ Below w.heap.size w w' := by
  go_enter Try.func8, Try.ntmps8
  go_wp2_with fail
  refine (c1.out _).mono ?_
  rintro e w1 ⟨rfl, hb⟩
  have k1 : Has3 w.heap.size (.int .i64 a) (.int .i64 o) (.string ta) w1 := ((Has3.new w _ _ _ _).alloc _).next hb
  have k2 : Has3 (w.heap.size + 1) (.int .i64 b) (.int .i64 q) (.string tb) w1 := by
    have := Has3.new (w.alloc (.cells #[.int .i64 a, .int .i64 o, .string ta] 36)) (.int .i64 b) (.int .i64 q) (.string tb) 36
    rw [World.size_alloc] at this
    exact this.next hb
  have B1 : Below w.heap.size w w1 := below_then (((Below.refl w.heap.size w).alloc (Nat.le_refl _) _).alloc (by simp) _) hb (by simp; omega)
  clear hb
  rcases h with hf | ⟨hf, hg⟩ | ⟨hf, hg, h1, h2, h3, h4⟩
  · go_wp2_with fail
    refine (awake_any _).mono ?_
    rintro e w6 ⟨rfl, hb⟩
    replace B1 := below_then B1 hb B1.size
    go_wp2
    go_ret
    exact ⟨rfl, B1⟩
  · obtain ⟨l2, b0, b1, b2⟩ := id k2
    go_wp2_with fail
    refine (c2.out _).mono ?_
    rintro e w2 ⟨rfl, hb⟩
    replace B1 := below_then B1 hb B1.size
    clear hb l2 b0 b1 b2
    go_wp2_with fail
    refine (awake_any _).mono ?_
    rintro e w6 ⟨rfl, hb⟩
    replace B1 := below_then B1 hb B1.size
    go_wp2
    go_ret
    exact ⟨rfl, B1⟩
  · obtain ⟨l2, b0, b1, b2⟩ := id k2
    go_wp2_with fail
    refine (c2.out _).mono ?_
    rintro e w2 ⟨rfl, hb⟩
    replace B1 := below_then B1 hb B1.size
    replace k1 := k1.next hb
    replace k2 := k2.next hb
    clear hb l2 b0 b1 b2
    obtain ⟨l1, a0, a1, a2⟩ := id k1
    obtain ⟨l2, b0, b1, b2⟩ := id k2
    go_wp2_with fail
    refine (awake_any _).mono ?_
    rintro e w6 ⟨rfl, hb⟩
    replace B1 := below_then B1 hb B1.size
    go_wp2
    go_ret
    exact ⟨rfl, B1⟩

set_option maxHeartbeats 1000000 in
theorem apart_walk_yes (s ta tb : ByteArray) (a o b q k : Int) (x y : ByteArray) (f g : Int) (w : World) (h1 : 0 ≤ a) (h2 : 0 ≤ o) (h3 : a + o ≤ 140737488351232) (h4 : ¬ b < a + o)
    (c1 : Hid (∀ w, Calls Try.prog 21 #[.string s, .agg #[.int .i64 a, .int .i64 o, .string ta]] w fun e w' => e = .returned (.int .i64 0) ∧ Below w.heap.size w w'))
    (c2 : Hid (∀ w, Calls Try.prog 21 #[.string s, .agg #[.int .i64 b, .int .i64 q, .string tb]] w fun e w' => e = .returned (.int .i64 0) ∧ Below w.heap.size w w'))
    (c3 : Hid (∀ w, Calls Try.prog 18 #[.agg #[.int .i64 a, .int .i64 o, .string ta], .int .i64 b] w fun e w' => e = .returned (.tuple #[.int .i64 k, .bool true]) ∧ Below w.heap.size w w'))
    (c4 : Hid (∀ w B, EdCells B 0 [⟨a, o, ta⟩, ⟨k, q, tb⟩] w → Calls Try.prog 22 #[.string s, .slice (some ⟨B, 0, none⟩) 2 2] w fun e w' => e = .returned (.tuple #[.string x, .int .i64 f]) ∧ Below w.heap.size w w'))
    (c5 : Hid (∀ w B, EdCells B 0 [⟨b, q, tb⟩, ⟨a, o, ta⟩] w → Calls Try.prog 22 #[.string s, .slice (some ⟨B, 0, none⟩) 2 2] w fun e w' => e = .returned (.tuple #[.string y, .int .i64 g]) ∧ Below w.heap.size w w'))
    (hxy : Hid (f = 0 → g = 0 → x = y)) :
    Calls Try.prog 8 #[.string s, .agg #[.int .i64 a, .int .i64 o, .string ta], .agg #[.int .i64 b, .int .i64 q, .string tb]] w fun e w' => e = .returned (.bool true) ∧ Below w.heap.size w w' := by
  go_enter Try.func8, Try.ntmps8
  go_wp2_with fail
  refine (c1.out _).mono ?_
  rintro e w1 ⟨rfl, hb⟩
  have k1 : Has3 w.heap.size (.int .i64 a) (.int .i64 o) (.string ta) w1 := ((Has3.new w _ _ _ _).alloc _).next hb
  have k2 : Has3 (w.heap.size + 1) (.int .i64 b) (.int .i64 q) (.string tb) w1 := by
    have := Has3.new (w.alloc (.cells #[.int .i64 a, .int .i64 o, .string ta] 36)) (.int .i64 b) (.int .i64 q) (.string tb) 36
    rw [World.size_alloc] at this
    exact this.next hb
  have B1 : Below w.heap.size w w1 := below_then (((Below.refl w.heap.size w).alloc (Nat.le_refl _) _).alloc (by simp) _) hb (by simp; omega)
  clear hb
  obtain ⟨l2, b0, b1, b2⟩ := id k2
  go_wp2_with fail
  refine (c2.out _).mono ?_
  rintro e w2 ⟨rfl, hb⟩
  replace B1 := below_then B1 hb B1.size
  replace k1 := k1.next hb
  replace k2 := k2.next hb
  clear hb l2 b0 b1 b2
  obtain ⟨l1, a0, a1, a2⟩ := id k1
  obtain ⟨l2, b0, b1, b2⟩ := id k2
  go_wp2_with fail
  refine (c3.out _).mono ?_
  rintro e w3 ⟨rfl, hb⟩
  replace B1 := below_then B1 hb B1.size
  replace k1 := k1.next hb
  replace k2 := k2.next hb
  clear hb l1 a0 a1 a2 l2 b0 b1 b2
  obtain ⟨l1, a0, a1, a2⟩ := id k1
  obtain ⟨l2, b0, b1, b2⟩ := id k2
  go_wp2_with fail
  refine (c4.out _ _ (edCells_new w3 ⟨a, o, ta⟩ ⟨k, q, tb⟩)).mono ?_
  rintro e w4 ⟨rfl, hb⟩
  replace B1 := below_then (B1.alloc B1.size _) hb (by simp; omega)
  replace k1 := (k1.alloc _).next hb
  replace k2 := (k2.alloc _).next hb
  clear hb l1 a0 a1 a2 l2 b0 b1 b2
  obtain ⟨l1, a0, a1, a2⟩ := id k1
  obtain ⟨l2, b0, b1, b2⟩ := id k2
  go_wp2_with fail
  refine (c5.out _ _ (edCells_new w4 ⟨b, q, tb⟩ ⟨a, o, ta⟩)).mono ?_
  rintro e w5 ⟨rfl, hb⟩
  replace B1 := below_then (B1.alloc B1.size _) hb (by simp; omega)
  clear hb l1 a0 a1 a2 l2 b0 b1 b2 k1 k2 c1 c2 c3 c4 c5
  have hcase : ((f != 0) = true) ∨ ((f != 0) = false ∧ (g != 0) = true) ∨ ((f != 0) = false ∧ (g != 0) = false ∧ (x.toList == y.toList) = true) := by
    by_cases hf : f = 0
    · by_cases hg : g = 0
      · exact .inr (.inr ⟨by simpa using hf, by simpa using hg, by rw [hxy.out hf hg]; simp⟩)
      · exact .inr (.inl ⟨by simpa using hf, by simpa using hg⟩)
    · exact .inl (by simpa using hf)
  rcases hcase with hf | ⟨hf, hg⟩ | ⟨hf, hg, hh⟩
  all_goals
    go_wp2_with fail
    refine (awake_any _).mono ?_
    rintro e w6 ⟨rfl, hb⟩
    replace B1 := below_then B1 hb B1.size
    go_wp2
    go_ret
    exact ⟨rfl, B1⟩
end Go.Proofs.Ytneailhanohdhaa
