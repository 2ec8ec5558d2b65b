/- The walk of the law SpanBack: for every slice of ranges, every text and every number it returns true. -/
import Derived.Test.YtdkgeeimhjffdaaBackMath
import Derived.Test.YtdkgeeimhjffdaaAwake
import Derived.Deep.RegionHeld3
import Derived.Deep.DrawnRows
namespace Go.Proofs.Ytdkgeeimhjffdaa
open Go.RowKit Go.Shelf
attribute [local go_sem ↓] Go.wp_at_zero Go.wp_at_succ

/-- A region that draws its order and holds calls that only make memory of their own. -/
theorem wp_region_quiet_below {P : Program} {id : Nat} {Q : Exit → Act → World → Prop} {a : Act} {w : World} {l : List Oper} (hm : P.follows .mixedOrders = true) (hB : Region.lexB .any l.toArray = true)
    (h : wpQuiet P l.toArray (fun w' => Below w.heap.size w w') (fun a' => ∀ w', Below w.heap.size w w' → Q .normal a' w') l a) : (Code.region id l.toArray true).wp P Q a w :=
  wp_region_quiet (C := fun w' => Below w.heap.size w w') hm hB ((Below.refl _ w).drew) (by simpa using h)

set_option maxHeartbeats 1000000 in
theorem back_big (ao : Option Addr) (n cap : Nat) (s : ByteArray) (x : Int) (w : World) (hn : ¬ n ≤ 100) :
    Calls Try.prog 6 #[.slice ao n cap, .string s, .int .i64 x] w fun e w' => e = .returned (.bool true) ∧ Below w.heap.size w w' := by
  have hs := small_any ao n cap w
  rw [decide_eq_false hn] at hs
  go_enter Try.func6, Try.ntmps6
  go_wp2_with fail
  refine hs.mono ?_
  rintro e w1 ⟨rfl, rfl⟩
  go_wp2_with fail
  refine (awake_any _).mono ?_
  rintro e w2 ⟨rfl, hb⟩
  go_wp2
  go_ret
  exact ⟨rfl, hb⟩

set_option maxHeartbeats 1000000 in
theorem back_unfit (es : List Rg) (ao : Option Addr) (cap : Nat) (s : ByteArray) (x : Int) (w : World) (hc : RgAt es ao w) (ho : ∀ r ∈ es, RgOk r) (hn : es.length ≤ 100) (hf : fitB (-1) es = false) :
    Calls Try.prog 6 #[.slice ao es.length cap, .string s, .int .i64 x] w fun e w' => e = .returned (.bool true) ∧ Below w.heap.size w w' := by
  have hs := small_any ao es.length cap w
  rw [decide_eq_true hn] at hs
  have hr := rfit_any es ao cap w hc ho (by omega)
  rw [hf] at hr
  clear hc ho hf
  go_enter Try.func6, Try.ntmps6
  go_wp2_with fail
  refine hs.mono ?_
  rintro e w1 ⟨rfl, rfl⟩
  go_wp2_with fail
  refine hr.mono ?_
  rintro e w2 ⟨rfl, B1⟩
  go_wp2_with fail
  refine (awake_any _).mono ?_
  rintro e w3 ⟨rfl, hb⟩
  replace B1 := below_then B1 hb B1.size
  go_wp2
  go_ret
  exact ⟨rfl, B1⟩

set_option maxRecDepth 100000 in
set_option maxHeartbeats 4000000 in
theorem back_fit (es : List Rg) (ao : Option Addr) (cap : Nat) (s : ByteArray) (x : Int) (w : World) (hc : RgAt es ao w) (ho : ∀ r ∈ es, RgOk r) (hn : es.length ≤ 100) (hf : Fit es) (hss : s.size ≤ 140737488351232) (hx1 : x ≤ 9223372036854775807) :
    Calls Try.prog 6 #[.slice ao es.length cap, .string s, .int .i64 x] w fun e w' => e = .returned (.bool true) ∧ Below w.heap.size w w' := by
  have hs := small_any ao es.length cap w
  rw [decide_eq_true hn] at hs
  have hr := rfit_any es ao cap w hc ho (by omega)
  rw [(fitB_fit es).2 hf] at hr
  have htx := fun W (h : Below w.heap.size w W) => text_any s es ao cap W hss (hc.next h) hf (by omega)
  have hou := fun W (h : Below w.heap.size w W) => outer_any es ao cap x W (hc.next h) hf ho (by omega) hx1
  have hsi := fun W (h : Below w.heap.size w W) => size_any es ao cap W (hc.next h) hf ho (by omega)
  have hmax := sizeN_max hf ho
  have hnn := sizeN_nonneg hf
  obtain ⟨t, ht⟩ : ∃ t : ByteArray, ⟨(textN s.data.toList es).toArray⟩ = t := ⟨_, rfl⟩
  rw [ht] at htx
  have HT : Hid ((⟨(textN s.data.toList es).toArray⟩ : ByteArray) = t) := ht
  clear ht
  obtain ⟨k, ok, hk⟩ : ∃ k ok, outN x es = (k, ok) := ⟨_, _, rfl⟩
  rw [hk] at hou
  cases ok with
  | false =>
    have hcase : x < 0 ∨ (¬ x < 0 ∧ sizeN es ≤ x) := by
      rw [outN] at hk
      by_cases h : x < 0
      · exact .inl h
      · rw [if_neg h] at hk
        rcases out_false hf hk with h1 | rfl
        · exact .inr ⟨h, h1⟩
        · exact .inr ⟨h, by simp [sizeN]; omega⟩
    generalize sizeN es = z at *
    clear hk hc ho hf
    rcases hcase with h1 | ⟨h1, h2⟩
    · go_enter Try.func6, Try.ntmps6
      go_wp2_with fail
      refine hs.mono ?_
      rintro e w1 ⟨rfl, rfl⟩
      go_wp2_with fail
      refine hr.mono ?_
      rintro e w2 ⟨rfl, B1⟩
      go_wp2_with fail
      refine (htx _ B1).mono ?_
      rintro e w3 ⟨rfl, hb⟩
      replace B1 := below_then B1 hb B1.size
      clear hb htx
      go_wp2_with fail
      refine (hou _ B1).mono ?_
      rintro e w4 ⟨rfl, hb⟩
      replace B1 := below_then B1 hb B1.size
      clear hb hou
      go_wp2_with fail
      refine (awake_any _).mono ?_
      rintro e w5 ⟨rfl, hb⟩
      replace B1 := below_then B1 hb B1.size
      go_wp2
      go_ret
      exact ⟨rfl, B1⟩
    · go_enter Try.func6, Try.ntmps6
      go_wp2_with fail
      refine hs.mono ?_
      rintro e w1 ⟨rfl, rfl⟩
      go_wp2_with fail
      refine hr.mono ?_
      rintro e w2 ⟨rfl, B1⟩
      go_wp2_with fail
      refine (htx _ B1).mono ?_
      rintro e w3 ⟨rfl, hb⟩
      replace B1 := below_then B1 hb B1.size
      clear hb htx
      go_wp2_with fail
      refine (hou _ B1).mono ?_
      rintro e w4 ⟨rfl, hb⟩
      replace B1 := below_then B1 hb B1.size
      clear hb hou
      go_wp2_with fail
      refine (hsi _ B1).mono ?_
      rintro e w5 ⟨rfl, hb⟩
      replace B1 := below_then B1 hb B1.size
      clear hb hsi
      go_wp2_with fail
      refine (awake_any _).mono ?_
      rintro e w6 ⟨rfl, hb⟩
      replace B1 := below_then B1 hb B1.size
      go_wp2
      go_ret
      exact ⟨rfl, B1⟩
  | true =>
    have hx0 : ¬ x < 0 := fun h => by rw [outN, if_pos h] at hk; cases hk
    rw [outN, if_neg hx0] at hk
    have hxl := out_lt hf hk
    obtain ⟨a, rfl⟩ := Int.eq_ofNat_of_zero_le (show 0 ≤ x by omega)
    obtain ⟨hin, hha⟩ := out_in (T := 0) hf (by omega) hk
    rw [Int.zero_add] at hin
    obtain ⟨r, hr2, hk0, _, hk2⟩ := hasL_iff.1 hha
    obtain ⟨q, rfl⟩ := Int.eq_ofNat_of_zero_le hk0
    have hkm := (ho r hr2).2.2.2
    have hinn := fun W (h : Below w.heap.size w W) => inner_any es ao cap q W (hc.next h) hf ho (by omega)
    rw [hin] at hinn
    have hhas := fun W (h : Below w.heap.size w W) => has_any es ao cap q W (hc.next h) (by omega)
    rw [hha] at hhas
    have hou2 := fun W (h : Below w.heap.size w W) => outer_any es ao cap ((a : Int) + 1) W (hc.next h) hf ho (by omega) (by omega)
    obtain ⟨k3, ok3, hk3⟩ : ∃ k3 ok3, outN ((a : Int) + 1) es = (k3, ok3) := ⟨_, _, rfl⟩
    rw [hk3] at hou2
    have hri : ok3 = false ∨ (ok3 = true ∧ (q : Int) < k3) := by
      cases ok3 with
      | false => exact .inl rfl
      | true =>
        rw [outN, if_neg (by omega)] at hk3
        exact .inr ⟨rfl, out_rise hf (by omega) hk hk3⟩
    have hab : ∀ (h1 : a < t.size) (h2 : q < s.size), t[a] = s[q] := fun h1 h2 => by
      have h3 := out_text (l := s.data.toList) hf hk h2
      have h4 : t.data.toList[a]? = s.data.toList[q]? := by rw [← h3, ← HT.out]
      have h5 : t.data.toList[a]? = some t[a] := by rw [List.getElem?_eq_getElem h1]; rfl
      have h6 : s.data.toList[q]? = some s[q] := by rw [List.getElem?_eq_getElem h2]; rfl
      rw [h5, h6] at h4
      exact Option.some.inj h4
    have HAB : Hid (∀ (h1 : a < t.size) (h2 : q < s.size), t[a] = s[q]) := hab
    have hqb : q ≤ 9223372036854775807 := by omega
    have hab2 : a + 1 ≤ 9223372036854775807 := by omega
    have htz : t.size ≤ 140737488351232 := by
      rw [← HT.out]
      have := textN_len (l := s.data.toList) hf
      have e : (⟨(textN s.data.toList es).toArray⟩ : ByteArray).size = (textN s.data.toList es).length := by simp [ByteArray.size]
      have e2 : s.data.toList.length = s.size := rfl
      omega
    clear hab hk hk3 hin hha hr2 hk2 hkm hk0 hc ho hf hxl hsi hmax hnn hx0 hx1
    go_enter Try.func6, Try.ntmps6
    go_wp2_with fail
    refine hs.mono ?_
    rintro e w1 ⟨rfl, rfl⟩
    go_wp2_with fail
    refine hr.mono ?_
    rintro e w2 ⟨rfl, B1⟩
    clear hs hr
    go_wp2_with fail
    refine (htx _ B1).mono ?_
    rintro e w3 ⟨rfl, hb⟩
    replace B1 := below_then B1 hb B1.size
    clear hb htx
    go_wp2_with fail
    refine (hou _ B1).mono ?_
    rintro e w4 ⟨rfl, hb⟩
    replace B1 := below_then B1 hb B1.size
    clear hb hou
    go_wp2_with fail
    refine (hinn _ B1).mono ?_
    rintro e w5 ⟨rfl, hb⟩
    replace B1 := below_then B1 hb B1.size
    clear hb hinn
    go_wp2_with fail
    refine (hhas _ B1).mono ?_
    rintro e w6 ⟨rfl, hb⟩
    replace B1 := below_then B1 hb B1.size
    clear hb hhas
    go_wp2_with fail
    refine (hou2 _ B1).mono ?_
    rintro e w7 ⟨rfl, hb⟩
    replace B1 := below_then B1 hb B1.size
    clear hb hou2
    have hgo : ok3 = false ∨ (ok3 = true ∧ ¬ k3 ≤ (q : Int) ∧ decide (k3 ≤ (q : Int)) = false) := by
      rcases hri with h | ⟨h, hlt⟩
      · exact .inl h
      · exact .inr ⟨h, by omega, decide_eq_false (by omega)⟩
    clear hri
    have hca : (t.size ≤ a ∧ decide ((t.size : Int) ≤ (a : Int)) = true) ∨ (a < t.size ∧ s.size ≤ q ∧ decide ((t.size : Int) ≤ (a : Int)) = false ∧ decide ((s.size : Int) ≤ (q : Int)) = true) ∨ (a < t.size ∧ q < s.size ∧ decide ((t.size : Int) ≤ (a : Int)) = false ∧ decide ((s.size : Int) ≤ (q : Int)) = false) := by
      rcases Nat.lt_or_ge a t.size with h | h
      · rcases Nat.lt_or_ge q s.size with h2 | h2
        · exact .inr (.inr ⟨h, h2, decide_eq_false (by omega), decide_eq_false (by omega)⟩)
        · exact .inr (.inl ⟨h, h2, decide_eq_false (by omega), decide_eq_true (by omega)⟩)
      · exact .inl ⟨h, decide_eq_true (by omega)⟩
    rcases hgo with rfl | ⟨rfl, g1, g2⟩
    · rcases hca with ⟨h1, h2⟩ | ⟨h1, h2, h3, h4⟩ | ⟨h1, h2, h3, h4⟩
      · have h1' : (t.size : Int) ≤ a := by omega
        go_wp2
        refine wp_region_quiet_below (by kernel_rfl) (by kernel_rfl) ?_
        repeat (first | go_big_quiet_step (fail) | (go_big_quiet_want; refine ⟨.bool true, fun w' hw' => ?_, ?_⟩; (· go_simp; done); go_simp; go_big_quiet_on) | (go_big_quiet_want; refine ⟨.bool false, fun w' hw' => ?_, ?_⟩; (· go_simp; done); go_simp; go_big_quiet_on) | (go_big_quiet_want; refine ⟨.int .i64 t.size, fun w' hw' => ?_, ?_⟩; (· go_simp; done); go_simp; go_big_quiet_on) | (go_big_quiet_want; refine ⟨.int .i64 s.size, fun w' hw' => ?_, ?_⟩; (· go_simp; done); go_simp; go_big_quiet_on))
        go_big_quiet_want
        refine ⟨.bool true, fun w' hw' => ?_, ?_⟩
        · go_simp
          exact (awake_any _).mono fun e w'' hh => ⟨hh.1, hw'.trans (hh.2.mono hw'.size)⟩
        go_simp
        go_big_quiet_on
        repeat (first | go_big_quiet_step (fail) | (go_big_quiet_want; refine ⟨.bool true, fun w' hw' => ?_, ?_⟩; (· go_simp; done); go_simp; go_big_quiet_on) | (go_big_quiet_want; refine ⟨.bool false, fun w' hw' => ?_, ?_⟩; (· go_simp; done); go_simp; go_big_quiet_on) | (go_big_quiet_want; refine ⟨.int .i64 t.size, fun w' hw' => ?_, ?_⟩; (· go_simp; done); go_simp; go_big_quiet_on) | (go_big_quiet_want; refine ⟨.int .i64 s.size, fun w' hw' => ?_, ?_⟩; (· go_simp; done); go_simp; go_big_quiet_on))
        refine wpQuiet_nil ?_
        intro w8 hw8
        go_wp2
        go_ret
        exact ⟨rfl, B1.trans (hw8.mono B1.size)⟩
      · have h1' : ¬ (t.size : Int) ≤ a := by omega
        have h2' : (s.size : Int) ≤ q := by omega
        go_wp2
        refine wp_region_quiet_below (by kernel_rfl) (by kernel_rfl) ?_
        repeat (first | go_big_quiet_step (fail) | (go_big_quiet_want; refine ⟨.bool true, fun w' hw' => ?_, ?_⟩; (· go_simp; done); go_simp; go_big_quiet_on) | (go_big_quiet_want; refine ⟨.bool false, fun w' hw' => ?_, ?_⟩; (· go_simp; done); go_simp; go_big_quiet_on) | (go_big_quiet_want; refine ⟨.int .i64 t.size, fun w' hw' => ?_, ?_⟩; (· go_simp; done); go_simp; go_big_quiet_on) | (go_big_quiet_want; refine ⟨.int .i64 s.size, fun w' hw' => ?_, ?_⟩; (· go_simp; done); go_simp; go_big_quiet_on))
        go_big_quiet_want
        refine ⟨.bool true, fun w' hw' => ?_, ?_⟩
        · go_simp
          exact (awake_any _).mono fun e w'' hh => ⟨hh.1, hw'.trans (hh.2.mono hw'.size)⟩
        go_simp
        go_big_quiet_on
        repeat (first | go_big_quiet_step (fail) | (go_big_quiet_want; refine ⟨.bool true, fun w' hw' => ?_, ?_⟩; (· go_simp; done); go_simp; go_big_quiet_on) | (go_big_quiet_want; refine ⟨.bool false, fun w' hw' => ?_, ?_⟩; (· go_simp; done); go_simp; go_big_quiet_on) | (go_big_quiet_want; refine ⟨.int .i64 t.size, fun w' hw' => ?_, ?_⟩; (· go_simp; done); go_simp; go_big_quiet_on) | (go_big_quiet_want; refine ⟨.int .i64 s.size, fun w' hw' => ?_, ?_⟩; (· go_simp; done); go_simp; go_big_quiet_on))
        refine wpQuiet_nil ?_
        intro w8 hw8
        go_wp2
        go_ret
        exact ⟨rfl, B1.trans (hw8.mono B1.size)⟩
      · have h1' : ¬ (t.size : Int) ≤ a := by omega
        have h2' : ¬ (s.size : Int) ≤ q := by omega
        have hab := HAB.out h1 h2
        go_wp2
        refine wp_region_quiet_below (by kernel_rfl) (by kernel_rfl) ?_
        repeat (first | go_big_quiet_step (fail) | (go_big_quiet_want; refine ⟨.bool true, fun w' hw' => ?_, ?_⟩; (· go_simp; done); go_simp; go_big_quiet_on) | (go_big_quiet_want; refine ⟨.bool false, fun w' hw' => ?_, ?_⟩; (· go_simp; done); go_simp; go_big_quiet_on) | (go_big_quiet_want; refine ⟨.int .i64 t.size, fun w' hw' => ?_, ?_⟩; (· go_simp; done); go_simp; go_big_quiet_on) | (go_big_quiet_want; refine ⟨.int .i64 s.size, fun w' hw' => ?_, ?_⟩; (· go_simp; done); go_simp; go_big_quiet_on) | (go_big_quiet_want; refine ⟨.int .u8 ((s[q]'h2).toNat : Int), fun w' hw' => ?_, ?_⟩; (· go_simp; done); go_simp; go_big_quiet_on))
        go_big_quiet_want
        refine ⟨.bool true, fun w' hw' => ?_, ?_⟩
        · go_simp
          exact (awake_any _).mono fun e w'' hh => ⟨hh.1, hw'.trans (hh.2.mono hw'.size)⟩
        go_simp
        go_big_quiet_on
        repeat (first | go_big_quiet_step (fail) | (go_big_quiet_want; refine ⟨.bool true, fun w' hw' => ?_, ?_⟩; (· go_simp; done); go_simp; go_big_quiet_on) | (go_big_quiet_want; refine ⟨.bool false, fun w' hw' => ?_, ?_⟩; (· go_simp; done); go_simp; go_big_quiet_on) | (go_big_quiet_want; refine ⟨.int .i64 t.size, fun w' hw' => ?_, ?_⟩; (· go_simp; done); go_simp; go_big_quiet_on) | (go_big_quiet_want; refine ⟨.int .i64 s.size, fun w' hw' => ?_, ?_⟩; (· go_simp; done); go_simp; go_big_quiet_on) | (go_big_quiet_want; refine ⟨.int .u8 ((s[q]'h2).toNat : Int), fun w' hw' => ?_, ?_⟩; (· go_simp; done); go_simp; go_big_quiet_on))
        refine wpQuiet_nil ?_
        intro w8 hw8
        go_wp2
        go_ret
        exact ⟨rfl, B1.trans (hw8.mono B1.size)⟩
    · rcases hca with ⟨h1, h2⟩ | ⟨h1, h2, h3, h4⟩ | ⟨h1, h2, h3, h4⟩
      · have h1' : (t.size : Int) ≤ a := by omega
        go_wp2
        refine wp_region_quiet_below (by kernel_rfl) (by kernel_rfl) ?_
        repeat (first | go_big_quiet_step (fail) | (go_big_quiet_want; refine ⟨.bool true, fun w' hw' => ?_, ?_⟩; (· go_simp; done); go_simp; go_big_quiet_on) | (go_big_quiet_want; refine ⟨.bool false, fun w' hw' => ?_, ?_⟩; (· go_simp; done); go_simp; go_big_quiet_on) | (go_big_quiet_want; refine ⟨.int .i64 t.size, fun w' hw' => ?_, ?_⟩; (· go_simp; done); go_simp; go_big_quiet_on) | (go_big_quiet_want; refine ⟨.int .i64 s.size, fun w' hw' => ?_, ?_⟩; (· go_simp; done); go_simp; go_big_quiet_on))
        go_big_quiet_want
        refine ⟨.bool true, fun w' hw' => ?_, ?_⟩
        · go_simp
          exact (awake_any _).mono fun e w'' hh => ⟨hh.1, hw'.trans (hh.2.mono hw'.size)⟩
        go_simp
        go_big_quiet_on
        repeat (first | go_big_quiet_step (fail) | (go_big_quiet_want; refine ⟨.bool true, fun w' hw' => ?_, ?_⟩; (· go_simp; done); go_simp; go_big_quiet_on) | (go_big_quiet_want; refine ⟨.bool false, fun w' hw' => ?_, ?_⟩; (· go_simp; done); go_simp; go_big_quiet_on) | (go_big_quiet_want; refine ⟨.int .i64 t.size, fun w' hw' => ?_, ?_⟩; (· go_simp; done); go_simp; go_big_quiet_on) | (go_big_quiet_want; refine ⟨.int .i64 s.size, fun w' hw' => ?_, ?_⟩; (· go_simp; done); go_simp; go_big_quiet_on))
        refine wpQuiet_nil ?_
        intro w8 hw8
        go_wp2
        go_ret
        exact ⟨rfl, B1.trans (hw8.mono B1.size)⟩
      · have h1' : ¬ (t.size : Int) ≤ a := by omega
        have h2' : (s.size : Int) ≤ q := by omega
        go_wp2
        refine wp_region_quiet_below (by kernel_rfl) (by kernel_rfl) ?_
        repeat (first | go_big_quiet_step (fail) | (go_big_quiet_want; refine ⟨.bool true, fun w' hw' => ?_, ?_⟩; (· go_simp; done); go_simp; go_big_quiet_on) | (go_big_quiet_want; refine ⟨.bool false, fun w' hw' => ?_, ?_⟩; (· go_simp; done); go_simp; go_big_quiet_on) | (go_big_quiet_want; refine ⟨.int .i64 t.size, fun w' hw' => ?_, ?_⟩; (· go_simp; done); go_simp; go_big_quiet_on) | (go_big_quiet_want; refine ⟨.int .i64 s.size, fun w' hw' => ?_, ?_⟩; (· go_simp; done); go_simp; go_big_quiet_on))
        go_big_quiet_want
        refine ⟨.bool true, fun w' hw' => ?_, ?_⟩
        · go_simp
          exact (awake_any _).mono fun e w'' hh => ⟨hh.1, hw'.trans (hh.2.mono hw'.size)⟩
        go_simp
        go_big_quiet_on
        repeat (first | go_big_quiet_step (fail) | (go_big_quiet_want; refine ⟨.bool true, fun w' hw' => ?_, ?_⟩; (· go_simp; done); go_simp; go_big_quiet_on) | (go_big_quiet_want; refine ⟨.bool false, fun w' hw' => ?_, ?_⟩; (· go_simp; done); go_simp; go_big_quiet_on) | (go_big_quiet_want; refine ⟨.int .i64 t.size, fun w' hw' => ?_, ?_⟩; (· go_simp; done); go_simp; go_big_quiet_on) | (go_big_quiet_want; refine ⟨.int .i64 s.size, fun w' hw' => ?_, ?_⟩; (· go_simp; done); go_simp; go_big_quiet_on))
        refine wpQuiet_nil ?_
        intro w8 hw8
        go_wp2
        go_ret
        exact ⟨rfl, B1.trans (hw8.mono B1.size)⟩
      · have h1' : ¬ (t.size : Int) ≤ a := by omega
        have h2' : ¬ (s.size : Int) ≤ q := by omega
        have hab := HAB.out h1 h2
        go_wp2
        refine wp_region_quiet_below (by kernel_rfl) (by kernel_rfl) ?_
        repeat (first | go_big_quiet_step (fail) | (go_big_quiet_want; refine ⟨.bool true, fun w' hw' => ?_, ?_⟩; (· go_simp; done); go_simp; go_big_quiet_on) | (go_big_quiet_want; refine ⟨.bool false, fun w' hw' => ?_, ?_⟩; (· go_simp; done); go_simp; go_big_quiet_on) | (go_big_quiet_want; refine ⟨.int .i64 t.size, fun w' hw' => ?_, ?_⟩; (· go_simp; done); go_simp; go_big_quiet_on) | (go_big_quiet_want; refine ⟨.int .i64 s.size, fun w' hw' => ?_, ?_⟩; (· go_simp; done); go_simp; go_big_quiet_on) | (go_big_quiet_want; refine ⟨.int .u8 ((s[q]'h2).toNat : Int), fun w' hw' => ?_, ?_⟩; (· go_simp; done); go_simp; go_big_quiet_on))
        go_big_quiet_want
        refine ⟨.bool true, fun w' hw' => ?_, ?_⟩
        · go_simp
          exact (awake_any _).mono fun e w'' hh => ⟨hh.1, hw'.trans (hh.2.mono hw'.size)⟩
        go_simp
        go_big_quiet_on
        repeat (first | go_big_quiet_step (fail) | (go_big_quiet_want; refine ⟨.bool true, fun w' hw' => ?_, ?_⟩; (· go_simp; done); go_simp; go_big_quiet_on) | (go_big_quiet_want; refine ⟨.bool false, fun w' hw' => ?_, ?_⟩; (· go_simp; done); go_simp; go_big_quiet_on) | (go_big_quiet_want; refine ⟨.int .i64 t.size, fun w' hw' => ?_, ?_⟩; (· go_simp; done); go_simp; go_big_quiet_on) | (go_big_quiet_want; refine ⟨.int .i64 s.size, fun w' hw' => ?_, ?_⟩; (· go_simp; done); go_simp; go_big_quiet_on) | (go_big_quiet_want; refine ⟨.int .u8 ((s[q]'h2).toNat : Int), fun w' hw' => ?_, ?_⟩; (· go_simp; done); go_simp; go_big_quiet_on))
        refine wpQuiet_nil ?_
        intro w8 hw8
        go_wp2
        go_ret
        exact ⟨rfl, B1.trans (hw8.mono B1.size)⟩

theorem back_any (es : List Rg) (ao : Option Addr) (cap : Nat) (s : ByteArray) (x : Int) (w : World) (hc : RgAt es ao w) (ho : ∀ r ∈ es, RgOk r) (hss : s.size ≤ 140737488351232) (hx1 : x ≤ 9223372036854775807) :
    Calls Try.prog 6 #[.slice ao es.length cap, .string s, .int .i64 x] w fun e w' => e = .returned (.bool true) ∧ Below w.heap.size w w' := by
  by_cases hn : es.length ≤ 100
  · by_cases hf : Fit es
    · exact back_fit es ao cap s x w hc ho hn hf hss hx1
    · exact back_unfit es ao cap s x w hc ho hn (by rw [← Bool.not_eq_true, fitB_fit]; exact hf)
  · exact back_big ao _ cap s x w hn
end Go.Proofs.Ytdkgeeimhjffdaa
