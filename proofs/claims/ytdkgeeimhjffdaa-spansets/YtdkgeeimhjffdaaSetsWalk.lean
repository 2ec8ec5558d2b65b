/- The walk of the law SpanSets: for every two slices of ranges it returns true. -/
import Derived.Test.YtdkgeeimhjffdaaRefLess
namespace Go.Proofs.Ytdkgeeimhjffdaa
open Go.RowKit Go.Shelf

set_option maxHeartbeats 1000000 in
theorem sets_big1 (ao bo : Option Addr) (n m cap dap : Nat) (w : World) (hn : ¬ n ≤ 100) :
    Calls Try.prog 3 #[.slice ao n cap, .slice bo m dap] w fun e w' => e = .returned (.bool true) ∧ Below w.heap.size w w' := by
  have hs := small_any ao n cap w
  rw [decide_eq_false hn] at hs
  go_enter Try.func3, Try.ntmps3
  go_wp2_with fail
  refine hs.mono ?_
  rintro e w1 ⟨rfl, rfl⟩
  go_wp2_with fail
  refine (awake_any _).mono ?_
  rintro e w2 ⟨rfl, hb⟩
  go_wp2
  go_ret
  exact ⟨rfl, hb⟩

set_option maxHeartbeats 1000000 in
theorem sets_big2 (ao bo : Option Addr) (n m cap dap : Nat) (w : World) (hn : n ≤ 100) (hm : ¬ m ≤ 100) :
    Calls Try.prog 3 #[.slice ao n cap, .slice bo m dap] w fun e w' => e = .returned (.bool true) ∧ Below w.heap.size w w' := by
  have hs := small_any ao n cap w
  have ht := small_any bo m dap w
  rw [decide_eq_true hn] at hs
  rw [decide_eq_false hm] at ht
  go_enter Try.func3, Try.ntmps3
  go_wp2_with fail
  refine hs.mono ?_
  rintro e w1 ⟨rfl, rfl⟩
  go_wp2_with fail
  refine ht.mono ?_
  rintro e w1 ⟨rfl, rfl⟩
  go_wp2_with fail
  refine (awake_any _).mono ?_
  rintro e w2 ⟨rfl, hb⟩
  go_wp2
  go_ret
  exact ⟨rfl, hb⟩

set_option maxHeartbeats 4000000 in
theorem sets_small (a b : List Rg) (ao bo : Option Addr) (cap dap : Nat) (w : World) (hoa : ∀ r ∈ a, RgOk r) (hob : ∀ r ∈ b, RgOk r) (ha : RgAt a ao w) (hb : RgAt b bo w) (hna : ao = none → cap = 0) (hnb : bo = none → dap = 0) (hn : a.length ≤ 100) (hm : b.length ≤ 100) :
    Calls Try.prog 3 #[.slice ao a.length cap, .slice bo b.length dap] w fun e w' => e = .returned (.bool true) ∧ Below w.heap.size w w' := by
  have hs := small_any ao a.length cap w
  have ht := small_any bo b.length dap w
  rw [decide_eq_true hn] at hs
  rw [decide_eq_true hm] at ht
  have cN := fun W (h : Below w.heap.size w W) => norm_any a ao cap W hoa (by omega) (ha.next h)
  have cRN := fun W (h : Below w.heap.size w W) => rnorm_any a ao cap W (ha.next h) hoa (by omega)
  have cF := fun W (h : Below w.heap.size w W) => fit_any a ao cap W (ha.next h) (by omega)
  have cRF := fun W (h : Below w.heap.size w W) => rfit_any a ao cap W (ha.next h) hoa (by omega)
  have cJ := fun W (h : Below w.heap.size w W) => join_any a b ao bo cap dap W hoa hob (by omega) (by omega) (ha.next h) (hb.next h)
  have cRJ := fun W (h : Below w.heap.size w W) => rjoin_any a b ao bo cap dap W hoa hob (by omega) (by omega) (ha.next h) (hb.next h) hna hnb
  have cM := fun W (h : Below w.heap.size w W) => meet_any a b ao bo cap dap W hoa hob (by omega) (by omega) (ha.next h) (hb.next h)
  have cRM := fun W (h : Below w.heap.size w W) => rmeet_any a b ao bo cap dap W hoa hob hn hm (ha.next h) (hb.next h)
  have cL := fun W (h : Below w.heap.size w W) => less_any a b ao bo cap dap W hoa hob (by omega) (by omega) (ha.next h) (hb.next h)
  have cRL := fun W (h : Below w.heap.size w W) => rless_any a b ao bo cap dap W hoa hob hn hm (ha.next h) (hb.next h)
  have HL : Hid (a.length ≤ 100 ∧ b.length ≤ 100) := ⟨hn, hm⟩
  obtain ⟨f, hf⟩ : ∃ f, fitB (-1) a = f := ⟨_, rfl⟩
  rw [hf] at cF cRF
  clear ha hb hoa hob hna hnb hf
  go_enter Try.func3, Try.ntmps3
  go_wp2_with fail
  refine hs.mono ?_
  rintro e w1 ⟨rfl, rfl⟩
  go_wp2_with fail
  refine ht.mono ?_
  rintro e w1 ⟨rfl, rfl⟩
  clear hs ht
  have B1 : Below w1.heap.size w1 w1 := Below.refl _ _
  go_wp2_with fail
  refine (cN _ B1).mono ?_
  rintro e w3 ⟨_, po, pc, ps, rfl, p1, hb, p3, p4, p5, p6⟩
  replace B1 := below_then B1 hb B1.size
  have HP : Hid (Fit ps ∧ (∀ x, hasL ps x = hasL a x) ∧ ps.length ≤ 1000000) := ⟨p3, p5, by have := HL.out; omega⟩
  clear hb p3 p4 p5 p6 cN
  go_wp2_with fail
  refine (cRN _ B1).mono ?_
  rintro e w4 ⟨_, qo, qc, qs, rfl, q1, hb, q3, q4, q5, q6⟩
  replace B1 := below_then B1 hb B1.size
  have heq : ps = qs := fit_unique HP.out.1 q3 fun x => by rw [HP.out.2.1, q5]
  have h1 := same_any ps qs po qo pc qc w4 (p1.next hb) q1 HP.out.2.2 (by have := HL.out; have := List.countP_le_length (p := nonE) (l := a); omega)
  rw [decide_eq_true heq] at h1
  clear hb q3 q4 q5 q6 q1 p1 heq HP cRN
  go_wp2_with fail
  refine h1.mono ?_
  rintro e w5 ⟨rfl, hb⟩
  replace B1 := below_then B1 hb B1.size
  clear hb h1
  go_wp2_with fail
  refine (cF _ B1).mono ?_
  rintro e w6 ⟨rfl, hb⟩
  replace B1 := below_then B1 hb B1.size
  clear hb cF
  go_wp2_with fail
  refine (cRF _ B1).mono ?_
  rintro e w7 ⟨rfl, hb⟩
  replace B1 := below_then B1 hb B1.size
  clear hb cRF
  go_wp2_with fail
  refine (cJ _ B1).mono ?_
  rintro e w3 ⟨_, po, pc, ps, rfl, p1, hb, p3, p4, p5, p6⟩
  replace B1 := below_then B1 hb B1.size
  have HP : Hid (Fit ps ∧ (∀ x, hasL ps x = (hasL a x || hasL b x)) ∧ ps.length ≤ 1000000) := ⟨p3, p5, by have := HL.out; omega⟩
  clear hb p3 p4 p5 p6 cJ
  go_wp2_with fail
  refine (cRJ _ B1).mono ?_
  rintro e w4 ⟨_, qo, qc, qs, rfl, q1, hb, q3, q4, q5, q6⟩
  replace B1 := below_then B1 hb B1.size
  have heq : ps = qs := fit_unique HP.out.1 q3 fun x => by rw [HP.out.2.1, q5]
  have h1 := same_any ps qs po qo pc qc w4 (p1.next hb) q1 HP.out.2.2 (by have := HL.out; have := List.countP_le_length (p := nonE) (l := a); omega)
  rw [decide_eq_true heq] at h1
  clear hb q3 q4 q5 q6 q1 p1 heq HP cRJ
  go_wp2_with fail
  refine h1.mono ?_
  rintro e w5 ⟨rfl, hb⟩
  replace B1 := below_then B1 hb B1.size
  clear hb h1
  go_wp2_with fail
  refine (cM _ B1).mono ?_
  rintro e w3 ⟨_, po, pc, ps, rfl, p1, hb, p3, p4, p5, p6⟩
  replace B1 := below_then B1 hb B1.size
  have HP : Hid (Fit ps ∧ (∀ x, hasL ps x = (hasL a x && hasL b x)) ∧ ps.length ≤ 1000000) := ⟨p3, p5, by have := HL.out; omega⟩
  clear hb p3 p4 p5 p6 cM
  go_wp2_with fail
  refine (cRM _ B1).mono ?_
  rintro e w4 ⟨_, qo, qc, qs, rfl, q1, hb, q3, q4, q5, q6⟩
  replace B1 := below_then B1 hb B1.size
  have heq : ps = qs := fit_unique HP.out.1 q3 fun x => by rw [HP.out.2.1, q5]
  have h1 := same_any ps qs po qo pc qc w4 (p1.next hb) q1 HP.out.2.2 (by have := HL.out; have := List.countP_le_length (p := nonE) (l := a); omega)
  rw [decide_eq_true heq] at h1
  clear hb q3 q4 q5 q6 q1 p1 heq HP cRM
  go_wp2_with fail
  refine h1.mono ?_
  rintro e w5 ⟨rfl, hb⟩
  replace B1 := below_then B1 hb B1.size
  clear hb h1
  go_wp2_with fail
  refine (cL _ B1).mono ?_
  rintro e w3 ⟨_, po, pc, ps, rfl, p1, hb, p3, p4, p5, p6⟩
  replace B1 := below_then B1 hb B1.size
  have HP : Hid (Fit ps ∧ (∀ x, hasL ps x = (hasL a x && !hasL b x)) ∧ ps.length ≤ 1000000) := ⟨p3, p5, by have := HL.out; omega⟩
  clear hb p3 p4 p5 p6 cL
  go_wp2_with fail
  refine (cRL _ B1).mono ?_
  rintro e w4 ⟨_, qo, qc, qs, rfl, q1, hb, q3, q4, q5, q6⟩
  replace B1 := below_then B1 hb B1.size
  have heq : ps = qs := fit_unique HP.out.1 q3 fun x => by rw [HP.out.2.1, q5]
  have h1 := same_any ps qs po qo pc qc w4 (p1.next hb) q1 HP.out.2.2 (by have := HL.out; have := List.countP_le_length (p := nonE) (l := a); omega)
  rw [decide_eq_true heq] at h1
  clear hb q3 q4 q5 q6 q1 p1 heq HP cRL
  go_wp2_with fail
  refine h1.mono ?_
  rintro e w5 ⟨rfl, hb⟩
  replace B1 := below_then B1 hb B1.size
  clear hb h1
  go_wp2_with fail
  refine (awake_any _).mono ?_
  rintro e w15 ⟨rfl, hb⟩
  replace B1 := below_then B1 hb B1.size
  clear hb
  go_wp2
  go_ret
  exact ⟨rfl, B1⟩

theorem sets_any (a b : List Rg) (ao bo : Option Addr) (cap dap : Nat) (w : World) (hoa : ∀ r ∈ a, RgOk r) (hob : ∀ r ∈ b, RgOk r) (ha : RgAt a ao w) (hb : RgAt b bo w) (hna : ao = none → cap = 0) (hnb : bo = none → dap = 0) :
    Calls Try.prog 3 #[.slice ao a.length cap, .slice bo b.length dap] w fun e w' => e = .returned (.bool true) ∧ Below w.heap.size w w' := by
  by_cases hn : a.length ≤ 100
  · by_cases hm : b.length ≤ 100
    · exact sets_small a b ao bo cap dap w hoa hob ha hb hna hnb hn hm
    · exact sets_big2 ao bo _ _ cap dap w hn hm
  · exact sets_big1 ao bo _ _ cap dap w hn
end Go.Proofs.Ytdkgeeimhjffdaa
