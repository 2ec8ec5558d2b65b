/- The walk of the law SpanAlgebra: for every two slices of ranges and every number it returns true. -/
import Derived.Test.YtdkgeeimhjffdaaOpen
namespace Go.Proofs.Ytdkgeeimhjffdaa
open Go.RowKit Go.Shelf

/-- What a set that was told is good for, in every later world. -/
structure SetAt (rs : List Rg) (ro : Option Addr) (f : Int → Bool) (W : World) : Prop where
  at_ : RgAt rs ro W
  fit : Fit rs
  ok : ∀ r ∈ rs, RgOk r
  has : ∀ x, hasL rs x = f x
  len : rs.length ≤ 2000
theorem SetAt.next {rs : List Rg} {ro : Option Addr} {f : Int → Bool} {W W' : World} (h : SetAt rs ro f W) (hb : Below W.heap.size W W') : SetAt rs ro f W' := ⟨h.at_.next hb, h.fit, h.ok, h.has, h.len⟩

set_option maxHeartbeats 1000000 in
theorem algebra_big1 (ao bo : Option Addr) (n m cap dap : Nat) (x : Int) (w : World) (hn : ¬ n ≤ 100) :
    Calls Try.prog 5 #[.slice ao n cap, .slice bo m dap, .int .i64 x] w fun e w' => e = .returned (.bool true) ∧ Below w.heap.size w w' := by
  have hs := small_any ao n cap w
  rw [decide_eq_false hn] at hs
  go_enter Try.func5, Try.ntmps5
  go_wp2_with fail
  refine hs.mono ?_
  rintro e w1 ⟨rfl, rfl⟩
  go_wp2_with fail
  refine (awake_any _).mono ?_
  rintro e w2 ⟨rfl, hb⟩
  go_wp2
  go_ret
  exact ⟨rfl, hb⟩

set_option maxHeartbeats 1000000 in
theorem algebra_big2 (ao bo : Option Addr) (n m cap dap : Nat) (x : Int) (w : World) (hn : n ≤ 100) (hm : ¬ m ≤ 100) :
    Calls Try.prog 5 #[.slice ao n cap, .slice bo m dap, .int .i64 x] w fun e w' => e = .returned (.bool true) ∧ Below w.heap.size w w' := by
  have hs := small_any ao n cap w
  have ht := small_any bo m dap w
  rw [decide_eq_true hn] at hs
  rw [decide_eq_false hm] at ht
  go_enter Try.func5, Try.ntmps5
  go_wp2_with fail
  refine hs.mono ?_
  rintro e w1 ⟨rfl, rfl⟩
  go_wp2_with fail
  refine ht.mono ?_
  rintro e w1 ⟨rfl, rfl⟩
  go_wp2_with fail
  refine (awake_any _).mono ?_
  rintro e w2 ⟨rfl, hb⟩
  go_wp2
  go_ret
  exact ⟨rfl, hb⟩

set_option maxHeartbeats 4000000 in
theorem algebra_small (a b : List Rg) (ao bo : Option Addr) (cap dap : Nat) (x : Int) (w : World) (hoa : ∀ r ∈ a, RgOk r) (hob : ∀ r ∈ b, RgOk r) (ha : RgAt a ao w) (hb : RgAt b bo w) (hn : a.length ≤ 100) (hm : b.length ≤ 100) :
    Calls Try.prog 5 #[.slice ao a.length cap, .slice bo b.length dap, .int .i64 x] w fun e w' => e = .returned (.bool true) ∧ Below w.heap.size w w' := by
  have hs := small_any ao a.length cap w
  have ht := small_any bo b.length dap w
  rw [decide_eq_true hn] at hs
  rw [decide_eq_true hm] at ht
  have hha := fun W (h : Below w.heap.size w W) => has_any a ao cap x W (ha.next h) (by omega)
  have hhb := fun W (h : Below w.heap.size w W) => has_any b bo dap x W (hb.next h) (by omega)
  have hjo := fun W (h : Below w.heap.size w W) => join_any a b ao bo cap dap W hoa hob (by omega) (by omega) (ha.next h) (hb.next h)
  have hme := fun W (h : Below w.heap.size w W) => meet_any a b ao bo cap dap W hoa hob (by omega) (by omega) (ha.next h) (hb.next h)
  have hle := fun W (h : Below w.heap.size w W) => less_any a b ao bo cap dap W hoa hob (by omega) (by omega) (ha.next h) (hb.next h)
  have hno := fun W (h : Below w.heap.size w W) => norm_any a ao cap W hoa (by omega) (ha.next h)
  obtain ⟨p, hp⟩ : ∃ p, hasL a x = p := ⟨_, rfl⟩
  obtain ⟨q, hq⟩ : ∃ q, hasL b x = q := ⟨_, rfl⟩
  rw [hp] at hha
  rw [hq] at hhb
  have HP : Hid (hasL a x = p) := hp
  have HQ : Hid (hasL b x = q) := hq
  have HL : Hid (a.length ≤ 100 ∧ b.length ≤ 100) := ⟨hn, hm⟩
  clear ha hb hoa hob hp hq
  go_enter Try.func5, Try.ntmps5
  go_wp2_with fail
  refine hs.mono ?_
  rintro e w1 ⟨rfl, rfl⟩
  go_wp2_with fail
  refine ht.mono ?_
  rintro e w1 ⟨rfl, rfl⟩
  clear hs ht
  go_wp2_with fail
  refine (hha _ (Below.refl _ _)).mono ?_
  rintro e w1 ⟨rfl, B1⟩
  go_wp2_with fail
  refine (hhb _ B1).mono ?_
  rintro e w2 ⟨rfl, hb⟩
  replace B1 := below_then B1 hb B1.size
  clear hb hha hhb
  go_wp2_with fail
  refine (hjo _ B1).mono ?_
  rintro e w3 ⟨_, jo, jc, js, rfl, j1, hb, j3, j4, j5, j6⟩
  have J : SetAt js jo (fun x => hasL a x || hasL b x) w3 := ⟨j1, j3, j4, j5, by have := HL.out; omega⟩
  replace B1 := below_then B1 hb B1.size
  clear hb j1 j3 j4 j5 j6 hjo
  go_wp2_with fail
  refine (hme _ B1).mono ?_
  rintro e w4 ⟨_, mo, mc, ms, rfl, j1, hb, j3, j4, j5, j6⟩
  have M : SetAt ms mo (fun x => hasL a x && hasL b x) w4 := ⟨j1, j3, j4, j5, by have := HL.out; omega⟩
  replace J := J.next hb
  replace B1 := below_then B1 hb B1.size
  clear hb j1 j3 j4 j5 j6 hme
  go_wp2_with fail
  refine (hle _ B1).mono ?_
  rintro e w5 ⟨_, lo, lc, ls, rfl, j1, hb, j3, j4, j5, j6⟩
  have L : SetAt ls lo (fun x => hasL a x && !hasL b x) w5 := ⟨j1, j3, j4, j5, by have := HL.out; omega⟩
  replace J := J.next hb
  replace M := M.next hb
  replace B1 := below_then B1 hb B1.size
  clear hb j1 j3 j4 j5 j6 hle
  have pf : ∀ {rs : List Rg}, Fit rs → fitB (-1) rs = true := fun h => (fitB_fit _).2 h
  cases p <;> cases q
  all_goals
    have v1 := J.has x
    have v2 := M.has x
    have v3 := L.has x
    simp only [HP.out, HQ.out, Bool.or_true, Bool.or_false, Bool.and_true, Bool.and_false, Bool.not_true, Bool.not_false] at v1 v2 v3
    have h1 := has_any js jo jc x w5 J.at_ (by have := J.len; omega)
    rw [v1] at h1
    go_wp2_with fail
    refine h1.mono ?_
    rintro e w6 ⟨rfl, hb⟩
    replace J := J.next hb
    replace M := M.next hb
    replace L := L.next hb
    replace B1 := below_then B1 hb B1.size
    clear hb h1 v1
    have h1 := has_any ms mo mc x w6 M.at_ (by have := M.len; omega)
    rw [v2] at h1
    go_wp2_with fail
    refine h1.mono ?_
    rintro e w7 ⟨rfl, hb⟩
    replace J := J.next hb
    replace M := M.next hb
    replace L := L.next hb
    replace B1 := below_then B1 hb B1.size
    clear hb h1 v2
    have h1 := has_any ls lo lc x w7 L.at_ (by have := L.len; omega)
    rw [v3] at h1
    go_wp2_with fail
    refine h1.mono ?_
    rintro e w8 ⟨rfl, hb⟩
    replace J := J.next hb
    replace M := M.next hb
    replace L := L.next hb
    replace B1 := below_then B1 hb B1.size
    clear hb h1 v3
    have h1 := fit_any js jo jc w8 J.at_ (by have := J.len; omega)
    rw [pf J.fit] at h1
    go_wp2_with fail
    refine h1.mono ?_
    rintro e w9 ⟨rfl, hb⟩
    replace M := M.next hb
    replace L := L.next hb
    replace B1 := below_then B1 hb B1.size
    clear hb h1 J
    have h1 := fit_any ms mo mc w9 M.at_ (by have := M.len; omega)
    rw [pf M.fit] at h1
    go_wp2_with fail
    refine h1.mono ?_
    rintro e w10 ⟨rfl, hb⟩
    replace M := M.next hb
    replace L := L.next hb
    replace B1 := below_then B1 hb B1.size
    clear hb h1
    have h1 := fit_any ls lo lc w10 L.at_ (by have := L.len; omega)
    rw [pf L.fit] at h1
    go_wp2_with fail
    refine h1.mono ?_
    rintro e w11 ⟨rfl, hb⟩
    replace M := M.next hb
    replace L := L.next hb
    replace B1 := below_then B1 hb B1.size
    clear hb h1
    have h1 := join_any ls ms lo mo lc mc w11 L.ok M.ok (by have := L.len; omega) (by have := M.len; omega) L.at_ M.at_
    have HLL : Hid (2 * (ls.length + ms.length) ≤ 1000000) := by have := L.len; have := M.len; show _ ≤ _; omega
    have HLH : Hid (∀ x, hasL ls x = (hasL a x && !hasL b x)) := L.has
    have HMH : Hid (∀ x, hasL ms x = (hasL a x && hasL b x)) := M.has
    clear L M
    go_wp2_with fail
    refine h1.mono ?_
    rintro e w12 ⟨_, ko, kc, ks, rfl, k1, hb, k3, k4, k5, k6⟩
    replace B1 := below_then B1 hb B1.size
    have HK : Hid (ks.length ≤ 1000000) := Nat.le_trans k6 HLL.out
    have HKF : Hid (Fit ks ∧ ∀ x, hasL ks x = ((hasL a x && !hasL b x) || (hasL a x && hasL b x))) := ⟨k3, fun x => by rw [k5]; show (hasL ls x || hasL ms x) = _; rw [HLH.out, HMH.out]⟩
    clear hb h1 k3 k4 k5 k6
    go_wp2_with fail
    refine (hno _ B1).mono ?_
    rintro e w13 ⟨_, no, nc, ns, rfl, m1, hb, m3, m4, m5, m6⟩
    replace B1 := below_then B1 hb B1.size
    have hk2 := k1.next hb
    have heq : ks = ns := fit_unique HKF.out.1 m3 fun x => by
      rw [HKF.out.2, m5]
      show _ = hasL a x
      cases hasL a x <;> cases hasL b x <;> rfl
    have h1 := same_any ks ns ko no kc nc w13 hk2 m1 HK.out (by have := HL.out; omega)
    rw [decide_eq_true heq] at h1
    clear hb m3 m4 m5 m6 m1 hk2 k1 heq hno
    go_wp2_with fail
    refine h1.mono ?_
    rintro e w14 ⟨rfl, hb⟩
    replace B1 := below_then B1 hb B1.size
    clear hb h1
    go_wp2_with fail
    refine (awake_any _).mono ?_
    rintro e w15 ⟨rfl, hb⟩
    replace B1 := below_then B1 hb B1.size
    clear hb
    go_wp2
    go_ret
    exact ⟨rfl, B1⟩

theorem algebra_any (a b : List Rg) (ao bo : Option Addr) (cap dap : Nat) (x : Int) (w : World) (hoa : ∀ r ∈ a, RgOk r) (hob : ∀ r ∈ b, RgOk r) (ha : RgAt a ao w) (hb : RgAt b bo w) :
    Calls Try.prog 5 #[.slice ao a.length cap, .slice bo b.length dap, .int .i64 x] w fun e w' => e = .returned (.bool true) ∧ Below w.heap.size w w' := by
  by_cases hn : a.length ≤ 100
  · by_cases hm : b.length ≤ 100
    · exact algebra_small a b ao bo cap dap x w hoa hob ha hb hn hm
    · exact algebra_big2 ao bo _ _ cap dap x w hn hm
  · exact algebra_big1 ao bo _ _ cap dap x w hn
end Go.Proofs.Ytdkgeeimhjffdaa
