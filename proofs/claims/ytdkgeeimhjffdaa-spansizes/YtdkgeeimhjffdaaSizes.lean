/- The walk of the law SpanSizes: for every two slices of ranges it returns true. -/
import Derived.Test.YtdkgeeimhjffdaaCount
namespace Go.Proofs.Ytdkgeeimhjffdaa
open Go.RowKit Go.Shelf

set_option maxHeartbeats 1000000 in
theorem sizes_big1 (ao bo : Option Addr) (n m cap dap : Nat) (w : World) (hn : ¬ n ≤ 100) :
    Calls Try.prog 7 #[.slice ao n cap, .slice bo m dap] w fun e w' => e = .returned (.bool true) ∧ Below w.heap.size w w' := by
  have hs := small_any ao n cap w
  rw [decide_eq_false hn] at hs
  go_enter Try.func7, Try.ntmps7
  go_wp2_with fail
  refine hs.mono ?_
  rintro e w1 ⟨rfl, rfl⟩
  go_wp2_with fail
  refine (awake_any _).mono ?_
  rintro e w2 ⟨rfl, hb⟩
  go_wp2
  go_ret
  exact ⟨rfl, hb⟩

set_option maxHeartbeats 1000000 in
theorem sizes_big2 (ao bo : Option Addr) (n m cap dap : Nat) (w : World) (hn : n ≤ 100) (hm : ¬ m ≤ 100) :
    Calls Try.prog 7 #[.slice ao n cap, .slice bo m dap] w fun e w' => e = .returned (.bool true) ∧ Below w.heap.size w w' := by
  have hs := small_any ao n cap w
  have ht := small_any bo m dap w
  rw [decide_eq_true hn] at hs
  rw [decide_eq_false hm] at ht
  go_enter Try.func7, Try.ntmps7
  go_wp2_with fail
  refine hs.mono ?_
  rintro e w1 ⟨rfl, rfl⟩
  go_wp2_with fail
  refine ht.mono ?_
  rintro e w1 ⟨rfl, rfl⟩
  go_wp2_with fail
  refine (awake_any _).mono ?_
  rintro e w2 ⟨rfl, hb⟩
  go_wp2
  go_ret
  exact ⟨rfl, hb⟩

/-- The last range of a row ends within 2 to the 40. -/
def EndsOk (rs : List Rg) : Prop := ∀ k, k + 1 = rs.length → ∀ r, rs[k]? = some r → r.2 ≤ 1099511627776

set_option maxHeartbeats 4000000 in
theorem sizes_small (a b : List Rg) (ao bo : Option Addr) (cap dap : Nat) (w : World) (hoa : ∀ r ∈ a, RgOk r) (hob : ∀ r ∈ b, RgOk r) (ha : RgAt a ao w) (hb : RgAt b bo w) (hn : a.length ≤ 100) (hm : b.length ≤ 100) :
    Calls Try.prog 7 #[.slice ao a.length cap, .slice bo b.length dap] w fun e w' => e = .returned (.bool true) ∧ Below w.heap.size w w' := by
  have hs := small_any ao a.length cap w
  have ht := small_any bo b.length dap w
  rw [decide_eq_true hn] at hs
  rw [decide_eq_true hm] at ht
  have hjo := fun W (h : Below w.heap.size w W) => join_any a b ao bo cap dap W hoa hob (by omega) (by omega) (ha.next h) (hb.next h)
  have hme := fun W (h : Below w.heap.size w W) => meet_any a b ao bo cap dap W hoa hob (by omega) (by omega) (ha.next h) (hb.next h)
  have hle := fun W (h : Below w.heap.size w W) => less_any a b ao bo cap dap W hoa hob (by omega) (by omega) (ha.next h) (hb.next h)
  have hna := fun W (h : Below w.heap.size w W) => norm_any a ao cap W hoa (by omega) (ha.next h)
  have hnb := fun W (h : Below w.heap.size w W) => norm_any b bo dap W hob (by omega) (hb.next h)
  have HL : Hid (a.length ≤ 100 ∧ b.length ≤ 100) := ⟨hn, hm⟩
  clear ha hb hoa hob
  go_enter Try.func7, Try.ntmps7
  go_wp2_with fail
  refine hs.mono ?_
  rintro e w1 ⟨rfl, rfl⟩
  go_wp2_with fail
  refine ht.mono ?_
  rintro e w1 ⟨rfl, rfl⟩
  clear hs ht
  go_wp2_with fail
  refine (hna _ (Below.refl _ _)).mono ?_
  rintro e w2 ⟨_, xo, xc, xs, rfl, j1, B1, j3, j4, j5, j6⟩
  have X : SetAt xs xo (fun x => hasL a x) w2 := ⟨j1, j3, j4, j5, by have := HL.out; omega⟩
  clear j1 j3 j4 j5 j6 hna
  go_wp2_with fail
  refine (hnb _ B1).mono ?_
  rintro e w3 ⟨_, yo, yc, ys, rfl, j1, hb, j3, j4, j5, j6⟩
  have Y : SetAt ys yo (fun x => hasL b x) w3 := ⟨j1, j3, j4, j5, by have := HL.out; omega⟩
  replace X := X.next hb
  replace B1 := below_then B1 hb B1.size
  clear hb j1 j3 j4 j5 j6 hnb
  have hxl := X.len
  have hyl := Y.len
  go_wp2
  have b4 : Below w3.heap.size w3 (w3.alloc (.cells #[.slice xo xs.length xc, .slice yo ys.length yc] 22)) := (Below.refl _ _).alloc (Nat.le_refl _) _
  replace X := X.next b4
  replace Y := Y.next b4
  replace B1 := below_then B1 b4 B1.size
  have d0 : (w3.alloc (.cells #[.slice xo xs.length xc, .slice yo ys.length yc] 22)).cell? ⟨w3.heap.size, 0, none⟩ = some (.slice xo xs.length xc) := by simp
  have d1 : (w3.alloc (.cells #[.slice xo xs.length xc, .slice yo ys.length yc] 22)).cell? ⟨w3.heap.size, 1, none⟩ = some (.slice yo ys.length yc) := by simp
  clear b4
  generalize w3.alloc (.cells #[.slice xo xs.length xc, .slice yo ys.length yc] 22) = w4 at *
  generalize w3.heap.size = z at *
  go_loopw [8, 27] (fun l i wr => ∃ j : Nat, i = .int .i64 j ∧ j ≤ 2 ∧ (1 ≤ j → EndsOk xs) ∧ (2 ≤ j → EndsOk ys) ∧ wr = w4) (fun _ i _ => 2 - (intOf i).toNat)
  case atStart => exact ⟨0, rfl, by omega, by omega, by omega, rfl⟩
  case round =>
    obtain ⟨j, rfl, hj, h1, h2, rfl⟩ := hrel
    by_cases hlt : j < 2
    · obtain rfl | rfl : j = 0 ∨ j = 1 := by omega
      · by_cases hp : 0 < xs.length
        · obtain ⟨k, hk⟩ : ∃ k, xs.length = k + 1 := ⟨xs.length - 1, by omega⟩
          obtain ⟨r, hr⟩ : ∃ r, xs[k]? = some r := ⟨xs[k]'(by omega), by simp [hk]⟩
          obtain ⟨bb, off, hao, _, c0, c1⟩ := X.at_ k r hr
          have HK : Hid (xs.length = k + 1) := hk
          have HR : Hid (xs[k]? = some r) := hr
          have HAO : Hid (xo = some ⟨bb, off, none⟩) := hao
          rw [hk, hao] at d0
          rw [hk, hao]
          have hk2 : k ≤ 2000 := by omega
          obtain ⟨r0, r1⟩ := r
          simp only at c0 c1
          clear hk hr hao hp
          by_cases hbig : 1099511627776 < r1
          · go_wp2_with fail
            refine (awake_any _).mono ?_
            rintro e w5 ⟨rfl, hb⟩
            replace B1 := below_then B1 hb B1.size
            go_wp2
            go_ret
            exact ⟨rfl, B1⟩
          · have HE : Hid (EndsOk xs) := fun k' hk' r' hr' => by
              obtain rfl : k' = k := by have := HK.out; omega
              rw [HR.out] at hr'
              cases hr'
              show r1 ≤ _
              omega
            go_wp2
            exact ⟨⟨1, by go_num, by omega, fun _ => HE.out, fun h => absurd h (by omega), trivial⟩, by simp [intOf]⟩
        · have HE : Hid (EndsOk xs) := fun k' hk' => absurd hk' (by omega)
          have hz : xs.length = 0 := by omega
          rw [hz] at d0
          rw [hz]
          go_wp2
          exact ⟨⟨1, by go_num, by omega, fun _ => HE.out, fun h => absurd h (by omega), trivial⟩, by simp [intOf]⟩
      · by_cases hp : 0 < ys.length
        · obtain ⟨k, hk⟩ : ∃ k, ys.length = k + 1 := ⟨ys.length - 1, by omega⟩
          obtain ⟨r, hr⟩ : ∃ r, ys[k]? = some r := ⟨ys[k]'(by omega), by simp [hk]⟩
          obtain ⟨bb, off, hao, _, c0, c1⟩ := Y.at_ k r hr
          have HK : Hid (ys.length = k + 1) := hk
          have HR : Hid (ys[k]? = some r) := hr
          have HAO : Hid (yo = some ⟨bb, off, none⟩) := hao
          rw [hk, hao] at d1
          rw [hk, hao]
          have hk2 : k ≤ 2000 := by omega
          obtain ⟨r0, r1⟩ := r
          simp only at c0 c1
          clear hk hr hao hp
          by_cases hbig : 1099511627776 < r1
          · go_wp2_with fail
            refine (awake_any _).mono ?_
            rintro e w5 ⟨rfl, hb⟩
            replace B1 := below_then B1 hb B1.size
            go_wp2
            go_ret
            exact ⟨rfl, B1⟩
          · have HE : Hid (EndsOk ys) := fun k' hk' r' hr' => by
              obtain rfl : k' = k := by have := HK.out; omega
              rw [HR.out] at hr'
              cases hr'
              show r1 ≤ _
              omega
            go_wp2
            exact ⟨⟨2, by go_num, by omega, fun _ => h1 (by omega), fun _ => HE.out, trivial⟩, by simp [intOf]⟩
        · have HE : Hid (EndsOk ys) := fun k' hk' => absurd hk' (by omega)
          have hz : ys.length = 0 := by omega
          rw [hz] at d1
          rw [hz]
          go_wp2
          exact ⟨⟨2, by go_num, by omega, fun _ => h1 (by omega), fun _ => HE.out, trivial⟩, by simp [intOf]⟩
    · obtain rfl : j = 2 := by omega
      have nx := last_le X.fit (h1 (by omega))
      have ny := last_le Y.fit (h2 (by omega))
      have HNX : Hid (∀ r ∈ xs, r.2 ≤ (1099511627776 : Nat)) := nx
      have HNY : Hid (∀ r ∈ ys, r.2 ≤ (1099511627776 : Nat)) := ny
      clear h1 h2 nx ny d0 d1
      go_wp2_with fail
      refine (hme _ B1).mono ?_
      rintro e w5 ⟨_, mo, mc, ms, rfl, j1, hb, j3, j4, j5, j6⟩
      have M : SetAt ms mo (fun x => hasL a x && hasL b x) w5 := ⟨j1, j3, j4, j5, by have := HL.out; omega⟩
      replace X := X.next hb
      replace Y := Y.next hb
      replace B1 := below_then B1 hb B1.size
      clear hb j1 j3 j4 j5 j6 hme
      have hz := size_any ms mo mc w5 M.at_ M.fit M.ok (by have := M.len; omega)
      have HMH : Hid (Fit ms ∧ ∀ x, hasL ms x = (hasL a x && hasL b x)) := ⟨M.fit, M.has⟩
      clear M
      obtain ⟨zm, hzm⟩ : ∃ zm, sizeN ms = zm := ⟨_, rfl⟩
      rw [hzm] at hz
      have HZM : Hid (sizeN ms = zm) := hzm
      clear hzm
      go_wp2_with fail
      refine hz.mono ?_
      rintro e w6 ⟨rfl, hb⟩
      replace X := X.next hb
      replace Y := Y.next hb
      replace B1 := below_then B1 hb B1.size
      clear hb hz
      go_wp2_with fail
      refine (hjo _ B1).mono ?_
      rintro e w7 ⟨_, jo, jc, js, rfl, j1, hb, j3, j4, j5, j6⟩
      have J : SetAt js jo (fun x => hasL a x || hasL b x) w7 := ⟨j1, j3, j4, j5, by have := HL.out; omega⟩
      replace X := X.next hb
      replace Y := Y.next hb
      replace B1 := below_then B1 hb B1.size
      clear hb j1 j3 j4 j5 j6 hjo
      have hz := size_any js jo jc w7 J.at_ J.fit J.ok (by have := J.len; omega)
      have HJH : Hid (Fit js ∧ ∀ x, hasL js x = (hasL a x || hasL b x)) := ⟨J.fit, J.has⟩
      clear J
      obtain ⟨zj, hzj⟩ : ∃ zj, sizeN js = zj := ⟨_, rfl⟩
      rw [hzj] at hz
      have HZJ : Hid (sizeN js = zj) := hzj
      clear hzj
      go_wp2_with fail
      refine hz.mono ?_
      rintro e w8 ⟨rfl, hb⟩
      replace X := X.next hb
      replace Y := Y.next hb
      replace B1 := below_then B1 hb B1.size
      clear hb hz
      obtain ⟨zx, hzx⟩ : ∃ zx, sizeN xs = zx := ⟨_, rfl⟩
      obtain ⟨zy, hzy⟩ : ∃ zy, sizeN ys = zy := ⟨_, rfl⟩
      have HZX : Hid (sizeN xs = zx ∧ sizeN ys = zy) := ⟨hzx, hzy⟩
      have hz := size_any xs xo xc w8 X.at_ X.fit X.ok (by omega)
      rw [hzx] at hz
      have hsx := fun W (h : RgAt xs xo W) => size_any xs xo xc W h X.fit X.ok (by omega)
      rw [hzx] at hsx
      have hsy := fun W (h : RgAt ys yo W) => size_any ys yo yc W h Y.fit Y.ok (by omega)
      rw [hzy] at hsy
      clear hzx hzy
      -- the document's word on the sizes
      have hsets : ∀ {ls : List Rg}, Fit ls → (∀ x, hasL ls x = (hasL a x && !hasL b x)) → zj + zm = zx + zy ∧ sizeN ls + zm = zx ∧ (0 ≤ zj ∧ zj ≤ 1099511627776) ∧ (0 ≤ zm ∧ zm ≤ 1099511627776) ∧ (0 ≤ sizeN ls ∧ sizeN ls ≤ 1099511627776) ∧ (0 ≤ zx ∧ zx ≤ 1099511627776) ∧ (0 ≤ zy ∧ zy ≤ 1099511627776) := fun {ls} hf hh => by
        have := sizes_set (n := 1099511627776) X.fit Y.fit HJH.out.1 HMH.out.1 hf HNX.out HNY.out X.has Y.has HJH.out.2 HMH.out.2 hh
        rw [HZJ.out, HZM.out, HZX.out.1, HZX.out.2] at this
        exact this
      have HSETS : Hid (∀ {ls : List Rg}, Fit ls → (∀ x, hasL ls x = (hasL a x && !hasL b x)) → zj + zm = zx + zy ∧ sizeN ls + zm = zx ∧ (0 ≤ zj ∧ zj ≤ 1099511627776) ∧ (0 ≤ zm ∧ zm ≤ 1099511627776) ∧ (0 ≤ sizeN ls ∧ sizeN ls ≤ 1099511627776) ∧ (0 ≤ zx ∧ zx ≤ 1099511627776) ∧ (0 ≤ zy ∧ zy ≤ 1099511627776)) := hsets
      clear hsets
      have h2 := sizes_two (n := 1099511627776) X.fit Y.fit HJH.out.1 HMH.out.1 HNX.out HNY.out X.has Y.has HJH.out.2 HMH.out.2
      rw [HZJ.out, HZM.out, HZX.out.1, HZX.out.2] at h2
      obtain ⟨q1, ⟨q2, q3⟩, ⟨q4, q5⟩, ⟨q6, q7⟩, q8, q9⟩ := h2
      have q3' : zj ≤ 1099511627776 := q3
      have q5' : zm ≤ 1099511627776 := q5
      have q7' : zx ≤ 1099511627776 := q7
      have q9' : zy ≤ 1099511627776 := q9
      have HXA : Hid (RgAt xs xo w8) := X.at_
      have HYA : Hid (RgAt ys yo w8) := Y.at_
      clear X Y q3 q5 q7 q9
      go_wp2_with fail
      refine hz.mono ?_
      rintro e w9 ⟨rfl, hb⟩
      have hxa := HXA.out.next hb
      have hz2 := hsy _ (HYA.out.next hb)
      replace B1 := below_then B1 hb B1.size
      clear hb hz HXA HYA hsy
      go_wp2_with fail
      refine hz2.mono ?_
      rintro e w10 ⟨rfl, hb⟩
      replace hxa := hxa.next hb
      replace B1 := below_then B1 hb B1.size
      clear hb hz2
      go_wp2_with fail
      refine (hle _ B1).mono ?_
      rintro e w11 ⟨_, lo, lc, ls, rfl, j1, hb, j3, j4, j5, j6⟩
      replace hxa := hxa.next hb
      replace B1 := below_then B1 hb B1.size
      have h3 := HSETS.out j3 j5
      have hz := size_any ls lo lc w11 j1 j3 j4 (by have := HL.out; omega)
      obtain ⟨_, p1, _, _, ⟨p2, p3⟩, _, _⟩ := h3
      clear hb j1 j3 j4 j5 j6 hle HSETS
      generalize sizeN ls = zl at *
      go_wp2_with fail
      refine hz.mono ?_
      rintro e w12 ⟨rfl, hb⟩
      have hz3 := hsx _ (hxa.next hb)
      replace B1 := below_then B1 hb B1.size
      clear hb hz hxa hsx
      go_wp2_with fail
      refine hz3.mono ?_
      rintro e w13 ⟨rfl, hb⟩
      replace B1 := below_then B1 hb B1.size
      clear hb hz3
      go_wp2_with fail
      refine (awake_any _).mono ?_
      rintro e w14 ⟨rfl, hb⟩
      replace B1 := below_then B1 hb B1.size
      clear hb
      go_wp2
      go_ret
      exact ⟨rfl, B1⟩

theorem sizes_any (a b : List Rg) (ao bo : Option Addr) (cap dap : Nat) (w : World) (hoa : ∀ r ∈ a, RgOk r) (hob : ∀ r ∈ b, RgOk r) (ha : RgAt a ao w) (hb : RgAt b bo w) :
    Calls Try.prog 7 #[.slice ao a.length cap, .slice bo b.length dap] w fun e w' => e = .returned (.bool true) ∧ Below w.heap.size w w' := by
  by_cases hn : a.length ≤ 100
  · by_cases hm : b.length ≤ 100
    · exact sizes_small a b ao bo cap dap w hoa hob ha hb hn hm
    · exact sizes_big2 ao bo _ _ cap dap w hn hm
  · exact sizes_big1 ao bo _ _ cap dap w hn
end Go.Proofs.Ytdkgeeimhjffdaa
