/- Meet of the document: the normal form of what both have. -/
import Derived.Test.YtdkgeeimhjffdaaRefJoin
import Derived.Deep.AppendLies
import Derived.Deep.RegionHeld3
import Derived.Deep.DrawnRows
namespace Go.Proofs.Ytdkgeeimhjffdaa
open Go.RowKit Go.Shelf
attribute [local go_sem ↓] Go.wp_at_zero Go.wp_at_succ

def cutX (r s : Rg) : Rg := (max r.1 s.1, min r.2 s.2)
def crossL (xs ys : List Rg) : List Rg := xs.flatMap fun r => ys.map (cutX r)
theorem cross_has (xs ys : List Rg) (x : Int) : hasL (crossL xs ys) x = (hasL xs x && hasL ys x) := by
  rw [Bool.eq_iff_iff, Bool.and_eq_true, hasL_iff, hasL_iff, hasL_iff]
  constructor
  · rintro ⟨q, hq, h0, h1, h2⟩
    obtain ⟨r, hr, hq⟩ := List.mem_flatMap.1 hq
    obtain ⟨s, hs, rfl⟩ := List.mem_map.1 hq
    simp only [cutX] at h1 h2
    exact ⟨⟨r, hr, h0, by omega, by omega⟩, s, hs, h0, by omega, by omega⟩
  · rintro ⟨⟨r, hr, h0, h1, h2⟩, s, hs, _, h3, h4⟩
    exact ⟨cutX r s, List.mem_flatMap.2 ⟨r, hr, List.mem_map.2 ⟨s, hs, rfl⟩⟩, h0, by simp only [cutX]; omega, by simp only [cutX]; omega⟩
theorem cross_ok {xs ys : List Rg} (hx : ∀ r ∈ xs, RgOk r) (hy : ∀ r ∈ ys, RgOk r) : ∀ r ∈ crossL xs ys, RgOk r := by
  intro q hq
  obtain ⟨r, hr, hq⟩ := List.mem_flatMap.1 hq
  obtain ⟨s, hs, rfl⟩ := List.mem_map.1 hq
  have h1 := hx r hr
  have h2 := hy s hs
  unfold RgOk at *
  simp only [cutX]
  omega
theorem cross_len (xs ys : List Rg) : (crossL xs ys).length = xs.length * ys.length := by
  induction xs with
  | nil => simp [crossL]
  | cons r t ih =>
    have : crossL (r :: t) ys = ys.map (cutX r) ++ crossL t ys := by simp [crossL]
    rw [this, List.length_append, ih, List.length_map, List.length_cons, Nat.add_mul]
    omega

theorem far_cell {B n : Nat} {v : Value} {xs : List Value} {W w5 : World} (hown : W.ownsRow B 29 2 v n xs) (hg : W.grownBy w5 v.ownBlock) {p : Addr} (hp : p.block < B) (hB : B ≤ W.heap.size) : w5.cell? p = W.cell? p :=
  hg.cell_far p (by omega) (fun e => by have := (hown.lt _ e.symm).1; omega)

set_option maxRecDepth 100000 in
set_option maxHeartbeats 4000000 in
theorem rmeet_any (a b : List Rg) (ao bo : Option Addr) (cap dap : Nat) (w : World) (hoa : ∀ r ∈ a, RgOk r) (hob : ∀ r ∈ b, RgOk r) (hla : a.length ≤ 100) (hlb : b.length ≤ 100) (ha : RgAt a ao w) (hb : RgAt b bo w) :
    Calls Try.prog 18 #[.slice ao a.length cap, .slice bo b.length dap] w fun e w' => GivesSet True e w w' (fun x => hasL a x && hasL b x) 10000 := by
  obtain ⟨i0, hi, hz0, hz1, hz2⟩ := info_parts info29
  have hna := rnorm_any a ao cap w ha hoa (by omega)
  have hnb := fun W (h : Below w.heap.size w W) => rnorm_any b bo dap W (hb.next h) hob (by omega)
  have hca := List.countP_le_length (p := nonE) (l := a)
  have hcb := List.countP_le_length (p := nonE) (l := b)
  clear ha hb hoa hob
  go_enter Try.func18, Try.ntmps18
  go_wp2_with fail
  refine hna.mono ?_
  rintro e w1 ⟨_, xo, xc, xs, rfl, x1, B1, x3, x4, x5, x6⟩
  clear hna
  go_wp2_with fail
  refine (hnb _ B1).mono ?_
  rintro e w2 ⟨_, yo, yc, ys, rfl, y1, hb, y3, y4, y5, y6⟩
  replace x1 := x1.next hb
  replace B1 := below_then B1 hb B1.size
  have hxl : xs.length ≤ 100 := by omega
  have hyl : ys.length ≤ 100 := by omega
  have HXY : Hid ((∀ x, hasL (crossL xs ys) x = (hasL a x && hasL b x)) ∧ ∀ r ∈ crossL xs ys, RgOk r) := ⟨fun x => by rw [cross_has, x5, y5], cross_ok x4 y4⟩
  clear hb hnb x3 x4 x5 x6 y3 y4 y5 y6 hca hcb
  go_wp2
  go_loopw [7, 8] (fun l i wr => ∃ k : Nat, i = .int .i64 k ∧ k ≤ xs.length ∧ OwnR w2.heap.size (crossL (xs.take k) ys) l wr ∧ Below w2.heap.size w2 wr) (fun _ i _ => xs.length - (intOf i).toNat)
  case atStart => exact ⟨0, rfl, Nat.zero_le _, OwnR.nil _ _, Below.refl _ _⟩
  case round =>
    obtain ⟨k, rfl, hk, hO, B2⟩ := hrel
    by_cases hlt : k < xs.length
    · obtain ⟨b1, o1, rfl, c0, c1⟩ := x1.at B2 hlt
      have HS : Hid (crossL (xs.take (k + 1)) ys = crossL (xs.take k) ys ++ ys.map (cutX xs[k])) := by
        show _ = _
        rw [List.take_succ_eq_append_getElem hlt]
        simp only [crossL, List.flatMap_append, List.flatMap_cons, List.flatMap_nil, List.append_nil]
      have hl1 : (crossL (xs.take k) ys).length ≤ 10000 := by
        rw [cross_len, List.length_take]
        exact Nat.le_trans (Nat.mul_le_mul (show min k xs.length ≤ 100 by omega) hyl) (by decide)
      have hbl : b1 < w2.heap.size := by obtain ⟨b', o', h1, h2, _⟩ := x1 k _ (List.getElem?_eq_getElem hlt); cases h1; exact h2
      have cc0 := c0
      have cc1 := c1
      rw [B2.cell (p := ⟨b1, o1 + k * 2, none⟩) hbl] at cc0
      rw [B2.cell (p := ⟨b1, o1 + k * 2 + 1, none⟩) hbl] at cc1
      have HX1 : Hid (RgAt xs (some ⟨b1, o1, none⟩) w2) := x1
      clear x1
      generalize xs[k] = r at *
      generalize crossL (xs.take k) ys = P at *
      obtain ⟨r0, r1⟩ := r
      simp only at c0 c1 cc0 cc1
      go_wp2
      go_loopw [7, 9] (fun l i wr => ∃ m : Nat, i = .int .i64 m ∧ m ≤ ys.length ∧ OwnR w2.heap.size (P ++ (ys.take m).map (cutX (r0, r1))) l wr ∧ Below w2.heap.size w2 wr) (fun _ i _ => ys.length - (intOf i).toNat)
      case atStart => exact ⟨0, rfl, Nat.zero_le _, by simpa using hO, B2⟩
      case round =>
        clear hO B2 c0 c1
        obtain ⟨m, rfl, hm, hO, B2⟩ := hrel
        by_cases hlt2 : m < ys.length
        · obtain ⟨b2, o2, rfl, d0, d1⟩ := y1.at B2 hlt2
          have hbl2 : b2 < w2.heap.size := by obtain ⟨b', o', h1, h2, _⟩ := y1 m _ (List.getElem?_eq_getElem hlt2); cases h1; exact h2
          have c0 : wr.cell? ⟨b1, o1 + k * 2, none⟩ = some (.int .i64 r0) := (B2.cell (p := ⟨b1, o1 + k * 2, none⟩) hbl).trans cc0
          have c1 : wr.cell? ⟨b1, o1 + k * 2 + 1, none⟩ = some (.int .i64 r1) := (B2.cell (p := ⟨b1, o1 + k * 2 + 1, none⟩) hbl).trans cc1
          have HS2 : Hid (P ++ (ys.take (m + 1)).map (cutX (r0, r1)) = (P ++ (ys.take m).map (cutX (r0, r1))) ++ [cutX (r0, r1) ys[m]]) := by
            show _ = _
            rw [List.take_succ_eq_append_getElem hlt2]
            simp only [List.map_append, List.map_cons, List.map_nil, List.append_assoc]
          have hl2 : (P ++ (ys.take m).map (cutX (r0, r1))).length ≤ 10100 := by simp only [List.length_append, List.length_map, List.length_take]; omega
          generalize ys[m] = s at *
          generalize P ++ (ys.take m).map (cutX (r0, r1)) = R at *
          obtain ⟨s0, s1⟩ := s
          simp only at d0 d1
          obtain ⟨M0, hM0⟩ : ∃ M0, max r0 s0 = M0 := ⟨_, rfl⟩
          obtain ⟨M1, hM1⟩ : ∃ M1, min r1 s1 = M1 := ⟨_, rfl⟩
          have HM : Hid (cutX (r0, r1) (s0, s1) = (M0, M1)) := by show _ = _; rw [cutX, hM0, hM1]
          obtain ⟨lo, lc, rfl, _, _⟩ := OwnR.at_ hO
          have hsz : w2.heap.size ≤ wr.heap.size := B2.size
          have hb1 : b1 < wr.heap.size := by omega
          have hb2 : b2 < wr.heap.size := by omega
          have HY1 : Hid (RgAt ys (some ⟨b2, o2, none⟩) w2) := y1
          clear y1
          have hOa : (wr.alloc (.cells #[.int .i64 M0, .int .i64 M1] 29)).drew.ownsRow w2.heap.size 29 2 (.slice lo R.length lc) R.length (R.flatMap encR) := (World.ownsRow.alloc hO _).drew
          have hnw : ∀ (j : Nat) (u : Value), (encR (M0, M1))[j]? = some u → (wr.alloc (.cells #[.int .i64 M0, .int .i64 M1] 29)).drew.cell? ((⟨wr.heap.size, 0, none⟩ : Addr).add j) = some u := cells2 (M0, M1) wr 29
          have hbs : w2.heap.size ≤ (wr.alloc (.cells #[.int .i64 M0, .int .i64 M1] 29)).drew.heap.size := by show _ ≤ (wr.alloc _).heap.size; simp; omega
          have q0 : (wr.alloc (.cells #[.int .i64 M0, .int .i64 M1] 29)).drew.cell? ⟨b1, o1 + k * 2, none⟩ = some (.int .i64 r0) := (World.cell?_of_block (Below.heap_alloc wr _ b1 hb1)).trans c0
          have q1 : (wr.alloc (.cells #[.int .i64 M0, .int .i64 M1] 29)).drew.cell? ⟨b1, o1 + k * 2 + 1, none⟩ = some (.int .i64 r1) := (World.cell?_of_block (Below.heap_alloc wr _ b1 hb1)).trans c1
          have q2 : (wr.alloc (.cells #[.int .i64 M0, .int .i64 M1] 29)).drew.cell? ⟨b2, o2 + m * 2, none⟩ = some (.int .i64 s0) := (World.cell?_of_block (Below.heap_alloc wr _ b2 hb2)).trans d0
          have q3 : (wr.alloc (.cells #[.int .i64 M0, .int .i64 M1] 29)).drew.cell? ⟨b2, o2 + m * 2 + 1, none⟩ = some (.int .i64 s1) := (World.cell?_of_block (Below.heap_alloc wr _ b2 hb2)).trans d1
          have HQ : Hid (∀ {w5 : World}, (wr.alloc (.cells #[.int .i64 M0, .int .i64 M1] 29)).drew.grownBy w5 (Value.slice lo R.length lc).ownBlock → w5.cell? ⟨b1, o1 + k * 2, none⟩ = some (.int .i64 r0) ∧ w5.cell? ⟨b1, o1 + k * 2 + 1, none⟩ = some (.int .i64 r1) ∧ w5.cell? ⟨b2, o2 + m * 2, none⟩ = some (.int .i64 s0) ∧ w5.cell? ⟨b2, o2 + m * 2 + 1, none⟩ = some (.int .i64 s1)) := fun hg =>
            ⟨(far_cell hOa hg (p := ⟨b1, o1 + k * 2, none⟩) hbl hbs).trans q0, (far_cell hOa hg (p := ⟨b1, o1 + k * 2 + 1, none⟩) hbl hbs).trans q1, (far_cell hOa hg (p := ⟨b2, o2 + m * 2, none⟩) hbl2 hbs).trans q2, (far_cell hOa hg (p := ⟨b2, o2 + m * 2 + 1, none⟩) hbl2 hbs).trans q3⟩
          clear q0 q1 q2 q3
          go_wp2
          go_region_held3 (fun w' => w'.cell? ⟨b1, o1 + k * 2, none⟩ = some (.int .i64 r0) ∧ w'.cell? ⟨b1, o1 + k * 2 + 1, none⟩ = some (.int .i64 r1) ∧ w'.cell? ⟨b2, o2 + m * 2, none⟩ = some (.int .i64 s0) ∧ w'.cell? ⟨b2, o2 + m * 2 + 1, none⟩ = some (.int .i64 s1)) (first | go_keep | exact HQ.out (by assumption)) ((refine step_append_lies _ (by rfl) _ _ _ (by rfl) w2.heap.size 29 i0 _ 2 16 Try.underlying22 hi hz0 hz1 hz2 (by rfl) (by decide) _ _ _ (by rfl) hOa ⟨wr.heap.size, 0, none⟩ 1 1 (encR (M0, M1)) (by rfl) (by rfl) hnw (encR_one _) (by decide) (by unfold maxLen; omega) (by omega) hbs _ (by rfl) ?_; intro g cap' w5 hown5 hgrow5 hat5 hlt5))
          all_goals
            have hO5 : OwnR w2.heap.size (R ++ [(M0, M1)]) (.slice (some ⟨g, 0, none⟩) (R.length + 1) cap') w5 := OwnR.snoc hown5
            have B5 : Below w2.heap.size w2 w5 := ((B2.alloc hsz _).drew).grown hgrow5 hbs (fun k e => (hOa.lt k e).1)
            clear hown5 hgrow5 hOa hnw hO c0 c1 d0 d1
            go_wp2
            exact ⟨⟨m + 1, by go_num, by omega, by rw [HS2.out, HM.out]; exact hO5, B5⟩, by simp [intOf]; omega⟩
        · have hT : ys.take m = ys := List.take_of_length_le (by omega)
          rw [hT, ← HS.out] at hO
          clear hT
          go_wp2
          exact ⟨⟨k + 1, by go_num, by omega, hO, B2⟩, by simp [intOf]; omega⟩
    · have hT : xs.take k = xs := List.take_of_length_le (by omega)
      rw [hT] at hO
      obtain ⟨lo, lc, rfl, hl2, _⟩ := OwnR.at_ hO
      have hlen : (crossL xs ys).length ≤ 10000 := by rw [cross_len]; exact Nat.mul_le_mul hxl hyl
      have hB := below_then B1 B2 B1.size
      have hn := rnorm_any (crossL xs ys) lo lc wr hl2 HXY.out.2 (by omega)
      have hcc := List.countP_le_length (p := nonE) (l := crossL xs ys)
      clear hO hl2 hT B2
      go_wp2_with fail
      refine hn.mono ?_
      rintro e w3 ⟨_, ro, rc, rs, rfl, z1, hb, z3, z4, z5, z6⟩
      have hB3 := below_then hB hb hB.size
      have HZ : Hid (RgAt rs ro w3 ∧ Fit rs ∧ (∀ r ∈ rs, RgOk r) ∧ (∀ x, hasL rs x = (hasL a x && hasL b x)) ∧ rs.length ≤ 10000) := ⟨z1, z3, z4, fun x => by rw [z5]; exact HXY.out.1 x, by omega⟩
      clear hb z1 z3 z4 z5 z6 hn hcc hlen
      go_wp2
      go_ret
      exact ⟨trivial, ro, rc, rs, rfl, HZ.out.1, hB3, HZ.out.2.1, HZ.out.2.2.1, HZ.out.2.2.2.1, HZ.out.2.2.2.2⟩
end Go.Proofs.Ytdkgeeimhjffdaa
