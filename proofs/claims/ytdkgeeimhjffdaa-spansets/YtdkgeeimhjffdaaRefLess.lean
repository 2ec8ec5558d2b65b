/- Less of the document: the normal form of what the first has without the second. -/
import Derived.Test.YtdkgeeimhjffdaaRefMeet
import Derived.Test.YtdkgeeimhjffdaaLessMath
namespace Go.Proofs.Ytdkgeeimhjffdaa
open Go.RowKit Go.Shelf
attribute [local go_sem ↓] Go.wp_at_zero Go.wp_at_succ

theorem cells4 (x y : Rg) (W : World) (t : TypeId) : ∀ (j : Nat) (u : Value), (encR x ++ encR y)[j]? = some u → (W.alloc (.cells #[.int .i64 x.1, .int .i64 x.2, .int .i64 y.1, .int .i64 y.2] t)).cell? ((⟨W.heap.size, 0, none⟩ : Addr).add j) = some u := by
  intro j u hj
  rw [add_plain]
  match j, hj with
  | 0, hj => simpa [encR] using hj
  | 1, hj => simpa [encR] using hj
  | 2, hj => simpa [encR] using hj
  | 3, hj => simpa [encR] using hj
  | j + 4, hj => simp [encR] at hj
theorem encR_two (x y : Rg) : ∀ u ∈ encR x ++ encR y, u.oneCell' = true := fun u hu => (List.mem_append.1 hu).elim (encR_one x u) (encR_one y u)
theorem OwnR.snoc2 {B : Nat} {rs : List Rg} {x y : Rg} {v : Value} {W : World} (h : W.ownsRow B 29 2 v (rs.length + 2) (rs.flatMap encR ++ (encR x ++ encR y))) : OwnR B (rs ++ [x, y]) v W := by
  unfold OwnR
  simpa using h

set_option maxRecDepth 100000 in
set_option maxHeartbeats 4000000 in
theorem rless_any (a b : List Rg) (ao bo : Option Addr) (cap dap : Nat) (w : World) (hoa : ∀ r ∈ a, RgOk r) (hob : ∀ r ∈ b, RgOk r) (hla : a.length ≤ 100) (hlb : b.length ≤ 100) (ha : RgAt a ao w) (hb : RgAt b bo w) :
    Calls Try.prog 20 #[.slice ao a.length cap, .slice bo b.length dap] w fun e w' => GivesSet True e w w' (fun x => hasL a x && !hasL b x) 10000 := by
  obtain ⟨i0, hi, hz0, hz1, hz2⟩ := info_parts info29
  have hna := rnorm_any a ao cap w ha hoa (by omega)
  have hnb := fun W (h : Below w.heap.size w W) => rnorm_any b bo dap W (hb.next h) hob (by omega)
  have hca := List.countP_le_length (p := nonE) (l := a)
  have hcb := List.countP_le_length (p := nonE) (l := b)
  clear ha hb hoa hob
  go_enter Try.func20, Try.ntmps20
  go_wp2_with fail
  refine hna.mono ?_
  rintro e w1 ⟨_, xo, xc, xs, rfl, x1, B1, x3, x4, x5, x6⟩
  clear hna
  go_wp2_with fail
  refine (hnb _ B1).mono ?_
  rintro e w2 ⟨_, yo, yc, ys, rfl, y1, hb, y3, y4, y5, y6⟩
  replace x1 := x1.next hb
  replace B1 := below_then B1 hb B1.size
  have hxl : xs.length ≤ 100 := by omega
  have hyl : ys.length ≤ 100 := by omega
  have HY : Hid (Fit ys ∧ (∀ r ∈ ys, RgOk r) ∧ ∀ x, hasL ys x = hasL b x) := ⟨y3, y4, y5⟩
  have HX0 : Hid (RgAt xs xo w2 ∧ Fit xs ∧ (∀ r ∈ xs, RgOk r) ∧ ∀ x, hasL xs x = hasL a x) := ⟨x1, x3, x4, x5⟩
  clear hb hnb x1 x3 x4 x5 x6 y3 y4 y5 y6 hca hcb
  go_wp2
  go_loopw [5, 7] (fun l i wr => ∃ (k : Nat) (left : List Rg) (lo : Option Addr) (lc : Nat), i = .int .i64 k ∧ k ≤ ys.length ∧ l = .slice lo left.length lc ∧ RgAt left lo wr ∧ Fit left ∧ (∀ r ∈ left, RgOk r) ∧ (∀ x, hasL left x = (hasL a x && !hasL (ys.take k) x)) ∧ left.length ≤ 100 + k ∧ Below w2.heap.size w2 wr) (fun _ i _ => ys.length - (intOf i).toNat)
  case atStart => exact ⟨0, xs, xo, xc, rfl, Nat.zero_le _, rfl, HX0.out.1, HX0.out.2.1, HX0.out.2.2.1, fun x => by rw [HX0.out.2.2.2]; simp [hasL_nil], by omega, Below.refl _ _⟩
  case round =>
    obtain ⟨k, left, lo, lc, rfl, hk, rfl, hL, hF, hOk, hH, hLn, B2⟩ := hrel
    by_cases hlt : k < ys.length
    · obtain ⟨b1, o1, rfl, c0, c1⟩ := y1.at B2 hlt
      have hs := HY.out.1.1 _ (List.getElem_mem hlt)
      have hsok := HY.out.2.1 _ (List.getElem_mem hlt)
      have hbl : b1 < wr.heap.size := World.block_lt_of_cell? _ _ c0
      have HT : Hid (ys.take (k + 1) = ys.take k ++ [ys[k]]) := List.take_succ_eq_append_getElem hlt
      have HY1 : Hid (RgAt ys (some ⟨b1, o1, none⟩) w2) := y1
      clear y1
      generalize ys[k] = s at *
      obtain ⟨s0, s1⟩ := s
      simp only at c0 c1
      -- what this round makes
      have HC : Hid ((∀ r ∈ cutL left (s0, s1), RgOk r) ∧ (cutL left (s0, s1)).countP nonE ≤ left.length + 1 ∧ (∀ x, hasL (cutL left (s0, s1)) x = (hasL a x && !hasL (ys.take (k + 1)) x))) := ⟨cut_ok hOk hsok, cut_cnt hs.2 hF, fun x => by
        rw [cut_has, hH, HT.out, hasL_append, hasL_cons, hasL_nil, Bool.or_false]
        cases hasL a x <;> cases hasL (ys.take k) x <;> simp⟩
      have HB2 : Hid (Below w2.heap.size w2 wr) := B2
      have hsz2 : w2.heap.size ≤ wr.heap.size := B2.size
      clear hF hOk hH hs hsok B2
      generalize wr = Wi at *
      go_wp2
      go_loopw [8, 9] (fun l i wr => ∃ m : Nat, i = .int .i64 m ∧ m ≤ left.length ∧ OwnR Wi.heap.size (cutL (left.take m) (s0, s1)) l wr ∧ Below Wi.heap.size Wi wr) (fun _ i _ => left.length - (intOf i).toNat)
      case atStart => exact ⟨0, rfl, Nat.zero_le _, OwnR.nil _ _, Below.refl _ _⟩
      case round =>
        obtain ⟨m, rfl, hm, hO, B3⟩ := hrel
        by_cases hlt2 : m < left.length
        · obtain ⟨b2, o2, rfl, d0, d1⟩ := hL.at B3 hlt2
          have hbl2 : b2 < Wi.heap.size := by obtain ⟨b', o', h1, h2, _⟩ := hL m _ (List.getElem?_eq_getElem hlt2); cases h1; exact h2
          have e0 : wr.cell? ⟨b1, o1 + k * 2, none⟩ = some (.int .i64 s0) := (B3.cell (p := ⟨b1, o1 + k * 2, none⟩) hbl).trans c0
          have e1 : wr.cell? ⟨b1, o1 + k * 2 + 1, none⟩ = some (.int .i64 s1) := (B3.cell (p := ⟨b1, o1 + k * 2 + 1, none⟩) hbl).trans c1
          have HS2 : Hid (cutL (left.take (m + 1)) (s0, s1) = cutL (left.take m) (s0, s1) ++ lessP (s0, s1) left[m]) := by
            show _ = _
            rw [List.take_succ_eq_append_getElem hlt2]
            simp only [cutL, List.flatMap_append, List.flatMap_cons, List.flatMap_nil, List.append_nil]
          have hl2 : (cutL (left.take m) (s0, s1)).length ≤ 400 := by rw [cut_len, List.length_take]; omega
          generalize left[m] = r at *
          generalize cutL (left.take m) (s0, s1) = R at *
          obtain ⟨r0, r1⟩ := r
          simp only at d0 d1
          obtain ⟨M0, hM0⟩ : ∃ M0, max r0 s1 = M0 := ⟨_, rfl⟩
          obtain ⟨M1, hM1⟩ : ∃ M1, min r1 s0 = M1 := ⟨_, rfl⟩
          have HM : Hid (lessP (s0, s1) (r0, r1) = [(r0, M1), (M0, r1)]) := by show _ = _; rw [lessP, hM0, hM1]
          obtain ⟨ro, rc, rfl, _, _⟩ := OwnR.at_ hO
          have hsz : Wi.heap.size ≤ wr.heap.size := B3.size
          have hb1 : b1 < wr.heap.size := by omega
          have hb2 : b2 < wr.heap.size := by omega
          have HL1 : Hid (RgAt left (some ⟨b2, o2, none⟩) Wi) := hL
          clear hL
          have hOa : (wr.alloc (.cells #[.int .i64 r0, .int .i64 M1, .int .i64 M0, .int .i64 r1] 29)).drew.ownsRow Wi.heap.size 29 2 (.slice ro R.length rc) R.length (R.flatMap encR) := (World.ownsRow.alloc hO _).drew
          have hnw : ∀ (j : Nat) (u : Value), (encR (r0, M1) ++ encR (M0, r1))[j]? = some u → (wr.alloc (.cells #[.int .i64 r0, .int .i64 M1, .int .i64 M0, .int .i64 r1] 29)).drew.cell? ((⟨wr.heap.size, 0, none⟩ : Addr).add j) = some u := cells4 (r0, M1) (M0, r1) wr 29
          have hbs : Wi.heap.size ≤ (wr.alloc (.cells #[.int .i64 r0, .int .i64 M1, .int .i64 M0, .int .i64 r1] 29)).drew.heap.size := by show _ ≤ (wr.alloc _).heap.size; simp; omega
          have q0 : (wr.alloc (.cells #[.int .i64 r0, .int .i64 M1, .int .i64 M0, .int .i64 r1] 29)).drew.cell? ⟨b1, o1 + k * 2, none⟩ = some (.int .i64 s0) := (World.cell?_of_block (Below.heap_alloc wr _ b1 hb1)).trans e0
          have q1 : (wr.alloc (.cells #[.int .i64 r0, .int .i64 M1, .int .i64 M0, .int .i64 r1] 29)).drew.cell? ⟨b1, o1 + k * 2 + 1, none⟩ = some (.int .i64 s1) := (World.cell?_of_block (Below.heap_alloc wr _ b1 hb1)).trans e1
          have q2 : (wr.alloc (.cells #[.int .i64 r0, .int .i64 M1, .int .i64 M0, .int .i64 r1] 29)).drew.cell? ⟨b2, o2 + m * 2, none⟩ = some (.int .i64 r0) := (World.cell?_of_block (Below.heap_alloc wr _ b2 hb2)).trans d0
          have q3 : (wr.alloc (.cells #[.int .i64 r0, .int .i64 M1, .int .i64 M0, .int .i64 r1] 29)).drew.cell? ⟨b2, o2 + m * 2 + 1, none⟩ = some (.int .i64 r1) := (World.cell?_of_block (Below.heap_alloc wr _ b2 hb2)).trans d1
          have HQ : Hid (∀ {w5 : World}, (wr.alloc (.cells #[.int .i64 r0, .int .i64 M1, .int .i64 M0, .int .i64 r1] 29)).drew.grownBy w5 (Value.slice ro R.length rc).ownBlock → w5.cell? ⟨b1, o1 + k * 2, none⟩ = some (.int .i64 s0) ∧ w5.cell? ⟨b1, o1 + k * 2 + 1, none⟩ = some (.int .i64 s1) ∧ w5.cell? ⟨b2, o2 + m * 2, none⟩ = some (.int .i64 r0) ∧ w5.cell? ⟨b2, o2 + m * 2 + 1, none⟩ = some (.int .i64 r1)) := fun hg =>
            ⟨(far_cell hOa hg (p := ⟨b1, o1 + k * 2, none⟩) hbl hbs).trans q0, (far_cell hOa hg (p := ⟨b1, o1 + k * 2 + 1, none⟩) hbl hbs).trans q1, (far_cell hOa hg (p := ⟨b2, o2 + m * 2, none⟩) hbl2 hbs).trans q2, (far_cell hOa hg (p := ⟨b2, o2 + m * 2 + 1, none⟩) hbl2 hbs).trans q3⟩
          clear q0 q1 q2 q3
          go_wp2
          go_region_held3 (fun w' => w'.cell? ⟨b1, o1 + k * 2, none⟩ = some (.int .i64 s0) ∧ w'.cell? ⟨b1, o1 + k * 2 + 1, none⟩ = some (.int .i64 s1) ∧ w'.cell? ⟨b2, o2 + m * 2, none⟩ = some (.int .i64 r0) ∧ w'.cell? ⟨b2, o2 + m * 2 + 1, none⟩ = some (.int .i64 r1)) (first | go_keep | exact HQ.out (by assumption)) ((refine step_append_lies _ (by rfl) _ _ _ (by rfl) Wi.heap.size 29 i0 _ 2 16 Try.underlying22 hi hz0 hz1 hz2 (by rfl) (by decide) _ _ _ (by rfl) hOa ⟨wr.heap.size, 0, none⟩ 2 2 (encR (r0, M1) ++ encR (M0, r1)) (by rfl) (by rfl) hnw (encR_two _ _) (by decide) (by unfold maxLen; omega) (by omega) hbs _ (by rfl) ?_; intro g cap' w5 hown5 hgrow5 hat5 hlt5))
          all_goals
            have hO5 : OwnR Wi.heap.size (R ++ [(r0, M1), (M0, r1)]) (.slice (some ⟨g, 0, none⟩) (R.length + 2) cap') w5 := OwnR.snoc2 hown5
            have B5 : Below Wi.heap.size Wi w5 := ((B3.alloc hsz _).drew).grown hgrow5 hbs (fun k e => (hOa.lt k e).1)
            clear hown5 hgrow5 hOa hnw hO d0 d1 e0 e1
            go_wp2
            exact ⟨⟨m + 1, by go_num, by omega, by rw [HS2.out, HM.out]; exact hO5, B5⟩, by simp [intOf]; omega⟩
        · have hT : left.take m = left := List.take_of_length_le (by omega)
          rw [hT] at hO
          obtain ⟨no, nc, rfl, hn2, _⟩ := OwnR.at_ hO
          have hll : (cutL left (s0, s1)).length ≤ 400 := by rw [cut_len]; omega
          have hcall := rnorm_any (cutL left (s0, s1)) no nc wr hn2 HC.out.1 (by omega)
          have B4 : Below w2.heap.size w2 wr := below_then HB2.out B3 HB2.out.size
          clear hO hT hn2 B3 hL
          go_wp2_with fail
          refine hcall.mono ?_
          rintro e w6 ⟨_, ro, rc, rs, rfl, z1, hb, z3, z4, z5, z6⟩
          have B6 := below_then B4 hb B4.size
          have HZ : Hid (RgAt rs ro w6 ∧ Fit rs ∧ (∀ r ∈ rs, RgOk r) ∧ (∀ x, hasL rs x = (hasL a x && !hasL (ys.take (k + 1)) x)) ∧ rs.length ≤ 100 + (k + 1)) := ⟨z1, z3, z4, fun x => by rw [z5]; exact HC.out.2.2 x, by have := HC.out.2.1; omega⟩
          clear hb z1 z3 z4 z5 z6 hcall hll
          go_wp2
          exact ⟨⟨k + 1, rs, ro, rc, by go_num, by omega, rfl, HZ.out.1, HZ.out.2.1, HZ.out.2.2.1, HZ.out.2.2.2.1, HZ.out.2.2.2.2, B6⟩, by simp [intOf]; omega⟩
    · have HE : Hid (∀ x, hasL left x = (hasL a x && !hasL b x)) := fun x => by rw [hH, List.take_of_length_le (by omega), HY.out.2.2]
      have hB := below_then B1 B2 B1.size
      have HZ : Hid (RgAt left lo wr ∧ Fit left ∧ (∀ r ∈ left, RgOk r) ∧ left.length ≤ 10000) := ⟨hL, hF, hOk, by omega⟩
      clear hL hF hOk hH y1
      go_wp2
      go_ret
      exact ⟨trivial, lo, lc, left, rfl, HZ.out.1, hB, HZ.out.2.1, HZ.out.2.2.1, HE.out, HZ.out.2.2.2⟩
end Go.Proofs.Ytdkgeeimhjffdaa
