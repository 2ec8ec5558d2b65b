/- Split of the document: the parts that a range within has, and their normal form. -/
import Derived.Test.YtdkgeeimhjffdaaSplitMath
import Derived.Test.YtdkgeeimhjffdaaRefMeet
namespace Go.Proofs.Ytdkgeeimhjffdaa
open Go.RowKit Go.Shelf
attribute [local go_sem ↓] Go.wp_at_zero Go.wp_at_succ

theorem partsL_snoc : ∀ (es : List Rg) (T : Int) (j : Nat) (hj : j < es.length), ∃ n, (partsL T es).take (j + 1) = (partsL T es).take j ++ [(n, es[j])] ∧ n = T + sizeN (es.take j)
  | r :: t, T, 0, _ => ⟨T, by simp [partsL], by simp [sizeN]⟩
  | r :: t, T, j + 1, hj => by
    obtain ⟨n, h1, h2⟩ := partsL_snoc t (T + (r.2 - r.1)) j (by simpa using hj)
    refine ⟨n, ?_, ?_⟩
    · simp only [partsL, List.take_succ_cons, List.cons_append]
      rw [h1]
      simp
    · rw [h2]
      simp only [List.take_succ_cons, sizeN]
      omega

theorem sizeN_snoc : ∀ (a : List Rg) (r : Rg), sizeN (a ++ [r]) = sizeN a + (r.2 - r.1)
  | [], r => by simp [sizeN]
  | q :: t, r => by
    have := sizeN_snoc t r
    simp only [List.cons_append, sizeN]
    omega

set_option maxRecDepth 100000 in
set_option maxHeartbeats 4000000 in
theorem rsplit_any (es : List Rg) (ao : Option Addr) (cap : Nat) (x : Rg) (w : World) (hc : RgAt es ao w) (hf : Fit es) (ho : ∀ r ∈ es, RgOk r) (hl : es.length ≤ 1000) (hx : RgOk x) :
    Calls Try.prog 30 #[.slice ao es.length cap, .agg #[.int .i64 x.1, .int .i64 x.2]] w fun e w' => GivesSet True e w w' (fun z => hasL (splitR x es) z) 1000 := by
  obtain ⟨i0, hi, hz0, hz1, hz2⟩ := info_parts info29
  obtain ⟨x0, x1⟩ := x
  simp only
  obtain ⟨F, hF⟩ : ∃ F, max x0 0 = F := ⟨_, rfl⟩
  have HF : Hid (max x0 0 = F) := hF
  have hF0 : 0 ≤ F := by omega
  have hxx := hx
  unfold RgOk at hxx
  simp only at hxx
  have hF1 : F ≤ 9223372036854775807 := by omega
  have hx1 : x1 ≤ 9223372036854775807 := by omega
  have HOK : Hid (∀ r ∈ splitR (x0, x1) es, RgOk r) := by
    intro r hr
    obtain ⟨y, hy, rfl⟩ := List.mem_map.1 hr
    exact cutV_ok hf ho hy
  have HLen : Hid ((splitR (x0, x1) es).length = es.length) := by show _ = _; rw [splitR, List.length_map, partsL_len]
  clear hxx hx
  go_enter Try.func30, Try.ntmps30
  go_wp2
  obtain ⟨W1, hW1⟩ : ∃ W1, w.alloc (Obj.cells #[Value.int IntKind.i64 x0, Value.int IntKind.i64 x1] 29) = W1 := ⟨_, rfl⟩
  have hs1 : W1.heap.size = w.heap.size + 1 := by rw [← hW1]; simp
  have hb1 : Below w.heap.size w W1 := by rw [← hW1]; exact (Below.refl _ _).alloc (Nat.le_refl _) _
  have hq0 : W1.cell? ⟨w.heap.size, 0, none⟩ = some (.int .i64 x0) := by rw [← hW1]; simp
  have hq1 : W1.cell? ⟨w.heap.size, 1, none⟩ = some (.int .i64 x1) := by rw [← hW1]; simp
  have HS1 : Hid (W1.heap.size = w.heap.size + 1) := hs1
  rw [hW1]
  clear hW1 hs1
  go_loopw [5, 6, 8] (fun l t i wr => ∃ (T : Int) (j : Nat), t = .int .i64 T ∧ i = .int .i64 j ∧ j ≤ es.length ∧ T = sizeN (es.take j) ∧ OwnR W1.heap.size (((partsL 0 es).take j).map (cutV (x0, x1))) l wr ∧ Below W1.heap.size W1 wr) (fun _ _ i _ => es.length - (intOf i).toNat)
  case atStart => exact ⟨0, 0, rfl, rfl, Nat.zero_le _, by simp [sizeN], by simpa using OwnR.nil _ _, Below.refl _ _⟩
  case round =>
    obtain ⟨T, j, rfl, rfl, hj, hT, hO, B2⟩ := hrel
    by_cases hlt : j < es.length
    · obtain ⟨n, hn1, hn2⟩ := partsL_snoc es 0 j hlt
      obtain rfl : n = T := by rw [hn2, hT]; omega
      have hmem : (n, es[j]) ∈ partsL 0 es := List.mem_of_mem_take (i := j + 1) (by rw [hn1]; simp)
      obtain ⟨k1, k2, k3⟩ := partsL_ok (M := 9223372036854775807) hf (Int.le_refl _) (by have := sizeN_max hf ho; omega) _ hmem
      have h0 := hf.1 _ k3
      have hok := ho _ k3
      have HT : Hid (sizeN (es.take (j + 1)) = n + (es[j].2 - es[j].1)) := by
        show _ = _
        rw [List.take_succ_eq_append_getElem hlt, sizeN_snoc, hT]
      have HS : Hid (((partsL 0 es).take (j + 1)).map (cutV (x0, x1)) = ((partsL 0 es).take j).map (cutV (x0, x1)) ++ [cutV (x0, x1) (n, es[j])]) := by
        show _ = _
        rw [hn1]
        simp only [List.map_append, List.map_cons, List.map_nil]
      have hRl : (((partsL 0 es).take j).map (cutV (x0, x1))).length ≤ 1000 := by simp only [List.length_map, List.length_take, partsL_len]; omega
      obtain ⟨b1, o1, rfl, c0, c1⟩ := hc.at (below_then hb1 B2 hb1.size) hlt
      have hbl : b1 < W1.heap.size := by obtain ⟨b', o', e1, e2, _⟩ := hc j _ (List.getElem?_eq_getElem hlt); cases e1; rw [HS1.out]; omega
      have hsz : W1.heap.size ≤ wr.heap.size := B2.size
      have hbw : b1 < wr.heap.size := by omega
      have d0 : wr.cell? ⟨w.heap.size, 0, none⟩ = some (.int .i64 x0) := (B2.cell (p := ⟨w.heap.size, 0, none⟩) (by show w.heap.size < W1.heap.size; rw [HS1.out]; omega)).trans hq0
      have d1 : wr.cell? ⟨w.heap.size, 1, none⟩ = some (.int .i64 x1) := (B2.cell (p := ⟨w.heap.size, 1, none⟩) (by show w.heap.size < W1.heap.size; rw [HS1.out]; omega)).trans hq1
      unfold RgOk at hok
      have HC : Hid (RgAt es (some ⟨b1, o1, none⟩) w) := hc
      have HN : Hid (n = sizeN (es.take j)) := hT
      clear hT hn1 hn2 hmem k3 hc hf ho
      generalize es[j] = r at *
      generalize ((partsL 0 es).take j).map (cutV (x0, x1)) = R at *
      obtain ⟨r0, r1⟩ := r
      simp only at c0 c1 h0 hok k1 k2
      obtain ⟨lo, lc, rfl, _, _⟩ := OwnR.at_ hO
      obtain ⟨L, hL⟩ : ∃ L, r1 - r0 = L := ⟨_, rfl⟩
      have HL : Hid (r1 - r0 = L) := hL
      have hL0 : 0 < L := by omega
      have hL1 : n + L ≤ 9223372036854775807 := by omega
      obtain ⟨A, hA⟩ : ∃ A, max (F - n) 0 = A := ⟨_, rfl⟩
      have HA : Hid (max (F - n) 0 = A) := hA
      have hA0 : 0 ≤ A := by omega
      clear hF
      obtain ⟨m, hm⟩ : ∃ m, min A L = m := ⟨_, rfl⟩
      have hm0 : 0 ≤ m := by omega
      have hm1 : m ≤ L := by omega
      have hrL : r0 + L ≤ 9223372036854775807 := by omega
      have HMM : Hid (min A L = m) := hm
      by_cases hx2 : x1 ≤ n
      · have HB : Hid (cutB (x0, x1) (n, (r0, r1)) = 0) := by show _ = _; rw [cutB, if_pos hx2]
        go_wp2
        go_quiet (fail)
        go_wp2
        obtain ⟨w6, hw6⟩ : ∃ w6, wr.drewN nq = w6 := ⟨_, rfl⟩
        have B6 : Below W1.heap.size W1 w6 := by rw [← hw6]; exact below_drewN B2 nq
        have hO6 : OwnR W1.heap.size R (.slice lo R.length lc) w6 := by rw [← hw6]; exact OwnR.kept (row := none) hO ⟨rfl, rfl, rfl, Nat.le_refl _, fun _ _ _ => rfl⟩ (fun _ e => by cases e)
        have c6 : w6.cell? ⟨b1, o1 + j * 2, none⟩ = some (.int .i64 r0) := by rw [← hw6]; simpa using c0
        have hsz6 : W1.heap.size ≤ w6.heap.size := B6.size
        have hbw6 : b1 < w6.heap.size := by omega
        have HM : Hid (cutV (x0, x1) (n, r0, r1) = (r0 + m, r0)) := by show _ = _; rw [cutV, HB.out]; simp only; rw [HF.out, HL.out, HA.out, HMM.out]; simp
        have hw0 : IntKind.i64.wrap (r0 + m) = r0 + m := IntWalk.i64_in _ (by omega)
        have hw1 : IntKind.i64.wrap (r0) = r0 := IntWalk.i64_in _ (by omega)
        rw [hw6]
        clear hw6 hO c0 c1 B2 d0 d1 HF HB
        have hOa : (w6.alloc (.cells #[.int .i64 (r0 + m), .int .i64 (r0)] 29)).drew.ownsRow W1.heap.size 29 2 (.slice lo R.length lc) R.length (R.flatMap encR) := (World.ownsRow.alloc hO6 _).drew
        have hnw : ∀ (k : Nat) (u : Value), (encR (r0 + m, r0))[k]? = some u → (w6.alloc (.cells #[.int .i64 (r0 + m), .int .i64 (r0)] 29)).drew.cell? ((⟨w6.heap.size, 0, none⟩ : Addr).add k) = some u := cells2 (r0 + m, r0) w6 29
        have hbs : W1.heap.size ≤ (w6.alloc (.cells #[.int .i64 (r0 + m), .int .i64 (r0)] 29)).drew.heap.size := by show _ ≤ (w6.alloc _).heap.size; simp; omega
        have q0 : (w6.alloc (.cells #[.int .i64 (r0 + m), .int .i64 (r0)] 29)).drew.cell? ⟨b1, o1 + j * 2, none⟩ = some (.int .i64 r0) := (World.cell?_of_block (Below.heap_alloc w6 _ b1 hbw6)).trans c6
        have HQ : Hid (∀ {w5 : World}, (w6.alloc (.cells #[.int .i64 (r0 + m), .int .i64 (r0)] 29)).drew.grownBy w5 (Value.slice lo R.length lc).ownBlock → w5.cell? ⟨b1, o1 + j * 2, none⟩ = some (.int .i64 r0)) := fun hg => (far_cell hOa hg (p := ⟨b1, o1 + j * 2, none⟩) hbl hbs).trans q0
        clear q0
        go_region_held3 (fun w' => w'.cell? ⟨b1, o1 + j * 2, none⟩ = some (.int .i64 r0)) (first | exact HQ.out (by assumption) | (go_keep; done)) ((refine step_append_lies _ (by rfl) _ _ _ (by rfl) W1.heap.size 29 i0 _ 2 16 Try.underlying22 hi hz0 hz1 hz2 (by rfl) (by decide) _ _ _ (by rfl) hOa ⟨w6.heap.size, 0, none⟩ 1 1 (encR (r0 + m, r0)) (by rfl) (by rfl) hnw (encR_one _) (by decide) (by unfold maxLen; omega) (by omega) hbs _ (by rfl) ?_; intro g cap' w5 hown5 hgrow5 hat5 hlt5))
        all_goals
          have hO5 : OwnR W1.heap.size (R ++ [(r0 + m, r0)]) (.slice (some ⟨g, 0, none⟩) (R.length + 1) cap') w5 := OwnR.snoc hown5
          have B5 : Below W1.heap.size W1 w5 := ((B6.alloc hsz6 _).drew).grown hgrow5 hbs (fun k e => (hOa.lt k e).1)
          clear hown5 hgrow5 hOa hnw hO6 c6
          go_wp2
          exact ⟨⟨n + L, j + 1, by go_num, by go_num, by omega, by rw [HT.out, HL.out], by rw [HS.out, HM.out]; exact hO5, B5⟩, by simp [intOf]; omega⟩
      · by_cases hx3 : x1 - n < L
        · have HB : Hid (cutB (x0, x1) (n, (r0, r1)) = x1 - n) := by show _ = _; rw [cutB, if_neg hx2]; simp only; rw [hL, if_pos hx3]
          obtain ⟨D, hD⟩ : ∃ D, x1 - n = D := ⟨_, rfl⟩
          obtain ⟨D1, hD1⟩ : ∃ D1, max D 0 = D1 := ⟨_, rfl⟩
          have hD2 : 0 ≤ D1 := by omega
          have hD3 : D1 ≤ L := by omega
          rw [hD] at hx3 HB
          have HD : Hid (max D 0 = D1) := hD1
          go_wp2
          go_quiet (fail)
          go_wp2
          obtain ⟨w6, hw6⟩ : ∃ w6, wr.drewN nq = w6 := ⟨_, rfl⟩
          have B6 : Below W1.heap.size W1 w6 := by rw [← hw6]; exact below_drewN B2 nq
          have hO6 : OwnR W1.heap.size R (.slice lo R.length lc) w6 := by rw [← hw6]; exact OwnR.kept (row := none) hO ⟨rfl, rfl, rfl, Nat.le_refl _, fun _ _ _ => rfl⟩ (fun _ e => by cases e)
          have c6 : w6.cell? ⟨b1, o1 + j * 2, none⟩ = some (.int .i64 r0) := by rw [← hw6]; simpa using c0
          have hsz6 : W1.heap.size ≤ w6.heap.size := B6.size
          have hbw6 : b1 < w6.heap.size := by omega
          have HM : Hid (cutV (x0, x1) (n, r0, r1) = (r0 + m, r0 + D1)) := by show _ = _; rw [cutV, HB.out]; simp only; rw [HF.out, HL.out, HA.out, HMM.out]; rw [HD.out]
          have hw0 : IntKind.i64.wrap (r0 + m) = r0 + m := IntWalk.i64_in _ (by omega)
          have hw1 : IntKind.i64.wrap (r0 + D1) = r0 + D1 := IntWalk.i64_in _ (by omega)
          rw [hw6]
          clear hw6 hO c0 c1 B2 d0 d1 HF HB
          have hOa : (w6.alloc (.cells #[.int .i64 (r0 + m), .int .i64 (r0 + D1)] 29)).drew.ownsRow W1.heap.size 29 2 (.slice lo R.length lc) R.length (R.flatMap encR) := (World.ownsRow.alloc hO6 _).drew
          have hnw : ∀ (k : Nat) (u : Value), (encR (r0 + m, r0 + D1))[k]? = some u → (w6.alloc (.cells #[.int .i64 (r0 + m), .int .i64 (r0 + D1)] 29)).drew.cell? ((⟨w6.heap.size, 0, none⟩ : Addr).add k) = some u := cells2 (r0 + m, r0 + D1) w6 29
          have hbs : W1.heap.size ≤ (w6.alloc (.cells #[.int .i64 (r0 + m), .int .i64 (r0 + D1)] 29)).drew.heap.size := by show _ ≤ (w6.alloc _).heap.size; simp; omega
          have q0 : (w6.alloc (.cells #[.int .i64 (r0 + m), .int .i64 (r0 + D1)] 29)).drew.cell? ⟨b1, o1 + j * 2, none⟩ = some (.int .i64 r0) := (World.cell?_of_block (Below.heap_alloc w6 _ b1 hbw6)).trans c6
          have HQ : Hid (∀ {w5 : World}, (w6.alloc (.cells #[.int .i64 (r0 + m), .int .i64 (r0 + D1)] 29)).drew.grownBy w5 (Value.slice lo R.length lc).ownBlock → w5.cell? ⟨b1, o1 + j * 2, none⟩ = some (.int .i64 r0)) := fun hg => (far_cell hOa hg (p := ⟨b1, o1 + j * 2, none⟩) hbl hbs).trans q0
          clear q0
          go_region_held3 (fun w' => w'.cell? ⟨b1, o1 + j * 2, none⟩ = some (.int .i64 r0)) (first | exact HQ.out (by assumption) | (go_keep; done)) ((refine step_append_lies _ (by rfl) _ _ _ (by rfl) W1.heap.size 29 i0 _ 2 16 Try.underlying22 hi hz0 hz1 hz2 (by rfl) (by decide) _ _ _ (by rfl) hOa ⟨w6.heap.size, 0, none⟩ 1 1 (encR (r0 + m, r0 + D1)) (by rfl) (by rfl) hnw (encR_one _) (by decide) (by unfold maxLen; omega) (by omega) hbs _ (by rfl) ?_; intro g cap' w5 hown5 hgrow5 hat5 hlt5))
          all_goals
            have hO5 : OwnR W1.heap.size (R ++ [(r0 + m, r0 + D1)]) (.slice (some ⟨g, 0, none⟩) (R.length + 1) cap') w5 := OwnR.snoc hown5
            have B5 : Below W1.heap.size W1 w5 := ((B6.alloc hsz6 _).drew).grown hgrow5 hbs (fun k e => (hOa.lt k e).1)
            clear hown5 hgrow5 hOa hnw hO6 c6
            go_wp2
            exact ⟨⟨n + L, j + 1, by go_num, by go_num, by omega, by rw [HT.out, HL.out], by rw [HS.out, HM.out]; exact hO5, B5⟩, by simp [intOf]; omega⟩
        · have HB : Hid (cutB (x0, x1) (n, (r0, r1)) = L) := by show _ = _; rw [cutB, if_neg hx2]; simp only; rw [if_neg (by omega), hL]
          obtain ⟨L1, hL1'⟩ : ∃ L1, max L 0 = L1 := ⟨_, rfl⟩
          have hD2 : 0 ≤ L1 := by omega
          have hD3 : L1 ≤ L := by omega
          have HD : Hid (max L 0 = L1) := hL1'
          go_wp2
          go_quiet (fail)
          go_wp2
          obtain ⟨w6, hw6⟩ : ∃ w6, wr.drewN nq = w6 := ⟨_, rfl⟩
          have B6 : Below W1.heap.size W1 w6 := by rw [← hw6]; exact below_drewN B2 nq
          have hO6 : OwnR W1.heap.size R (.slice lo R.length lc) w6 := by rw [← hw6]; exact OwnR.kept (row := none) hO ⟨rfl, rfl, rfl, Nat.le_refl _, fun _ _ _ => rfl⟩ (fun _ e => by cases e)
          have c6 : w6.cell? ⟨b1, o1 + j * 2, none⟩ = some (.int .i64 r0) := by rw [← hw6]; simpa using c0
          have hsz6 : W1.heap.size ≤ w6.heap.size := B6.size
          have hbw6 : b1 < w6.heap.size := by omega
          have HM : Hid (cutV (x0, x1) (n, r0, r1) = (r0 + m, r0 + L1)) := by show _ = _; rw [cutV, HB.out]; simp only; rw [HF.out, HL.out, HA.out, HMM.out]; rw [HD.out]
          have hw0 : IntKind.i64.wrap (r0 + m) = r0 + m := IntWalk.i64_in _ (by omega)
          have hw1 : IntKind.i64.wrap (r0 + L1) = r0 + L1 := IntWalk.i64_in _ (by omega)
          rw [hw6]
          clear hw6 hO c0 c1 B2 d0 d1 HF HB
          have hOa : (w6.alloc (.cells #[.int .i64 (r0 + m), .int .i64 (r0 + L1)] 29)).drew.ownsRow W1.heap.size 29 2 (.slice lo R.length lc) R.length (R.flatMap encR) := (World.ownsRow.alloc hO6 _).drew
          have hnw : ∀ (k : Nat) (u : Value), (encR (r0 + m, r0 + L1))[k]? = some u → (w6.alloc (.cells #[.int .i64 (r0 + m), .int .i64 (r0 + L1)] 29)).drew.cell? ((⟨w6.heap.size, 0, none⟩ : Addr).add k) = some u := cells2 (r0 + m, r0 + L1) w6 29
          have hbs : W1.heap.size ≤ (w6.alloc (.cells #[.int .i64 (r0 + m), .int .i64 (r0 + L1)] 29)).drew.heap.size := by show _ ≤ (w6.alloc _).heap.size; simp; omega
          have q0 : (w6.alloc (.cells #[.int .i64 (r0 + m), .int .i64 (r0 + L1)] 29)).drew.cell? ⟨b1, o1 + j * 2, none⟩ = some (.int .i64 r0) := (World.cell?_of_block (Below.heap_alloc w6 _ b1 hbw6)).trans c6
          have HQ : Hid (∀ {w5 : World}, (w6.alloc (.cells #[.int .i64 (r0 + m), .int .i64 (r0 + L1)] 29)).drew.grownBy w5 (Value.slice lo R.length lc).ownBlock → w5.cell? ⟨b1, o1 + j * 2, none⟩ = some (.int .i64 r0)) := fun hg => (far_cell hOa hg (p := ⟨b1, o1 + j * 2, none⟩) hbl hbs).trans q0
          clear q0
          go_region_held3 (fun w' => w'.cell? ⟨b1, o1 + j * 2, none⟩ = some (.int .i64 r0)) (first | exact HQ.out (by assumption) | (go_keep; done)) ((refine step_append_lies _ (by rfl) _ _ _ (by rfl) W1.heap.size 29 i0 _ 2 16 Try.underlying22 hi hz0 hz1 hz2 (by rfl) (by decide) _ _ _ (by rfl) hOa ⟨w6.heap.size, 0, none⟩ 1 1 (encR (r0 + m, r0 + L1)) (by rfl) (by rfl) hnw (encR_one _) (by decide) (by unfold maxLen; omega) (by omega) hbs _ (by rfl) ?_; intro g cap' w5 hown5 hgrow5 hat5 hlt5))
          all_goals
            have hO5 : OwnR W1.heap.size (R ++ [(r0 + m, r0 + L1)]) (.slice (some ⟨g, 0, none⟩) (R.length + 1) cap') w5 := OwnR.snoc hown5
            have B5 : Below W1.heap.size W1 w5 := ((B6.alloc hsz6 _).drew).grown hgrow5 hbs (fun k e => (hOa.lt k e).1)
            clear hown5 hgrow5 hOa hnw hO6 c6
            go_wp2
            exact ⟨⟨n + L, j + 1, by go_num, by go_num, by omega, by rw [HT.out, HL.out], by rw [HS.out, HM.out]; exact hO5, B5⟩, by simp [intOf]; omega⟩
    · have hTk : (partsL 0 es).take j = partsL 0 es := List.take_of_length_le (by rw [partsL_len]; omega)
      rw [hTk] at hO
      have hO' : OwnR W1.heap.size (splitR (x0, x1) es) _ wr := hO
      obtain ⟨lo, lc, rfl, hl2, _⟩ := OwnR.at_ hO'
      have hn := rnorm_any (splitR (x0, x1) es) lo lc wr hl2 HOK.out (by rw [HLen.out]; omega)
      have hcc := List.countP_le_length (p := nonE) (l := splitR (x0, x1) es)
      have hB := below_then hb1 B2 hb1.size
      clear hO hO' hl2 hTk B2 hc
      go_wp2_with fail
      refine hn.mono ?_
      rintro e w3 ⟨_, ro, rc, rs, rfl, z1, hb, z3, z4, z5, z6⟩
      have hB3 := below_then hB hb hB.size
      have HZ : Hid (RgAt rs ro w3 ∧ Fit rs ∧ (∀ r ∈ rs, RgOk r) ∧ (∀ x, hasL rs x = hasL (splitR (x0, x1) es) x) ∧ rs.length ≤ 1000) := ⟨z1, z3, z4, z5, by have := HLen.out; omega⟩
      clear hb z1 z3 z4 z5 z6 hn hcc
      go_wp2
      go_ret
      exact ⟨trivial, ro, rc, rs, rfl, HZ.out.1, hB3, HZ.out.2.1, HZ.out.2.2.1, HZ.out.2.2.2.1, HZ.out.2.2.2.2⟩
end Go.Proofs.Ytdkgeeimhjffdaa
