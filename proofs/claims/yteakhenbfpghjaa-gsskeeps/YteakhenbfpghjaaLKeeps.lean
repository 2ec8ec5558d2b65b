/- Stacks: the statement GssKeeps, walked: it tells true of every stack and all numbers. -/
import Derived.Test.YteakhenbfpghjaaKData
import Derived.Test.YteakhenbfpghjaaGFit
import Derived.Test.YteakhenbfpghjaaGFew
namespace Go.Proofs.Yteakhenbfpghjaa
open Go.RowKit

set_option maxRecDepth 100000 in
set_option maxHeartbeats 8000000 in
theorem gkeeps_any (l : List Gn) (v : Value) (node n f st pl : Int) (w : World) (hl : SlN l v w) :
    Calls Try.prog 6 #[.agg #[v], .int .i64 node, .int .i64 n, .int .i64 f, .int .i64 st, .int .i64 pl] w fun e w' => e = .returned (.bool true) ∧ Below w.heap.size w w' := by
  have HL : Hid (∀ W, Below w.heap.size w W → SlN l v W) := fun W hb => hl.next hb
  obtain ⟨la, lc, rfl, _⟩ := hl
  have B0 := below_box w (.slice la l.length lc) 24
  have k0 : (w.alloc (Obj.cells #[.slice la l.length lc] 24)).heap[w.heap.size]? = some (Obj.cells #[.slice la l.length lc] 24) := heap_alloc_new _ _
  have HC := gfew_any l _ _ (HL.out _ B0)
  go_enter Try.func6, Try.ntmps6
  go_wp2_with fail
  refine HC.mono ?_
  rintro e w1 ⟨rfl, b1⟩
  clear HC
  generalize w.alloc (Obj.cells #[.slice la l.length lc] 24) = w0 at *
  have B1 := below_then B0 b1 B0.size
  have k1 := (b1.block _ (blk_lt k0)).trans k0
  have c1 : w1.cell? ⟨w.heap.size, 0, none⟩ = some (.slice la l.length lc) := by rw [Lib.cell_of_heap k1]; rfl
  cases hfew : fewG l with
  | false =>
    have HC := awake_any w1
    have HB : Hid (Below w.heap.size w w1) := B1
    clear k0 k1 B0 b1
    go_wp2_with fail
    refine HC.mono ?_
    rintro e w2 ⟨rfl, b2⟩
    clear HC
    have HE : Hid (Below w.heap.size w w2) := below_then HB.out b2 HB.out.size
    clear b2 B1 c1 HB
    go_wp2_with fail
    go_ret
    exact ⟨rfl, HE.out⟩
  | true =>
  have HC := gfit_any l _ _ (HL.out _ B1)
  have HB : Hid (Below w.heap.size w w1) := B1
  clear B0 b1 k0
  go_wp2_with fail
  refine HC.mono ?_
  rintro e w2 ⟨rfl, b2⟩
  clear HC
  have B2 := below_then HB.out b2 HB.out.size
  have k2 := (b2.block _ (blk_lt k1)).trans k1
  have c2 : w2.cell? ⟨w.heap.size, 0, none⟩ = some (.slice la l.length lc) := by rw [Lib.cell_of_heap k2]; rfl
  clear B1 c1 k1
  cases hfit : fitG l with
  | false =>
    have HC := awake_any w2
    have HB2 : Hid (Below w.heap.size w w2) := B2
    clear k2 b2 B2
    go_wp2_with fail
    refine HC.mono ?_
    rintro e w3 ⟨rfl, b3⟩
    clear HC
    have HE : Hid (Below w.heap.size w w3) := below_then HB2.out b3 HB2.out.size
    clear b3 c2 HB HB2
    go_wp2_with fail
    go_ret
    exact ⟨rfl, HE.out⟩
  | true =>
  have HFT : Hid (fitP l) := (fitG_iff l).1 hfit
  have hlen := HFT.out.1
  have HC := paths_any l _ node n _ (HL.out _ B2) HFT.out
  have HB2 : Hid (Below w.heap.size w w2) := B2
  clear hfit hfew b2 B2 HB
  go_wp2_with fail
  refine HC.mono ?_
  rintro e w3 ⟨pv, rfl, s3, b3⟩
  clear HC
  have B3 := below_then HB2.out b3 HB2.out.size
  have k3 := (b3.block _ (blk_lt k2)).trans k2
  have c3 : w3.cell? ⟨w.heap.size, 0, none⟩ = some (.slice la l.length lc) := by rw [Lib.cell_of_heap k3]; rfl
  have HC := back_any l _ node n _ (HL.out _ B3) HFT.out
  have HB3 : Hid (Below w.heap.size w w3) := B3
  obtain ⟨ra, rc, rfl, _⟩ := id s3
  clear c2 k2 b3 B3 HB2
  go_wp2_with fail
  refine HC.mono ?_
  rintro e w4 ⟨bv, rfl, s4, b4⟩
  clear HC
  have HB4 : Hid (Below w.heap.size w w4) := below_then HB3.out b4 HB3.out.size
  have HSR : Hid (SlR (pathsF l node n).1 (.slice ra (pathsF l node n).1.length rc) w4) := s3.next b4
  have HRD : Hid (∀ r ∈ (pathsF l node n).1, ∃ m : Nat, n = m ∧ m ≤ 64 ∧ r.length = m + 1 ∧ r[0]? = some node ∧ ∃ e, r[m]? = some e ∧ e ∈ backF l node n) := row_data
  have HED : Hid ((pathsF l node n).2 = 0 → ∀ k ∈ backF l node n, ∃ r ∈ (pathsF l node n).1, ∃ m : Nat, n = m ∧ r[m]? = some k) := end_data
  have hRl := rows_few l node n
  have hKl := back_len HFT.out node n
  have HKB : Hid (∀ k ∈ backF l node n, 0 ≤ node ∧ node < l.length ∧ ∃ m : Nat, n = m ∧ m ≤ 64 ∧ k ∈ backN l m [node]) := fun k hk => by
    unfold backF at hk
    split at hk
    · rename_i hc; exact ⟨hc.1, hc.2.1, n.toNat, by omega, by omega, hk⟩
    · simp at hk
  have k4 := (b4.block _ (blk_lt k3)).trans k3
  obtain ⟨ba, bc, rfl, _⟩ := id s4
  have HSK : Hid (SlI (backF l node n) (.slice ba (backF l node n).length bc) w4) := s4
  clear s3 s4 b4 c3 k3 HB3
  generalize (pathsF l node n).2 = er at *
  generalize (pathsF l node n).1 = R at *
  obtain ⟨K, hK⟩ : ∃ K, K = backF l node n := ⟨_, rfl⟩
  rw [← hK] at HRD HED hKl HKB HSK
  rw [← hK]
  clear hK
  go_wp2_with fail
  go_loopw [51] (fun iv wr => ∃ (j : Nat), iv = .int .i64 j ∧ j ≤ R.length ∧ wr = w4) (fun i _ => R.length - (intOf i).toNat)
  case atStart => exact ⟨0, rfl, Nat.zero_le _, rfl⟩
  case round =>
  obtain ⟨j, rfl, hj, rfl⟩ := hrel
  by_cases hlt : j < R.length
  case pos =>
    obtain ⟨m, hnm, hm64, hrl, hr0, ee, hre, hek⟩ := HRD.out _ (List.getElem_mem hlt)
    subst hnm
    obtain ⟨_, _, ex, hrr, _⟩ := HSR.out
    cases ex
    obtain ⟨b5, o5, u5, rfl, hb5, p5, su⟩ := hrr.at (Below.refl _ _) hlt
    obtain ⟨ua, uc, rfl, hur, _⟩ := id su
    rw [hrl] at p5
    obtain ⟨b6, o6, e6, hb6, p6⟩ := hur 0 _ hr0
    obtain ⟨b6', o6', e6', hb6', p7⟩ := hur m _ hre
    rw [e6] at e6'
    cases e6'
    subst e6
    have HC := ghas_any K _ ee wr HSK.out (by omega)
    rw [decide_eq_true hek] at HC
    simp only [encI, Nat.add_zero] at p6 p7
    have hw1 : IntKind.i64.wrap ((m : Int) + 1) = (m : Int) + 1 := by rw [IntWalk.i64_in _ (by omega)]
    clear su hur hrr hr0 hre hek hrl
    go_wp2_with fail
    refine HC.mono ?_
    rintro e w5 ⟨rfl, rfl⟩
    clear HC
    go_wp2_with fail
    exact ⟨⟨j + 1, by go_num, by omega, trivial⟩, by simp [intOf]; omega⟩
  obtain rfl : j = R.length := by omega
  clear hlt hj
  go_upto_if 78 with fail
  go_cut [] from 19 to 103 (fun wx => wx = wr)
  case first =>
    by_cases her : er = 0
    case neg =>
      have her' : (er == 0) = false := by simpa using her
      go_wp2_with fail
      go_meet
      rfl
    subst her
    go_wp2_with fail
    go_loopw [81] (fun iv wx => ∃ (j : Nat), iv = .int .i64 j ∧ j ≤ K.length ∧ wx = wr) (fun i _ => K.length - (intOf i).toNat)
    case atStart => exact ⟨0, rfl, Nat.zero_le _, rfl⟩
    case round =>
    obtain ⟨j, rfl, hj, rfl⟩ := hrel
    by_cases hlt : j < K.length
    case neg =>
      obtain rfl : j = K.length := by omega
      go_wp2_with fail
      go_meet
      rfl
    obtain ⟨r0, hr0, m, hnm, hrm⟩ := HED.out (by first | rfl | trivial) _ (List.getElem_mem hlt)
    subst hnm
    obtain ⟨_, _, ex, hkr, _⟩ := HSK.out
    cases ex
    obtain ⟨b5, o5, rfl, hb5, p5⟩ := hkr.at (Below.refl _ _) hlt
    simp only [encI] at p5
    clear hkr
    generalize K[j] = k at *
    go_wp2_with fail
    go_loopw [20, 87] (fun fv iv wx => ∃ (i : Nat) (b : Bool), fv = .bool b ∧ iv = .int .i64 i ∧ i ≤ R.length ∧ Hid (b = true ∨ ∃ r ∈ R.drop i, r[m]? = some k) ∧ wx = wr) (fun _ i _ => R.length - (intOf i).toNat)
    case atStart => exact ⟨0, false, rfl, rfl, Nat.zero_le _, .inr ⟨r0, hr0, hrm⟩, rfl⟩
    case round =>
    obtain ⟨i, b, rfl, rfl, hi, HBR, rfl⟩ := hrel
    clear hr0 hrm
    by_cases hlt2 : i < R.length
    case neg =>
      obtain rfl : i = R.length := by omega
      obtain rfl : b = true := by
        rcases HBR.out with h | ⟨r, hr, _⟩
        · exact h
        · simp at hr
      go_wp2_with fail
      exact ⟨⟨j + 1, by go_num, by omega, trivial⟩, by simp [intOf]; omega⟩
    obtain ⟨m', hnm', hm64, hrl, _, ee, hre, _⟩ := HRD.out _ (List.getElem_mem hlt2)
    obtain rfl : m = m' := by omega
    obtain ⟨_, _, ex, hrr, _⟩ := HSR.out
    cases ex
    obtain ⟨b6, o6, u6, rfl, hb6, p6, su⟩ := hrr.at (Below.refl _ _) hlt2
    obtain ⟨ua, uc, rfl, hur, _⟩ := id su
    rw [hrl] at p6
    obtain ⟨b7, o7, rfl, hb7, p7⟩ := hur m _ hre
    simp only [encI] at p7
    have HB2 : Hid (b = true ∨ ee = k ∨ ∃ r ∈ R.drop (i + 1), r[m]? = some k) := by
      rcases HBR.out with h | ⟨r, hr, h⟩
      · exact .inl h
      · rw [List.drop_eq_getElem_cons hlt2] at hr
        rcases List.mem_cons.1 hr with e | hr
        · right; left; rw [e, hre] at h; exact Option.some.inj h
        · exact .inr (.inr ⟨r, hr, h⟩)
    clear su hur hrr hre hrl hnm' HBR
    cases b with
    | true =>
      go_wp2_with fail
      exact ⟨⟨i + 1, true, rfl, by go_num, by omega, .inl rfl, trivial⟩, by simp [intOf]; omega⟩
    | false =>
      by_cases hek : ee = k
      · have hd : (ee == k) = true := by simpa using hek
        clear hek HB2
        go_wp2_with fail
        exact ⟨⟨i + 1, true, rfl, by go_num, by omega, .inl rfl, trivial⟩, by simp [intOf]; omega⟩
      · have hd : (ee == k) = false := by simpa using hek
        have HB3 : Hid (∃ r ∈ R.drop (i + 1), r[m]? = some k) := by
          rcases HB2.out with h | h | h
          · cases h
          · exact absurd h hek
          · exact h
        clear hek HB2
        go_wp2_with fail
        exact ⟨⟨i + 1, false, rfl, by go_num, by omega, .inr HB3.out, trivial⟩, by simp [intOf]; omega⟩
  case rest =>
  obtain rfl := hcut
  clear HSR HRD HED hRl
  have c4 : wc.cell? ⟨w.heap.size, 0, none⟩ = some (.slice la l.length lc) := by rw [Lib.cell_of_heap k4]; rfl
  have HC := push_any l _ f st pl _ (HL.out _ HB4.out) HFT.out
  go_wp2_with fail
  refine HC.mono ?_
  rintro e w5 ⟨ha, hc, pp, bb, H, s, rfl, s5, hcar, b5⟩
  clear HC
  have HCAR : Hid (Carry l H s) := hcar
  have HB5 : Hid (Below w.heap.size w w5) := below_then HB4.out b5 HB4.out.size
  have k5 := (b5.block _ (blk_lt k4)).trans k4
  have HSK5 : Hid (SlI K (.slice ba K.length bc) w5) := HSK.out.next b5
  have B6 : Below w5.heap.size w5 (w5.alloc (Obj.cells #[.slice ha H.length hc] 24)) := below_box _ _ _
  have HC := gfit_any H _ _ (s5.next B6)
  rw [(fitG_iff H).2 hcar.fit] at HC
  have kh : (w5.alloc (Obj.cells #[.slice ha H.length hc] 24)).heap[w5.heap.size]? = some (Obj.cells #[.slice ha H.length hc] 24) := heap_alloc_new _ _
  have kg := (B6.block _ (blk_lt k5)).trans k5
  have HB6 : Hid (Below w.heap.size w (w5.alloc (Obj.cells #[.slice ha H.length hc] 24))) := below_then HB5.out B6 HB5.out.size
  have HSK6 : Hid (SlI K (.slice ba K.length bc) (w5.alloc (Obj.cells #[.slice ha H.length hc] 24))) := HSK5.out.next B6
  have s6 := s5.next B6
  clear hcar k4 k5 c4 b5 HSK HSK5 B6 HB4 HB5 s5
  go_wp2_with fail
  refine HC.mono ?_
  rintro e w7 ⟨rfl, b7⟩
  clear HC
  generalize w5.alloc (Obj.cells #[.slice ha H.length hc] 24) = w6 at *
  have kh7 := (b7.block _ (blk_lt kh)).trans kh
  have kg7 := (b7.block _ (blk_lt kg)).trans kg
  have HS7 : Hid (SlN H (.slice ha H.length hc) w7) := s6.next b7
  have HK7 : Hid (SlI K (.slice ba K.length bc) w7) := HSK6.out.next b7
  have HB7 : Hid (Below w.heap.size w w7) := below_then HB6.out b7 HB6.out.size
  clear kh kg HSK6 HB6 s6 b7
  generalize w5.heap.size = hb at *
  have ch7 : w7.cell? ⟨hb, 0, none⟩ = some (.slice ha H.length hc) := by rw [Lib.cell_of_heap kh7]; rfl
  have cg7 : w7.cell? ⟨w.heap.size, 0, none⟩ = some (.slice la l.length lc) := by rw [Lib.cell_of_heap kg7]; rfl
  by_cases hn0 : node < 0
  case pos =>
    have d0 : decide (node < 0) = true := by simpa using hn0
    have HC := gfit_any H _ _ HS7.out
    rw [(fitG_iff H).2 HCAR.out.fit] at HC
    go_wp2_with fail
    refine HC.mono ?_
    rintro e w8 ⟨rfl, b8⟩
    clear HC
    have HB8 : Hid (Below w.heap.size w w8) := below_then HB7.out b8 HB7.out.size
    have HC := awake_any w8
    clear b8
    go_wp2_with fail
    refine HC.mono ?_
    rintro e w9 ⟨rfl, b9⟩
    clear HC
    have HE : Hid (Below w.heap.size w w9) := below_then HB8.out b9 HB8.out.size
    clear b9
    go_wp2_with fail
    go_ret
    exact ⟨rfl, HE.out⟩
  by_cases hn1 : node ≥ l.length
  case pos =>
    have d0 : decide (node < 0) = false := by simpa using hn0
    have d1 : decide ((l.length : Int) ≤ node) = true := by simpa using hn1
    have HC := gfit_any H _ _ HS7.out
    rw [(fitG_iff H).2 HCAR.out.fit] at HC
    go_wp2_with fail
    refine HC.mono ?_
    rintro e w8 ⟨rfl, b8⟩
    clear HC
    have HB8 : Hid (Below w.heap.size w w8) := below_then HB7.out b8 HB7.out.size
    have HC := awake_any w8
    clear b8
    go_wp2_with fail
    refine HC.mono ?_
    rintro e w9 ⟨rfl, b9⟩
    clear HC
    have HE : Hid (Below w.heap.size w w9) := below_then HB8.out b9 HB8.out.size
    clear b9
    go_wp2_with fail
    go_ret
    exact ⟨rfl, HE.out⟩
  obtain ⟨k, rfl⟩ : ∃ k : Nat, node = k := ⟨node.toNat, by omega⟩
  have hkl : k < l.length := by omega
  go_upto_region 27 with fail
  have e0 : decide ((k : Int) < 0) = false := by simp
  have e1 : decide (l.length ≤ k) = false := by simp; omega
  simp only [e0, e1, Bool.or_false]
  clear e0 e1 hn0 hn1
  go_cut [26] from 132 to 148 (fun t26 wx => ∃ ma mc, t26 = .slice ma (backF H (s k) n).length mc ∧ Hid (SlI (backF H (s k) n) (.slice ma (backF H (s k) n).length mc) wx) ∧ Below w7.heap.size w7 wx)
  case first =>
    obtain ⟨_, _, ex, hgn, _⟩ := HL.out _ HB7.out
    cases ex
    obtain ⟨b2, o2, u2, rfl, hb2, q0, q1, _⟩ := hgn.at (Below.refl _ _) hkl
    have HF := (HCAR.out.find k l[k] (by omega) (by simp [hkl])).1
    generalize l[k].st = xs at *
    generalize l[k].pl = xp at *
    obtain ⟨gb, hgb⟩ : ∃ gb, gb = w.heap.size := ⟨_, rfl⟩
    rw [← hgb] at cg7 ⊢
    have HGB : Hid (gb = w.heap.size) := hgb
    clear hgn hgb
    have HS0 : w7.drew.cell? ⟨hb, 0, none⟩ = some (.slice ha H.length hc) ∧ w7.drew.cell? ⟨gb, 0, none⟩ = some (.slice (some ⟨b2, o2, none⟩) l.length lc) ∧ w7.drew.cell? ⟨b2, o2 + k * 3, none⟩ = some (.int .i64 xs) ∧ w7.drew.cell? ⟨b2, o2 + k * 3 + 1, none⟩ = some (.int .i64 xp) := ⟨ch7, cg7, q0, q1⟩
    have BD : Below w7.heap.size w7 w7.drew := below_drewN (Below.refl _ _) 1
    have HC := gfind_any H _ xs xp w7.drew (HS7.out.next BD)
    rw [HF] at HC
    have HS8 : ∀ W, Below w7.drew.heap.size w7.drew W → W.cell? ⟨hb, 0, none⟩ = some (.slice ha H.length hc) ∧ W.cell? ⟨gb, 0, none⟩ = some (.slice (some ⟨b2, o2, none⟩) l.length lc) ∧ W.cell? ⟨b2, o2 + k * 3, none⟩ = some (.int .i64 xs) ∧ W.cell? ⟨b2, o2 + k * 3 + 1, none⟩ = some (.int .i64 xp) := fun W hW => ⟨(hW.cell (p := ⟨hb, 0, none⟩) (World.block_lt_of_cell? _ _ ch7)).trans ch7, (hW.cell (p := ⟨gb, 0, none⟩) (World.block_lt_of_cell? _ _ cg7)).trans cg7, (hW.cell (p := ⟨b2, o2 + k * 3, none⟩) hb2).trans q0, (hW.cell (p := ⟨b2, o2 + k * 3 + 1, none⟩) hb2).trans q1⟩
    have HS9 : ∀ W, Below w7.drew.heap.size w7.drew W → ∀ W', Below W.heap.size W W' → W'.cell? ⟨hb, 0, none⟩ = some (.slice ha H.length hc) ∧ W'.cell? ⟨gb, 0, none⟩ = some (.slice (some ⟨b2, o2, none⟩) l.length lc) ∧ W'.cell? ⟨b2, o2 + k * 3, none⟩ = some (.int .i64 xs) ∧ W'.cell? ⟨b2, o2 + k * 3 + 1, none⟩ = some (.int .i64 xp) := fun W hW W' hW' => HS8 W' (below_then hW hW' hW.size)
    have HC2 : ∀ W, Below w7.drew.heap.size w7.drew W → Calls Try.prog 18 #[.agg #[.slice ha H.length hc], .int .i64 (s k), .int .i64 n] W fun e w' => ∃ v', e = .returned v' ∧ SlI (backF H (s k) n) v' w' ∧ Below W.heap.size W w' := fun W hW => back_any H _ (s k) n W ((HS7.out.next BD).next hW) HCAR.out.fit
    refine wp_region_noPanic ?_
    refine wp_region_L (fun W => W.cell? ⟨hb, 0, none⟩ = some (.slice ha H.length hc) ∧ W.cell? ⟨gb, 0, none⟩ = some (.slice (some ⟨b2, o2, none⟩) l.length lc) ∧ W.cell? ⟨b2, o2 + k * 3, none⟩ = some (.int .i64 xs) ∧ W.cell? ⟨b2, o2 + k * 3 + 1, none⟩ = some (.int .i64 xp)) 18 (by kernel_rfl) 18 rfl ?_
    refine wpAnyL_take' (i := 0) (v := ?_) (oi := { dst := some 132, op := Op.load 24 (Operand.tmp 23), type := 24, pos := "law.go:81", after := #[], guard := none }) rfl (by kernel_rfl) (by kernel_rfl) (by kernel_rfl) (by kernel_rfl) rfl (fun _ _ _ h => h) (Or.inl ⟨by rfl, ?_⟩) HS0 ?_
    rotate_left
    · intro W hSW
      go_simp
      try with_reducible rfl
    simp only [Act.put, List.setIfInBounds_toArray, List.set_cons_zero, List.set_cons_succ]
    refine wpAnyL_take' (i := 1) (v := ?_) (oi := { dst := some 133, op := Op.load 24 (Operand.tmp 23), type := 24, pos := "law.go:81", after := #[], guard := none }) rfl (by kernel_rfl) (by kernel_rfl) (by kernel_rfl) (by kernel_rfl) rfl (fun _ _ _ h => h) (Or.inl ⟨by rfl, ?_⟩) HS0 ?_
    rotate_left
    · intro W hSW
      go_simp
      try with_reducible rfl
    simp only [Act.put, List.setIfInBounds_toArray, List.set_cons_zero, List.set_cons_succ]
    refine wpAnyL_take' (i := 2) (v := ?_) (oi := { dst := some 134, op := Op.fieldAddr 24 (Operand.tmp 6) 0, type := 0, pos := "law.go:81", after := #[], guard := none }) rfl (by kernel_rfl) (by kernel_rfl) (by kernel_rfl) (by kernel_rfl) rfl (fun _ _ _ h => h) (Or.inl ⟨by rfl, ?_⟩) HS0 ?_
    rotate_left
    · intro W hSW
      go_simp
      try with_reducible rfl
    simp only [Act.put, List.setIfInBounds_toArray, List.set_cons_zero, List.set_cons_succ]
    refine wpAnyL_take' (i := 3) (v := ?_) (oi := { dst := some 135, op := Op.load 22 (Operand.tmp 134), type := 22, pos := "law.go:81", after := #[{ on := 2, ground := Ground.data }], guard := none }) rfl (by kernel_rfl) (by kernel_rfl) (by kernel_rfl) (by kernel_rfl) rfl (fun _ _ _ h => h) (Or.inl ⟨by rfl, ?_⟩) HS0 ?_
    rotate_left
    · intro W hSW
      go_simp
      try with_reducible rfl
    simp only [Act.put, List.setIfInBounds_toArray, List.set_cons_zero, List.set_cons_succ]
    refine wpAnyL_take' (i := 4) (v := ?_) (oi := { dst := some 136, op := Op.move (Operand.tmp 1), type := 3, pos := "law.go:81", after := #[], guard := none }) rfl (by kernel_rfl) (by kernel_rfl) (by kernel_rfl) (by kernel_rfl) rfl (fun _ _ _ h => h) (Or.inl ⟨by rfl, ?_⟩) HS0 ?_
    rotate_left
    · intro W hSW
      go_simp
      try with_reducible rfl
    simp only [Act.put, List.setIfInBounds_toArray, List.set_cons_zero, List.set_cons_succ]
    refine wpAnyL_take' (i := 5) (v := ?_) (oi := { dst := some 137, op := Op.indexAddr 22 (Operand.tmp 135) (Operand.tmp 136), type := 0, pos := "law.go:81", after := #[{ on := 3, ground := Ground.data }, { on := 4, ground := Ground.data }], guard := none }) rfl (by kernel_rfl) (by kernel_rfl) (by kernel_rfl) (by kernel_rfl) rfl (fun _ _ _ h => h) (Or.inl ⟨by rfl, ?_⟩) HS0 ?_
    rotate_left
    · intro W hSW
      go_simp
      try with_reducible rfl
    simp only [Act.put, List.setIfInBounds_toArray, List.set_cons_zero, List.set_cons_succ]
    refine wpAnyL_take' (i := 6) (v := ?_) (oi := { dst := some 138, op := Op.fieldAddr 48 (Operand.tmp 137) 0, type := 0, pos := "law.go:81", after := #[{ on := 5, ground := Ground.data }], guard := none }) rfl (by kernel_rfl) (by kernel_rfl) (by kernel_rfl) (by kernel_rfl) rfl (fun _ _ _ h => h) (Or.inl ⟨by rfl, ?_⟩) HS0 ?_
    rotate_left
    · intro W hSW
      go_simp
      try with_reducible rfl
    simp only [Act.put, List.setIfInBounds_toArray, List.set_cons_zero, List.set_cons_succ]
    refine wpAnyL_take' (i := 7) (v := ?_) (oi := { dst := some 139, op := Op.load 3 (Operand.tmp 138), type := 3, pos := "law.go:81", after := #[{ on := 6, ground := Ground.data }], guard := none }) rfl (by kernel_rfl) (by kernel_rfl) (by kernel_rfl) (by kernel_rfl) rfl (fun _ _ _ h => h) (Or.inl ⟨by rfl, ?_⟩) HS0 ?_
    rotate_left
    · intro W hSW
      go_simp
      try with_reducible rfl
    simp only [Act.put, List.setIfInBounds_toArray, List.set_cons_zero, List.set_cons_succ]
    refine wpAnyL_take' (i := 8) (v := ?_) (oi := { dst := some 140, op := Op.fieldAddr 24 (Operand.tmp 6) 0, type := 0, pos := "law.go:81", after := #[], guard := none }) rfl (by kernel_rfl) (by kernel_rfl) (by kernel_rfl) (by kernel_rfl) rfl (fun _ _ _ h => h) (Or.inl ⟨by rfl, ?_⟩) HS0 ?_
    rotate_left
    · intro W hSW
      go_simp
      try with_reducible rfl
    simp only [Act.put, List.setIfInBounds_toArray, List.set_cons_zero, List.set_cons_succ]
    refine wpAnyL_take' (i := 9) (v := ?_) (oi := { dst := some 141, op := Op.load 22 (Operand.tmp 140), type := 22, pos := "law.go:81", after := #[{ on := 8, ground := Ground.data }], guard := none }) rfl (by kernel_rfl) (by kernel_rfl) (by kernel_rfl) (by kernel_rfl) rfl (fun _ _ _ h => h) (Or.inl ⟨by rfl, ?_⟩) HS0 ?_
    rotate_left
    · intro W hSW
      go_simp
      try with_reducible rfl
    simp only [Act.put, List.setIfInBounds_toArray, List.set_cons_zero, List.set_cons_succ]
    refine wpAnyL_take' (i := 10) (v := ?_) (oi := { dst := some 142, op := Op.move (Operand.tmp 1), type := 3, pos := "law.go:81", after := #[], guard := none }) rfl (by kernel_rfl) (by kernel_rfl) (by kernel_rfl) (by kernel_rfl) rfl (fun _ _ _ h => h) (Or.inl ⟨by rfl, ?_⟩) HS0 ?_
    rotate_left
    · intro W hSW
      go_simp
      try with_reducible rfl
    simp only [Act.put, List.setIfInBounds_toArray, List.set_cons_zero, List.set_cons_succ]
    refine wpAnyL_take' (i := 11) (v := ?_) (oi := { dst := some 143, op := Op.indexAddr 22 (Operand.tmp 141) (Operand.tmp 142), type := 0, pos := "law.go:81", after := #[{ on := 9, ground := Ground.data }, { on := 10, ground := Ground.data }], guard := none }) rfl (by kernel_rfl) (by kernel_rfl) (by kernel_rfl) (by kernel_rfl) rfl (fun _ _ _ h => h) (Or.inl ⟨by rfl, ?_⟩) HS0 ?_
    rotate_left
    · intro W hSW
      go_simp
      try with_reducible rfl
    simp only [Act.put, List.setIfInBounds_toArray, List.set_cons_zero, List.set_cons_succ]
    refine wpAnyL_take' (i := 12) (v := ?_) (oi := { dst := some 144, op := Op.fieldAddr 48 (Operand.tmp 143) 1, type := 0, pos := "law.go:81", after := #[{ on := 11, ground := Ground.data }], guard := none }) rfl (by kernel_rfl) (by kernel_rfl) (by kernel_rfl) (by kernel_rfl) rfl (fun _ _ _ h => h) (Or.inl ⟨by rfl, ?_⟩) HS0 ?_
    rotate_left
    · intro W hSW
      go_simp
      try with_reducible rfl
    simp only [Act.put, List.setIfInBounds_toArray, List.set_cons_zero, List.set_cons_succ]
    refine wpAnyL_take' (i := 13) (v := ?_) (oi := { dst := some 145, op := Op.load 3 (Operand.tmp 144), type := 3, pos := "law.go:81", after := #[{ on := 12, ground := Ground.data }], guard := none }) rfl (by kernel_rfl) (by kernel_rfl) (by kernel_rfl) (by kernel_rfl) rfl (fun _ _ _ h => h) (Or.inl ⟨by rfl, ?_⟩) HS0 ?_
    rotate_left
    · intro W hSW
      go_simp
      try with_reducible rfl
    simp only [Act.put, List.setIfInBounds_toArray, List.set_cons_zero, List.set_cons_succ]
    refine wpAnyL_take' (i := 15) (v := ?_) (oi := { dst := some 147, op := Op.move (Operand.tmp 2), type := 3, pos := "law.go:81", after := #[], guard := none }) rfl (by kernel_rfl) (by kernel_rfl) (by kernel_rfl) (by kernel_rfl) rfl (fun _ _ _ h => h) (Or.inl ⟨by rfl, ?_⟩) HS0 ?_
    rotate_left
    · intro W hSW
      go_simp
      try with_reducible rfl
    simp only [Act.put, List.setIfInBounds_toArray, List.set_cons_zero, List.set_cons_succ]
    refine wpAnyL_one' (i := 14) (o := { dst := some 146, op := Op.call { callee := Callee.value (Operand.func 24), args := #[Operand.tmp 133, Operand.tmp 139, Operand.tmp 145], argTypes := #[24, 3, 3] }, type := 3, pos := "law.go:81", after := #[{ on := 1, ground := Ground.data }, { on := 7, ground := Ground.data }, { on := 13, ground := Ground.data }], guard := none }) (by kernel_rfl) rfl rfl (fun K hK => ?_)
    go_simp
    refine (HC).mono ?_
    rintro e w8 ⟨rfl, b8⟩
    refine hK.out _ _ (fun _ => HS8 w8 b8) ?_
    clear hK
    have HC2 := HC2 w8 b8
    refine wpAnyL_one' (i := 16) (o := { dst := some 148, op := Op.call { callee := Callee.value (Operand.func 18), args := #[Operand.tmp 132, Operand.tmp 146, Operand.tmp 147], argTypes := #[24, 3, 3] }, type := 36, pos := "law.go:81", after := #[{ on := 0, ground := Ground.data }, { on := 14, ground := Ground.data }, { on := 15, ground := Ground.data }, { on := 14, ground := Ground.chain }], guard := none }) (by kernel_rfl) rfl rfl (fun K hK => ?_)
    go_simp
    refine (HC2).mono ?_
    rintro e w9 ⟨mv, rfl, s9, b9⟩
    refine hK.out _ _ (fun _ => HS9 w8 b8 w9 b9) ?_
    clear hK
    obtain ⟨ma, mc, rfl, _⟩ := id s9
    refine wpAnyL_take' (i := 17) (v := ?_) (oi := { dst := some 26, op := Op.assign (Operand.tmp 148), type := 36, pos := "law.go:81", after := #[{ on := 16, ground := Ground.data }, { on := 16, ground := Ground.chain }, { on := 0, ground := Ground.phase }, { on := 1, ground := Ground.phase }, { on := 2, ground := Ground.phase }, { on := 3, ground := Ground.phase }, { on := 4, ground := Ground.phase }, { on := 5, ground := Ground.phase }, { on := 6, ground := Ground.phase }, { on := 7, ground := Ground.phase }, { on := 8, ground := Ground.phase }, { on := 9, ground := Ground.phase }, { on := 10, ground := Ground.phase }, { on := 11, ground := Ground.phase }, { on := 12, ground := Ground.phase }, { on := 13, ground := Ground.phase }, { on := 14, ground := Ground.phase }, { on := 15, ground := Ground.phase }, { on := 16, ground := Ground.phase }], guard := none }) rfl (by kernel_rfl) (by kernel_rfl) (by kernel_rfl) (by kernel_rfl) rfl (fun _ _ _ h => h) (Or.inl ⟨by rfl, ?_⟩) (HS9 w8 b8 w9 b9) ?_
    rotate_left
    · intro W hSW
      go_simp
      try with_reducible rfl
    simp only [Act.put, List.setIfInBounds_toArray, List.set_cons_zero, List.set_cons_succ]
    refine wpAnyL_done (by kernel_rfl) ?_ _
    refine NoPanic.normal ?_
    have hgb := HGB.out
    subst hgb
    go_wp2_with fail
    go_meet
    exact ⟨ma, mc, rfl, s9, below_then BD (below_then b8 b9 b8.size) BD.size⟩
  case rest =>
  obtain ⟨ma, mc, rfl, HSM, BC⟩ := hcut
  have HSN : Hid (SlN H (.slice ha H.length hc) wc) := HS7.out.next BC
  have HKC : Hid (SlI K (.slice ba K.length bc) wc) := HK7.out.next BC
  have HBC : Hid (Below w.heap.size w wc) := below_then HB7.out BC HB7.out.size
  have khc := (BC.block _ (blk_lt kh7)).trans kh7
  have kgc := (BC.block _ (blk_lt kg7)).trans kg7
  clear HS7 HK7 HB7 kh7 kg7 ch7 cg7 BC
  obtain ⟨k0, hk0⟩ : ∃ k0 : Nat, k0 = k := ⟨_, rfl⟩
  rw [← hk0] at HSM HKB ⊢
  clear hkl hk0
  go_wp2_with fail
  go_loopw [151] (fun iv wx => ∃ (j : Nat), iv = .int .i64 j ∧ j ≤ K.length ∧ Below wc.heap.size wc wx) (fun i _ => K.length - (intOf i).toNat)
  case atStart => exact ⟨0, rfl, Nat.zero_le _, Below.refl _ _⟩
  case round =>
  obtain ⟨j, rfl, hj, BR⟩ := hrel
  have HBR : Hid (Below w.heap.size w wr) := below_then HBC.out BR HBC.out.size
  by_cases hlt : j < K.length
  case neg =>
    obtain rfl : j = K.length := by omega
    have HC := awake_any wr
    clear BR hj hlt khc kgc
    go_wp2_with fail
    refine HC.mono ?_
    rintro e w9 ⟨rfl, b9⟩
    clear HC
    have HE : Hid (Below w.heap.size w w9) := below_then HBR.out b9 HBR.out.size
    clear b9
    go_wp2_with fail
    go_ret
    exact ⟨rfl, HE.out⟩
  obtain ⟨h1, h2, m, hnm, hm64, hkb⟩ := HKB.out _ (List.getElem_mem hlt)
  subst hnm
  have hin := back_in HFT.out.links m [(k0 : Int)] (fun z hz => by simp at hz; subst hz; exact ⟨h1, h2⟩) _ hkb
  obtain ⟨_, _, ex, hkr, _⟩ := HKC.out.next BR
  cases ex
  obtain ⟨b5, o5, rfl, hb5, p5⟩ := hkr.at (Below.refl _ _) hlt
  simp only [encI] at p5
  clear hkr
  generalize K[j] = kk at *
  obtain ⟨k, rfl⟩ : ∃ k : Nat, kk = k := ⟨kk.toNat, by omega⟩
  have hkl : k < l.length := by omega
  have hk0l : k0 < l.length := by omega
  go_upto_region 31 with fail
  go_cut [171] from 155 to 171 (fun t171 wx => t171 = .bool false ∧ Below wr.heap.size wr wx)
  case first =>
    obtain ⟨_, _, ex, hgn, _⟩ := HL.out _ HBR.out
    cases ex
    obtain ⟨b2, o2, u2, rfl, hb2, q0, q1, _⟩ := hgn.at (Below.refl _ _) hkl
    have HF := (HCAR.out.find k l[k] (by omega) (by simp [hkl])).1
    have hs0 := (HCAR.out.find k0 l[k0] (by omega) (by simp [hk0l])).2
    have HIN : s k ∈ backF H (s k0) m := by
      unfold backF
      rw [if_pos ⟨hs0.1, hs0.2, by omega, by omega⟩]
      exact HCAR.out.back m k0 k h1 h2 hkb
    generalize l[k].st = xs at *
    generalize l[k].pl = xp at *
    have khr := (BR.block _ (blk_lt khc)).trans khc
    have kgr := (BR.block _ (blk_lt kgc)).trans kgc
    have ch7 : wr.cell? ⟨hb, 0, none⟩ = some (.slice ha H.length hc) := by rw [Lib.cell_of_heap khr]; rfl
    have cg7 : wr.cell? ⟨w.heap.size, 0, none⟩ = some (.slice (some ⟨b2, o2, none⟩) l.length lc) := by rw [Lib.cell_of_heap kgr]; rfl
    obtain ⟨gb, hgb⟩ : ∃ gb, gb = w.heap.size := ⟨_, rfl⟩
    rw [← hgb] at cg7 ⊢
    have HGB : Hid (gb = w.heap.size) := hgb
    clear hgn hgb
    have HS0 : wr.drew.cell? ⟨hb, 0, none⟩ = some (.slice ha H.length hc) ∧ wr.drew.cell? ⟨gb, 0, none⟩ = some (.slice (some ⟨b2, o2, none⟩) l.length lc) ∧ wr.drew.cell? ⟨b2, o2 + k * 3, none⟩ = some (.int .i64 xs) ∧ wr.drew.cell? ⟨b2, o2 + k * 3 + 1, none⟩ = some (.int .i64 xp) := ⟨ch7, cg7, q0, q1⟩
    have BD : Below wr.heap.size wr wr.drew := below_drewN (Below.refl _ _) 1
    have HC := gfind_any H _ xs xp wr.drew ((HSN.out.next BR).next BD)
    rw [HF] at HC
    have HS8 : ∀ W, Below wr.drew.heap.size wr.drew W → W.cell? ⟨hb, 0, none⟩ = some (.slice ha H.length hc) ∧ W.cell? ⟨gb, 0, none⟩ = some (.slice (some ⟨b2, o2, none⟩) l.length lc) ∧ W.cell? ⟨b2, o2 + k * 3, none⟩ = some (.int .i64 xs) ∧ W.cell? ⟨b2, o2 + k * 3 + 1, none⟩ = some (.int .i64 xp) := fun W hW => ⟨(hW.cell (p := ⟨hb, 0, none⟩) (World.block_lt_of_cell? _ _ ch7)).trans ch7, (hW.cell (p := ⟨gb, 0, none⟩) (World.block_lt_of_cell? _ _ cg7)).trans cg7, (hW.cell (p := ⟨b2, o2 + k * 3, none⟩) hb2).trans q0, (hW.cell (p := ⟨b2, o2 + k * 3 + 1, none⟩) hb2).trans q1⟩
    have HC2 : ∀ W, Below wr.drew.heap.size wr.drew W → Calls Try.prog 29 #[.slice ma (backF H (s k0) m).length mc, .int .i64 (s k)] W fun e w' => e = .returned (.bool true) ∧ w' = W := fun W hW => by
      have := ghas_any (backF H (s k0) m) _ (s k) W (((HSM.out.next BR).next BD).next hW) (by have := back_len HCAR.out.fit (s k0) m; omega)
      rwa [decide_eq_true HIN] at this
    clear HIN hs0 hkb hin h1 h2
    refine wp_region_noPanic ?_
    refine wp_region_L (fun W => W.cell? ⟨hb, 0, none⟩ = some (.slice ha H.length hc) ∧ W.cell? ⟨gb, 0, none⟩ = some (.slice (some ⟨b2, o2, none⟩) l.length lc) ∧ W.cell? ⟨b2, o2 + k * 3, none⟩ = some (.int .i64 xs) ∧ W.cell? ⟨b2, o2 + k * 3 + 1, none⟩ = some (.int .i64 xp)) 17 (by kernel_rfl) 17 rfl ?_
    refine wpAnyL_take' (i := 0) (v := ?_) (oi := { dst := some 155, op := Op.move (Operand.tmp 26), type := 36, pos := "law.go:83", after := #[], guard := none }) rfl (by kernel_rfl) (by kernel_rfl) (by kernel_rfl) (by kernel_rfl) rfl (fun _ _ _ h => h) (Or.inl ⟨by rfl, ?_⟩) HS0 ?_
    rotate_left
    · intro W hSW
      go_simp
      try with_reducible rfl
    simp only [Act.put, List.setIfInBounds_toArray, List.set_cons_zero, List.set_cons_succ]
    refine wpAnyL_take' (i := 1) (v := ?_) (oi := { dst := some 156, op := Op.load 24 (Operand.tmp 23), type := 24, pos := "law.go:83", after := #[], guard := none }) rfl (by kernel_rfl) (by kernel_rfl) (by kernel_rfl) (by kernel_rfl) rfl (fun _ _ _ h => h) (Or.inl ⟨by rfl, ?_⟩) HS0 ?_
    rotate_left
    · intro W hSW
      go_simp
      try with_reducible rfl
    simp only [Act.put, List.setIfInBounds_toArray, List.set_cons_zero, List.set_cons_succ]
    refine wpAnyL_take' (i := 2) (v := ?_) (oi := { dst := some 157, op := Op.fieldAddr 24 (Operand.tmp 6) 0, type := 0, pos := "law.go:83", after := #[], guard := none }) rfl (by kernel_rfl) (by kernel_rfl) (by kernel_rfl) (by kernel_rfl) rfl (fun _ _ _ h => h) (Or.inl ⟨by rfl, ?_⟩) HS0 ?_
    rotate_left
    · intro W hSW
      go_simp
      try with_reducible rfl
    simp only [Act.put, List.setIfInBounds_toArray, List.set_cons_zero, List.set_cons_succ]
    refine wpAnyL_take' (i := 3) (v := ?_) (oi := { dst := some 158, op := Op.load 22 (Operand.tmp 157), type := 22, pos := "law.go:83", after := #[{ on := 2, ground := Ground.data }], guard := none }) rfl (by kernel_rfl) (by kernel_rfl) (by kernel_rfl) (by kernel_rfl) rfl (fun _ _ _ h => h) (Or.inl ⟨by rfl, ?_⟩) HS0 ?_
    rotate_left
    · intro W hSW
      go_simp
      try with_reducible rfl
    simp only [Act.put, List.setIfInBounds_toArray, List.set_cons_zero, List.set_cons_succ]
    refine wpAnyL_take' (i := 4) (v := ?_) (oi := { dst := some 159, op := Op.move (Operand.tmp 28), type := 3, pos := "law.go:83", after := #[], guard := none }) rfl (by kernel_rfl) (by kernel_rfl) (by kernel_rfl) (by kernel_rfl) rfl (fun _ _ _ h => h) (Or.inl ⟨by rfl, ?_⟩) HS0 ?_
    rotate_left
    · intro W hSW
      go_simp
      try with_reducible rfl
    simp only [Act.put, List.setIfInBounds_toArray, List.set_cons_zero, List.set_cons_succ]
    refine wpAnyL_take' (i := 5) (v := ?_) (oi := { dst := some 160, op := Op.indexAddr 22 (Operand.tmp 158) (Operand.tmp 159), type := 0, pos := "law.go:83", after := #[{ on := 3, ground := Ground.data }, { on := 4, ground := Ground.data }], guard := none }) rfl (by kernel_rfl) (by kernel_rfl) (by kernel_rfl) (by kernel_rfl) rfl (fun _ _ _ h => h) (Or.inl ⟨by rfl, ?_⟩) HS0 ?_
    rotate_left
    · intro W hSW
      go_simp
      try with_reducible rfl
    simp only [Act.put, List.setIfInBounds_toArray, List.set_cons_zero, List.set_cons_succ]
    refine wpAnyL_take' (i := 6) (v := ?_) (oi := { dst := some 161, op := Op.fieldAddr 48 (Operand.tmp 160) 0, type := 0, pos := "law.go:83", after := #[{ on := 5, ground := Ground.data }], guard := none }) rfl (by kernel_rfl) (by kernel_rfl) (by kernel_rfl) (by kernel_rfl) rfl (fun _ _ _ h => h) (Or.inl ⟨by rfl, ?_⟩) HS0 ?_
    rotate_left
    · intro W hSW
      go_simp
      try with_reducible rfl
    simp only [Act.put, List.setIfInBounds_toArray, List.set_cons_zero, List.set_cons_succ]
    refine wpAnyL_take' (i := 7) (v := ?_) (oi := { dst := some 162, op := Op.load 3 (Operand.tmp 161), type := 3, pos := "law.go:83", after := #[{ on := 6, ground := Ground.data }], guard := none }) rfl (by kernel_rfl) (by kernel_rfl) (by kernel_rfl) (by kernel_rfl) rfl (fun _ _ _ h => h) (Or.inl ⟨by rfl, ?_⟩) HS0 ?_
    rotate_left
    · intro W hSW
      go_simp
      try with_reducible rfl
    simp only [Act.put, List.setIfInBounds_toArray, List.set_cons_zero, List.set_cons_succ]
    refine wpAnyL_take' (i := 8) (v := ?_) (oi := { dst := some 163, op := Op.fieldAddr 24 (Operand.tmp 6) 0, type := 0, pos := "law.go:83", after := #[], guard := none }) rfl (by kernel_rfl) (by kernel_rfl) (by kernel_rfl) (by kernel_rfl) rfl (fun _ _ _ h => h) (Or.inl ⟨by rfl, ?_⟩) HS0 ?_
    rotate_left
    · intro W hSW
      go_simp
      try with_reducible rfl
    simp only [Act.put, List.setIfInBounds_toArray, List.set_cons_zero, List.set_cons_succ]
    refine wpAnyL_take' (i := 9) (v := ?_) (oi := { dst := some 164, op := Op.load 22 (Operand.tmp 163), type := 22, pos := "law.go:83", after := #[{ on := 8, ground := Ground.data }], guard := none }) rfl (by kernel_rfl) (by kernel_rfl) (by kernel_rfl) (by kernel_rfl) rfl (fun _ _ _ h => h) (Or.inl ⟨by rfl, ?_⟩) HS0 ?_
    rotate_left
    · intro W hSW
      go_simp
      try with_reducible rfl
    simp only [Act.put, List.setIfInBounds_toArray, List.set_cons_zero, List.set_cons_succ]
    refine wpAnyL_take' (i := 10) (v := ?_) (oi := { dst := some 165, op := Op.move (Operand.tmp 28), type := 3, pos := "law.go:83", after := #[], guard := none }) rfl (by kernel_rfl) (by kernel_rfl) (by kernel_rfl) (by kernel_rfl) rfl (fun _ _ _ h => h) (Or.inl ⟨by rfl, ?_⟩) HS0 ?_
    rotate_left
    · intro W hSW
      go_simp
      try with_reducible rfl
    simp only [Act.put, List.setIfInBounds_toArray, List.set_cons_zero, List.set_cons_succ]
    refine wpAnyL_take' (i := 11) (v := ?_) (oi := { dst := some 166, op := Op.indexAddr 22 (Operand.tmp 164) (Operand.tmp 165), type := 0, pos := "law.go:83", after := #[{ on := 9, ground := Ground.data }, { on := 10, ground := Ground.data }], guard := none }) rfl (by kernel_rfl) (by kernel_rfl) (by kernel_rfl) (by kernel_rfl) rfl (fun _ _ _ h => h) (Or.inl ⟨by rfl, ?_⟩) HS0 ?_
    rotate_left
    · intro W hSW
      go_simp
      try with_reducible rfl
    simp only [Act.put, List.setIfInBounds_toArray, List.set_cons_zero, List.set_cons_succ]
    refine wpAnyL_take' (i := 12) (v := ?_) (oi := { dst := some 167, op := Op.fieldAddr 48 (Operand.tmp 166) 1, type := 0, pos := "law.go:83", after := #[{ on := 11, ground := Ground.data }], guard := none }) rfl (by kernel_rfl) (by kernel_rfl) (by kernel_rfl) (by kernel_rfl) rfl (fun _ _ _ h => h) (Or.inl ⟨by rfl, ?_⟩) HS0 ?_
    rotate_left
    · intro W hSW
      go_simp
      try with_reducible rfl
    simp only [Act.put, List.setIfInBounds_toArray, List.set_cons_zero, List.set_cons_succ]
    refine wpAnyL_take' (i := 13) (v := ?_) (oi := { dst := some 168, op := Op.load 3 (Operand.tmp 167), type := 3, pos := "law.go:83", after := #[{ on := 12, ground := Ground.data }], guard := none }) rfl (by kernel_rfl) (by kernel_rfl) (by kernel_rfl) (by kernel_rfl) rfl (fun _ _ _ h => h) (Or.inl ⟨by rfl, ?_⟩) HS0 ?_
    rotate_left
    · intro W hSW
      go_simp
      try with_reducible rfl
    simp only [Act.put, List.setIfInBounds_toArray, List.set_cons_zero, List.set_cons_succ]
    refine wpAnyL_one' (i := 14) (o := { dst := some 169, op := Op.call { callee := Callee.value (Operand.func 24), args := #[Operand.tmp 156, Operand.tmp 162, Operand.tmp 168], argTypes := #[24, 3, 3] }, type := 3, pos := "law.go:83", after := #[{ on := 1, ground := Ground.data }, { on := 7, ground := Ground.data }, { on := 13, ground := Ground.data }], guard := none }) (by kernel_rfl) rfl rfl (fun K hK => ?_)
    go_simp
    refine (HC).mono ?_
    rintro e w12 ⟨rfl, b12⟩
    refine hK.out _ _ (fun _ => HS8 w12 b12) ?_
    clear hK
    have HC2 := HC2 w12 b12
    refine wpAnyL_one' (i := 15) (o := { dst := some 170, op := Op.call { callee := Callee.value (Operand.func 29), args := #[Operand.tmp 155, Operand.tmp 169], argTypes := #[36, 3] }, type := 4, pos := "law.go:83", after := #[{ on := 0, ground := Ground.data }, { on := 14, ground := Ground.data }, { on := 14, ground := Ground.chain }], guard := none }) (by kernel_rfl) rfl rfl (fun K hK => ?_)
    go_simp
    refine (HC2).mono ?_
    rintro e w13 ⟨rfl, rfl⟩
    refine hK.out _ _ (fun _ => HS8 w13 b12) ?_
    clear hK
    refine wpAnyL_take' (i := 16) (v := ?_) (oi := { dst := some 171, op := Op.unOp UnOp.not 4 (Operand.tmp 170), type := 4, pos := "law.go:83", after := #[{ on := 15, ground := Ground.data }], guard := none }) rfl (by kernel_rfl) (by kernel_rfl) (by kernel_rfl) (by kernel_rfl) rfl (fun _ _ _ h => h) (Or.inl ⟨by rfl, ?_⟩) (HS8 w13 b12) ?_
    rotate_left
    · intro W hSW
      go_simp
      try with_reducible rfl
    simp only [Act.put, List.setIfInBounds_toArray, List.set_cons_zero, List.set_cons_succ]
    refine wpAnyL_done (by kernel_rfl) ?_ _
    refine NoPanic.normal ?_
    have hgb := HGB.out
    subst hgb
    go_wp2_with fail
    go_meet
    exact ⟨rfl, below_then BD b12 BD.size⟩
  case rest =>
  obtain ⟨rfl, BX⟩ := hcut
  go_wp2_with fail
  exact ⟨⟨j + 1, by go_num, by omega, below_then BR BX BR.size⟩, by simp [intOf]; omega⟩
end Go.Proofs.Yteakhenbfpghjaa
