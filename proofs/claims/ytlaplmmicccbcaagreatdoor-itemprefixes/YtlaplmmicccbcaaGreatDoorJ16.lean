/- ItemPrefixes: from the first set one comes on by a row's symbols, one after another. -/
import Derived.Test.YtlaplmmicccbcaaGreatDoorRows
import Derived.Test.YtlaplmmicccbcaaGreatDoorTie
import Derived.Test.YtlaplmmicccbcaaGreatDoorCards
import Derived.Test.YtlaplmmicccbcaaGreatDoorJ01
import Derived.Test.YtlaplmmicccbcaaGreatDoorJ02
import Derived.Test.YtlaplmmicccbcaaGreatDoorJ05
import Derived.Test.YtlaplmmicccbcaaGreatDoorJ07
import Derived.Test.YtlaplmmicccbcaaGreatDoorJ15
import Derived.ProofKit
import Derived.OpenShut
import Derived.SizedLaws
import Derived.Lib.SmallJoins
import Derived.Deep.Slices
import Derived.Deep.Strs
import Derived.LaidMore
import Derived.LaidHandle
import Derived.Stop.Joined
import Derived.Stop.LaidErr
import Derived.Lib.LaidTab
import Derived.SevenTiedAt
namespace Go.Proofs.YtlaplmmicccbcaaGreatDoor
open Go.RowKit

theorem pick_lt (x : Int) (n : Nat) (h0 : 0 < n) (h1 : n ≤ 100000) : ∃ z : Nat, wrap64 ((IntKind.u64.wrap x).tmod n) = z ∧ z < n := by
  have hu : 0 ≤ IntKind.u64.wrap x := by
    rw [IntKind.wrap_u64]
    omega
  have e : (IntKind.u64.wrap x).tmod (n : Int) = (IntKind.u64.wrap x) % (n : Int) := Int.tmod_eq_emod_of_nonneg hu
  have h2 := Int.emod_nonneg (IntKind.u64.wrap x) (b := (n : Int)) (by omega)
  have h3 := Int.emod_lt_of_pos (IntKind.u64.wrap x) (b := (n : Int)) (by omega)
  rw [e]
  generalize (IntKind.u64.wrap x) % (n : Int) = z at *
  obtain ⟨k, rfl⟩ : ∃ k : Nat, z = k := ⟨z.toNat, by omega⟩
  refine ⟨k, ?_, by omega⟩
  exact IntWalk.wrap64_in _ (by omega)
theorem own_one (W : World) (x : Int) (t : TypeId) (B : Nat) (h : B ≤ W.heap.size) : Own1 t encI B [x] (.slice (some ⟨W.heap.size, 0, none⟩) 1 1) (W.alloc (Obj.cells #[.int .i64 x] t)) := World.ownsRow_lit W #[.int .i64 x] 1 h (by unfold maxLen; omega) rfl

set_option maxRecDepth 100000 in
set_option maxHeartbeats 4000000 in
theorem itemPrefixes_any (f : Fl) (a : FlA) (picks : List Int) (pv : Value) (w : World) (hf : FlAt f a w) (hpk : SlI picks pv w) (hT : Tb w) :
    Calls Tryz.prog 6 #[a.val f, pv] w fun e w' => e = .returned (.bool true) ∧ Below w.heap.size w w' := by
  have h1 := fun W (hb : Below w.heap.size w W) => few11_any f a W (hf.next hb)
  have h2 := fun W (hb : Below w.heap.size w W) (ht : fitB f = true) => ruseful_any f a W (hf.next hb) (fit_facts ht)
  have h3 := fun W (hb : Below w.heap.size w W) (ht : fitB f = true) => firstP_any f a W (hf.next hb) ht (hT.next hb)
  have h4 := fun (l : List Ir) (v : Value) (s : Int) W (hb : Below w.heap.size w W) (ht : fitB f = true) (hl : SlL l v W) (hll : l.length ≤ maxI) => gotoP_any f a l v s W (hf.next hb) ht (hT.next hb) hl (by unfold maxI at hll; omega)
  have h5 := fun (s : Int) W (hb : Below w.heap.size w W) (hl : f.prods.length ≤ 1000) => rof_any f a s W (hf.next hb) hl
  have HAW : Hid (∀ W, Below w.heap.size w W → Calls Tryz.prog 9 #[] W fun e w' => e = .returned (.bool true) ∧ Below W.heap.size W w') := fun W hb => awake11_any W (hT.next hb)
  have HPK : Hid (∀ W, Below w.heap.size w W → SlI picks pv W) := fun W hb => hpk.next hb
  have HPR : Hid (∀ W, Below w.heap.size w W → PrsAt f.prods a.pa W) := fun W hb => hf.2.2.1.next hb
  obtain ⟨pka, pkc, rfl, _⟩ := hpk
  obtain ⟨i0, hi0, hz0, hz1, hz2⟩ := info_parts info3
  obtain ⟨ta, tc, na, nc, pa, pc⟩ := a
  have X0 := FBox.new f ⟨ta, tc, na, nc, pa, pc⟩ 25 w
  have B0 : Below w.heap.size w (w.alloc (fobj f ⟨ta, tc, na, nc, pa, pc⟩ 25)) := (Below.refl _ _).alloc (Nat.le_refl _) _
  unfold fobj at X0 B0
  unfold FlA.val at h1 h2 h3 h4 h5 ⊢
  simp only at *
  have H1 : Hid (∀ W, Below w.heap.size w W → Calls Tryz.prog 8 #[.agg #[.slice ta f.terms.length tc, .slice na f.nons.length nc, .slice pa f.prods.length pc]] W fun e w' => Few1 f W e w') := h1
  have H2 : Hid (∀ W, Below w.heap.size w W → fitB f = true → Calls Tryz.prog 24 #[.agg #[.slice ta f.terms.length tc, .slice na f.nons.length nc, .slice pa f.prods.length pc]] W fun e w' => GaveB (fun s => s < f.terms.length) f W e w') := h2
  have H3 : Hid (∀ W, Below w.heap.size w W → fitB f = true → Calls Tryz.prog 19 #[.agg #[.slice ta f.terms.length tc, .slice na f.nons.length nc, .slice pa f.prods.length pc]] W fun e w' => ∃ v' L', e = .returned v' ∧ ClosI f (fun x => x ∈ begL f) L' ∧ SlL L' v' w' ∧ Apart W.heap.size v' ∧ Below W.heap.size W w') := h3
  have H4 : Hid (∀ (l : List Ir) (v : Value) (s : Int) W, Below w.heap.size w W → fitB f = true → SlL l v W → l.length ≤ maxI → Calls Tryz.prog 17 #[.agg #[.slice ta f.terms.length tc, .slice na f.nons.length nc, .slice pa f.prods.length pc], v, .int .i64 s] W fun e w' => ∃ v' L', e = .returned v' ∧ ClosI f (fun x => x ∈ movedL f l s) L' ∧ SlL L' v' w' ∧ Apart W.heap.size v' ∧ Below W.heap.size W w') := h4
  have H5 : Hid (∀ (s : Int) W, Below w.heap.size w W → f.prods.length ≤ 1000 → Calls Tryz.prog 25 #[.agg #[.slice ta f.terms.length tc, .slice na f.nons.length nc, .slice pa f.prods.length pc], .int .i64 s] W fun e w' => ∃ v, e = .returned v ∧ SlI (ofA f s) v w' ∧ Apart W.heap.size v ∧ Below W.heap.size W w') := h5
  clear h1 h2 h3 h4 h5 hf hT
  go_enter Tryz.func6, Tryz.ntmps6
  go_wp2_with fail
  obtain ⟨F, hF⟩ : ∃ F, w.heap.size = F := ⟨_, rfl⟩
  have HFF : Hid (w.heap.size = F) := hF
  rw [hF] at X0
  simp only [hF]
  clear hF
  generalize w.alloc (Obj.cells #[.slice ta f.terms.length tc, .slice na f.nons.length nc, .slice pa f.prods.length pc] 25) = w0 at *
  refine (H1.out _ B0).mono ?_
  rintro e w1 ⟨b, rfl, hfew, b1⟩
  have B1 := below_then B0 b1 B0.size
  have X1 := X0.next b1
  have HX1 : Hid (∀ W, Below w1.heap.size w1 W → (W.cell? ⟨F, 0, none⟩ = some (.slice ta f.terms.length tc) ∧ W.cell? ⟨F, 1, none⟩ = some (.slice na f.nons.length nc) ∧ W.cell? ⟨F, 2, none⟩ = some (.slice pa f.prods.length pc))) := fun W hb => (X1.next hb).2
  clear X0 B0 b1 H1 X1
  cases b with
  | false =>
    clear hfew
    go_wp2_with fail
    refine (HAW.out _ B1).mono ?_
    rintro e wz ⟨rfl, bz⟩
    have BZ := below_then B1 bz (B1).size
    clear HAW bz
    go_wp2_with fail
    go_ret
    exact ⟨rfl, BZ⟩
  | true =>
  have HFT : Hid (fitB f = true) := (hfew rfl).1
  have HP : Hid (FitP f) := fit_facts (hfew rfl).1
  have hn6 : f.terms.length + f.nons.length ≤ 16 := (hfew rfl).2.1
  have hp6 : f.prods.length ≤ 16 := (hfew rfl).2.2
  clear hfew
  by_cases h100 : picks.length ≤ 100
  case neg =>
    have hg : decide ((picks.length : Int) > 100) = true := decide_eq_true (by omega)
    have hg2 : (picks.length : Int) > 100 := by omega
    go_wp2_with fail
    refine (HAW.out _ B1).mono ?_
    rintro e wz ⟨rfl, bz⟩
    have BZ := below_then B1 bz (B1).size
    clear HAW bz
    go_wp2_with fail
    go_ret
    exact ⟨rfl, BZ⟩
  have hg : decide ((picks.length : Int) > 100) = false := decide_eq_false (by omega)
  have hg2 : ¬ (picks.length : Int) > 100 := by omega
  obtain ⟨d0, d1, d2⟩ := HX1.out _ (Below.refl _ _)
  go_wp2_with fail
  refine (H2.out _ B1 HFT.out).mono ?_
  rintro e w2 ⟨vu, Lu, rfl, hgv, hsu, _, b2⟩
  have B2 := below_then B1 b2 B1.size
  have HX : Hid (∀ W, Below w2.heap.size w2 W → (W.cell? ⟨F, 0, none⟩ = some (.slice ta f.terms.length tc) ∧ W.cell? ⟨F, 1, none⟩ = some (.slice na f.nons.length nc) ∧ W.cell? ⟨F, 2, none⟩ = some (.slice pa f.prods.length pc))) := fun W hb => HX1.out W (below_then b2 hb b2.size)
  have HB : Hid (∀ W, Below w2.heap.size w2 W → Below w.heap.size w W) := fun W hb => below_then B2 hb B2.size
  have HGV : Hid (GivesB (fun s => s < f.terms.length) f.gr f.n Lu) := hgv
  obtain ⟨ub, uc, rfl, hur, _, _⟩ := hsu
  have hLu : Lu.length ≤ 16 := by rw [hgv.1]; exact hn6
  clear b2 H2 HX1 d0 d1 d2 hgv
  go_wp2_with fail
  go_loopw [29] (fun i wr => ∃ (j : Nat), i = .int .i64 j ∧ j ≤ Lu.length ∧ (∀ k, k < j → Lu[k]? = some true) ∧ wr = w2) (fun i _ => Lu.length - (intOf i).toNat)
  case atStart => exact ⟨0, rfl, Nat.zero_le _, fun k hk => by omega, rfl⟩
  case round =>
  obtain ⟨j, rfl, hj, hall, rfl⟩ := hrel
  by_cases hlt : j < Lu.length
  · obtain ⟨ub', uo, eu, hub, cu⟩ := hur.at (Below.refl _ _) hlt
    subst eu
    have HAL : Hid (∀ k, k < j → Lu[k]? = some true) := hall
    have HGJ : Hid (Lu[j]? = some Lu[j]) := by show _ = _; simp [hlt]
    unfold encB at cu
    clear hall
    generalize Lu[j] = bj at *
    cases bj with
    | false =>
      clear HGJ HAL hur
      go_wp2_with fail
      refine (HAW.out _ B2).mono ?_
      rintro e wz ⟨rfl, bz⟩
      have BZ := below_then B2 bz (B2).size
      clear HAW bz
      go_wp2_with fail
      go_ret
      exact ⟨rfl, BZ⟩
    | true =>
      have HA2 : Hid (∀ k, k < j + 1 → Lu[k]? = some true) := fun k hk => by
        rcases Nat.lt_or_ge k j with h | h
        · exact HAL.out k h
        · obtain rfl : k = j := by omega
          exact HGJ.out
      clear HAL HGJ
      go_wp2_with fail
      exact ⟨⟨j + 1, by go_num, by omega, HA2.out, trivial⟩, by simp [intOf]; omega⟩
  have HU : Hid (∀ s, s < f.n → Der (fun s => s < f.terms.length) f.gr s) := fun s hs => (HGV.out.2 s hs).1 (hall s (by have := HGV.out.1; omega))
  clear hall HGV hur
  obtain ⟨d0, d1, d2⟩ := HX.out _ (Below.refl _ _)
  have HO0 : Hid (Own1 3 encI wr.heap.size [(f.terms.length : Int)] (.slice (some ⟨wr.heap.size, 0, none⟩) 1 1) (wr.alloc (Obj.cells #[.int .i64 f.terms.length] 3))) := own_one wr _ _ _ (Nat.le_refl _)
  have BA : Below wr.heap.size wr (wr.alloc (Obj.cells #[.int .i64 f.terms.length] 3)) := (Below.refl _ _).alloc (Nat.le_refl _) _
  have hnn : 0 < f.nons.length := HP.out.nons
  go_wp2_with fail
  clear d0 d1 d2 hj hlt
  generalize wr = w3 at *
  go_loopw [7, 8] (fun rv iv wr => ∃ (i : Nat) (row : List Int), iv = .int .i64 i ∧ i ≤ 13 ∧ Own1 3 encI w3.heap.size row rv wr ∧ Path f row ∧ (∀ x ∈ row, 0 ≤ x ∧ x < (f.n : Int)) ∧ row.length ≤ 1 + 64 * i ∧ Below w3.heap.size w3 wr) (fun _ i _ => 14 - (intOf i).toNat)
  case atStart => exact ⟨0, [(f.terms.length : Int)], rfl, by omega, HO0.out, path_start HP.out, fun x hx => by simp at hx; subst hx; unfold Fl.n; omega, by simp, BA⟩
  case round =>
  clear HO0 BA
  obtain ⟨i, row, rfl, hi13, hown, hpath, hrng, hrl, BR⟩ := hrel
  obtain ⟨ra, rc, rfl⟩ := slice_of_own hown
  have HOW : Hid (Own1 3 encI w3.heap.size row (.slice ra row.length rc) wr) := hown
  have HPA : Hid (Path f row ∧ ∀ x ∈ row, 0 ≤ x ∧ x < (f.n : Int)) := ⟨hpath, hrng⟩
  have hsz := BR.size
  clear hown hpath hrng
  have HRI : Hid (SlI row (.slice ra row.length rc) wr) := sli_own HOW.out (fun y hy => by have := HPA.out.2 y hy; unfold i64B; unfold Fl.n at this; omega)
  by_cases hgo : i + 1 < picks.length ∧ i < 12 ∧ 0 < row.length
  case neg =>
    have hcase : (decide ((i : Int) + 1 < picks.length) = false ∧ ¬ ((i : Int) + 1 < picks.length)) ∨ ((decide ((i : Int) + 1 < picks.length) = true ∧ (i : Int) + 1 < picks.length) ∧ decide ((i : Int) < 12) = false ∧ ¬ ((i : Int) < 12)) ∨ ((decide ((i : Int) + 1 < picks.length) = true ∧ (i : Int) + 1 < picks.length) ∧ (decide ((i : Int) < 12) = true ∧ (i : Int) < 12) ∧ decide ((row.length : Int) > 0) = false ∧ ¬ ((row.length : Int) > 0)) := by
      by_cases g1 : i + 1 < picks.length
      · by_cases g2 : i < 12
        · exact .inr (.inr ⟨⟨decide_eq_true (by omega), by omega⟩, ⟨decide_eq_true (by omega), by omega⟩, decide_eq_false (by omega), by omega⟩)
        · exact .inr (.inl ⟨⟨decide_eq_true (by omega), by omega⟩, decide_eq_false (by omega), by omega⟩)
      · exact .inl ⟨decide_eq_false (by omega), by omega⟩
    obtain ⟨d0, d1, d2⟩ := HX.out _ BR
    have HF1 := H3.out _ (HB.out _ BR) HFT.out
    by_cases h40 : row.length ≤ 40
    case neg =>
      have hr40 : decide ((row.length : Int) > 40) = true := decide_eq_true (by omega)
      have hr41 : (row.length : Int) > 40 := by omega
      clear HF1
      rcases hcase with ⟨c1, c2⟩ | ⟨⟨c1, c2⟩, c3, c4⟩ | ⟨⟨c1, c2⟩, ⟨c3, c4⟩, c5, c6⟩
      case inr.inr => exact absurd hr41 (by omega)
      all_goals
        go_wp2_with fail
        refine (HAW.out _ (HB.out _ BR)).mono ?_
        rintro e wz ⟨rfl, bz⟩
        have BZ := below_then (HB.out _ BR) bz ((HB.out _ BR)).size
        clear HAW bz
        go_wp2_with fail
        go_ret
        exact ⟨rfl, BZ⟩
    have hr40 : decide ((row.length : Int) > 40) = false := decide_eq_false (by omega)
    have hr41 : ¬ (row.length : Int) > 40 := by omega
    have HST : Hid (stF f (row.take 0) = closF f (begL f)) := rfl
    rcases hcase with ⟨c1, c2⟩ | ⟨⟨c1, c2⟩, c3, c4⟩ | ⟨⟨c1, c2⟩, ⟨c3, c4⟩, c5, c6⟩
    all_goals
      go_wp2_with fail
      refine HF1.mono ?_
      rintro e w4 ⟨v4, L4, rfl, q4, r4, _, b4⟩
      have B4 := below_then BR b4 BR.size
      have HS4 : Hid (SlL (stF f (row.take 0)) v4 w4) := by rw [HST.out, closF_eq q4]; exact r4
      have HRW : Hid (∀ W, Below w4.heap.size w4 W → SlI row (.slice ra row.length rc) W) := fun W hb => HRI.out.next (below_then b4 hb b4.size)
      clear HF1 q4 r4 b4 d0 d1 d2
      generalize wr = wy at *
      go_wp2_with fail
      go_loopw [14, 125] (fun lv iv wr => ∃ (k : Nat), iv = .int .i64 k ∧ k ≤ row.length ∧ SlL (stF f (row.take k)) lv wr ∧ Below w4.heap.size w4 wr) (fun _ i _ => row.length - (intOf i).toNat)
      case atStart => exact ⟨0, rfl, Nat.zero_le _, HS4.out, Below.refl _ _⟩
      case round =>
      obtain ⟨k, rfl, hk, hsl, BK⟩ := hrel
      have BK4 := below_then B4 BK B4.size
      by_cases hkl : k < row.length
      case neg =>
        clear HS4 hsl HRW H3 H4
        go_wp2_with fail
        refine (HAW.out _ (HB.out _ BK4)).mono ?_
        rintro e wz ⟨rfl, bz⟩
        have BZ := below_then (HB.out _ BK4) bz ((HB.out _ BK4)).size
        clear HAW bz
        go_wp2_with fail
        go_ret
        exact ⟨rfl, BZ⟩
      obtain ⟨_, _, e0, hrr, _⟩ := HRW.out _ BK
      cases e0
      obtain ⟨rb, ro, er, hrb, cr⟩ := hrr.at (Below.refl _ _) hkl
      unfold encI at cr
      subst er
      obtain ⟨x, hx, hnx⟩ := HPA.out.1 k hkl
      have HNE := stF_ne HP.out hx hnx
      have hls : (stF f (row.take k)).length ≤ maxI := by
        obtain ⟨S, hS⟩ := stF_clos HP.out (row.take k)
        exact hS.len HP.out
      have hsn : row.take (k + 1) = row.take k ++ [row[k]] := List.take_succ_eq_append_getElem hkl
      obtain ⟨d0, d1, d2⟩ := HX.out _ BK4
      have HG := H4.out (stF f (row.take k)) _ row[k] _ (HB.out _ BK4) HFT.out hsl hls
      have HN2 : Hid (∀ L, ClosI f (fun x => x ∈ movedL f (stF f (row.take k)) row[k]) L → stF f (row.take (k + 1)) = L ∧ L ≠ []) := fun L hL => by
        have e : stF f (row.take (k + 1)) = L := by
          rw [hsn, stF_snoc]
          exact closF_eq hL
        exact ⟨e, by rw [← e, hsn]; exact HNE⟩
      obtain ⟨sa, sc, rfl, _⟩ := id hsl
      clear HNE hx hnx hsn hsl hrr
      generalize row[k] = rk at *
      go_wp2_with fail
      refine HG.mono ?_
      rintro e w5 ⟨v5, L5, rfl, q5, r5, _, b5⟩
      have B5 := below_then BK b5 BK.size
      obtain ⟨e5, hne5⟩ := HN2.out L5 q5
      obtain ⟨ga, gc, rfl, _⟩ := id r5
      have hl5 : ((L5.length : Int) == 0) = false := beq_eq_false_iff_ne.2 (by have := List.length_pos_iff.2 hne5; omega)
      have HS5 : Hid (SlL (stF f (row.take (k + 1))) (.slice ga L5.length gc) w5) := by rw [e5]; exact r5
      clear HG q5 r5 b5 d0 d1 d2 e5 hne5 HN2
      go_wp2_with fail
      exact ⟨⟨k + 1, by go_num, by omega, HS5.out, B5⟩, by simp [intOf]; omega⟩
  obtain ⟨g1, g2, g3⟩ := hgo
  have c1 : decide ((i : Int) + 1 < picks.length) = true := decide_eq_true (by omega)
  have c2 : (i : Int) + 1 < picks.length := by omega
  have c3 : decide ((i : Int) < 12) = true := decide_eq_true (by omega)
  have c4 : (i : Int) < 12 := by omega
  have c5 : decide ((row.length : Int) > 0) = true := decide_eq_true (by omega)
  have c6 : (row.length : Int) > 0 := by omega
  obtain ⟨_, _, e0, hpr, _⟩ := HPK.out _ (HB.out _ BR)
  cases e0
  obtain ⟨kb, ko, ek, _, ck⟩ := hpr.at (Below.refl _ _) (show i < picks.length by omega)
  subst ek
  obtain ⟨_, _, ek2, hkb0, ck2⟩ := hpr.at (Below.refl _ _) (show i + 1 < picks.length by omega)
  cases ek2
  unfold encI at ck ck2
  generalize picks[i] = pk at *
  generalize picks[i + 1] = pk2 at *
  obtain ⟨z, hz, hzl⟩ := pick_lt pk row.length g3 (by omega)
  obtain ⟨_, _, e0, hrr, _, hrc, _⟩ := HRI.out
  cases e0
  obtain ⟨rb, ro, er, hrb, cr⟩ := hrr.at (Below.refl _ _) hzl
  subst er
  unfold encI at cr
  have HZP : Hid (∀ (q : Nat) (p : Pr), f.prods[q]? = some p → p.left = row[z] → Path f (row.take z ++ p.right.map (·.sym))) := fun q p hq hl => path_step HP.out HU.out HPA.out.1 hzl hq hl
  have hzr := HPA.out.2 row[z] (by simp)
  have HZO : Hid ((f.terms.length : Int) ≤ row[z] → ofA f row[z] ≠ []) := fun h => by
    have e : row[z] = ((row[z].toNat : Nat) : Int) := by omega
    rw [e]
    exact of_some HP.out (by omega) (HU.out _ (by omega))
  obtain ⟨d0, d1, d2⟩ := HX.out _ BR
  generalize hrze : row[z] = rz at *
  clear hpr hrr hrze
  have hkb : Hid (∀ W, Below wr.heap.size wr W → W.cell? ⟨kb, ko + (i + 1), none⟩ = some (.int .i64 pk2)) := fun W hb => (hb.cell (p := ⟨kb, ko + (i + 1), none⟩) hkb0).trans ck2
  have HRn : Hid (∀ W, Below wr.heap.size wr W → SlI row (.slice (some ⟨rb, ro, none⟩) row.length rc) W) := fun W hb => HRI.out.next hb
  have HSd : Hid (∀ W, Below wr.heap.size wr W → ((W.cell? ⟨F, 0, none⟩ = some (.slice ta f.terms.length tc) ∧ W.cell? ⟨F, 1, none⟩ = some (.slice na f.nons.length nc) ∧ W.cell? ⟨F, 2, none⟩ = some (.slice pa f.prods.length pc)) ∧ W.cell? ⟨rb, ro + z, none⟩ = some (.int .i64 rz))) := fun W hb => ⟨HX.out _ (below_then BR hb BR.size), (hb.cell (p := ⟨rb, ro + z, none⟩) hrb).trans cr⟩
  clear HRI
  go_wp2_with fail
  simp only [hz]
  clear d0 d1 d2 ck ck2 cr
  have hS0 := HSd.out _ (Below.refl _ wr).drew
  by_cases hterm : rz < (f.terms.length : Int)
  · have hdt : decide (rz < (f.terms.length : Int)) = true := decide_eq_true hterm
    refine wp_region_L (fun W => (W.cell? ⟨F, 0, none⟩ = some (.slice ta f.terms.length tc) ∧ W.cell? ⟨F, 1, none⟩ = some (.slice na f.nons.length nc) ∧ W.cell? ⟨F, 2, none⟩ = some (.slice pa f.prods.length pc)) ∧ W.cell? ⟨rb, ro + z, none⟩ = some (.int .i64 rz)) 8 (by kernel_rfl) 8 rfl ?_
    refine tk (i := 0) (v := ?_) (oi := ⟨some 67, .move (.tmp 7), 47, "law.go:79", #[], none⟩) hS0 ?_ ?_
    rotate_left
    · intro W hSW
      go_simp
      try with_reducible rfl
    simp only [Act.put, sA, s0, sS]
    refine tk (i := 1) (v := ?_) (oi := ⟨some 68, .move (.tmp 9), 3, "law.go:79", #[], none⟩) hS0 ?_ ?_
    rotate_left
    · intro W hSW
      go_simp
      try with_reducible rfl
    simp only [Act.put, sA, s0, sS]
    refine tk (i := 2) (v := ?_) (oi := ⟨some 69, .indexAddr 47 (.tmp 67) (.tmp 68), 0, "law.go:79", #[⟨0, .data⟩, ⟨1, .data⟩], none⟩) hS0 ?_ ?_
    rotate_left
    · intro W hSW
      go_simp
      try with_reducible rfl
    simp only [Act.put, sA, s0, sS]
    refine tk (i := 3) (v := ?_) (oi := ⟨some 70, .load 3 (.tmp 69), 3, "law.go:79", #[⟨2, .data⟩], none⟩) hS0 ?_ ?_
    rotate_left
    · intro W hSW
      go_simp
      try with_reducible rfl
    simp only [Act.put, sA, s0, sS]
    refine tk (i := 4) (v := ?_) (oi := ⟨some 71, .fieldAddr 25 (.tmp 2) 0, 0, "law.go:79", #[], none⟩) hS0 ?_ ?_
    rotate_left
    · intro W hSW
      go_simp
      try with_reducible rfl
    simp only [Act.put, sA, s0, sS]
    refine tk (i := 5) (v := ?_) (oi := ⟨some 72, .load 22 (.tmp 71), 22, "law.go:79", #[⟨4, .data⟩], none⟩) hS0 ?_ ?_
    rotate_left
    · intro W hSW
      go_simp
      try with_reducible rfl
    simp only [Act.put, sA, s0, sS]
    refine tk (i := 6) (v := ?_) (oi := ⟨some 73, .call ⟨.builtin .len, #[.tmp 72], #[22]⟩, 3, "law.go:79", #[⟨5, .data⟩], none⟩) hS0 ?_ ?_
    rotate_left
    · intro W hSW
      go_simp
      try with_reducible rfl
    simp only [Act.put, sA, s0, sS]
    refine tk (i := 7) (v := ?_) (oi := ⟨some 74, .binOp .lss 3 (.tmp 70) (.tmp 73) 3, 4, "law.go:79", #[⟨3, .data⟩, ⟨6, .data⟩], none⟩) hS0 ?_ ?_
    rotate_left
    · intro W hSW
      go_simp
      try with_reducible rfl
    simp only [Act.put, sA, s0, sS]
    refine wpAnyL_done (by kernel_rfl) ?_ _
    clear hS0 HSd HRn hkb HZP HZO
    go_wp2_with fail
    exact ⟨⟨i + 2, row, by go_num, by omega, HOW.out, HPA.out.1, HPA.out.2, by omega, BR.drew⟩, by simp [intOf]; omega⟩
  have hdt : decide (rz < (f.terms.length : Int)) = false := decide_eq_false hterm
  refine wp_region_L (fun W => (W.cell? ⟨F, 0, none⟩ = some (.slice ta f.terms.length tc) ∧ W.cell? ⟨F, 1, none⟩ = some (.slice na f.nons.length nc) ∧ W.cell? ⟨F, 2, none⟩ = some (.slice pa f.prods.length pc)) ∧ W.cell? ⟨rb, ro + z, none⟩ = some (.int .i64 rz)) 8 (by kernel_rfl) 8 rfl ?_
  refine tk (i := 0) (v := ?_) (oi := ⟨some 67, .move (.tmp 7), 47, "law.go:79", #[], none⟩) hS0 ?_ ?_
  rotate_left
  · intro W hSW
    go_simp
    try with_reducible rfl
  simp only [Act.put, sA, s0, sS]
  refine tk (i := 1) (v := ?_) (oi := ⟨some 68, .move (.tmp 9), 3, "law.go:79", #[], none⟩) hS0 ?_ ?_
  rotate_left
  · intro W hSW
    go_simp
    try with_reducible rfl
  simp only [Act.put, sA, s0, sS]
  refine tk (i := 2) (v := ?_) (oi := ⟨some 69, .indexAddr 47 (.tmp 67) (.tmp 68), 0, "law.go:79", #[⟨0, .data⟩, ⟨1, .data⟩], none⟩) hS0 ?_ ?_
  rotate_left
  · intro W hSW
    go_simp
    try with_reducible rfl
  simp only [Act.put, sA, s0, sS]
  refine tk (i := 3) (v := ?_) (oi := ⟨some 70, .load 3 (.tmp 69), 3, "law.go:79", #[⟨2, .data⟩], none⟩) hS0 ?_ ?_
  rotate_left
  · intro W hSW
    go_simp
    try with_reducible rfl
  simp only [Act.put, sA, s0, sS]
  refine tk (i := 4) (v := ?_) (oi := ⟨some 71, .fieldAddr 25 (.tmp 2) 0, 0, "law.go:79", #[], none⟩) hS0 ?_ ?_
  rotate_left
  · intro W hSW
    go_simp
    try with_reducible rfl
  simp only [Act.put, sA, s0, sS]
  refine tk (i := 5) (v := ?_) (oi := ⟨some 72, .load 22 (.tmp 71), 22, "law.go:79", #[⟨4, .data⟩], none⟩) hS0 ?_ ?_
  rotate_left
  · intro W hSW
    go_simp
    try with_reducible rfl
  simp only [Act.put, sA, s0, sS]
  refine tk (i := 6) (v := ?_) (oi := ⟨some 73, .call ⟨.builtin .len, #[.tmp 72], #[22]⟩, 3, "law.go:79", #[⟨5, .data⟩], none⟩) hS0 ?_ ?_
  rotate_left
  · intro W hSW
    go_simp
    try with_reducible rfl
  simp only [Act.put, sA, s0, sS]
  refine tk (i := 7) (v := ?_) (oi := ⟨some 74, .binOp .lss 3 (.tmp 70) (.tmp 73) 3, 4, "law.go:79", #[⟨3, .data⟩, ⟨6, .data⟩], none⟩) hS0 ?_ ?_
  rotate_left
  · intro W hSW
    go_simp
    try with_reducible rfl
  simp only [Act.put, sA, s0, sS]
  refine wpAnyL_done (by kernel_rfl) ?_ _
  clear hS0
  go_wp2_with fail
  have BQ : Below w3.heap.size w3 wr.drew.drew := BR.drew.drew
  have bq : Below wr.heap.size wr wr.drew.drew := (Below.refl _ wr).drew.drew
  have hS1 := HSd.out _ bq
  refine wp_region_L (fun W => (W.cell? ⟨F, 0, none⟩ = some (.slice ta f.terms.length tc) ∧ W.cell? ⟨F, 1, none⟩ = some (.slice na f.nons.length nc) ∧ W.cell? ⟨F, 2, none⟩ = some (.slice pa f.prods.length pc)) ∧ W.cell? ⟨rb, ro + z, none⟩ = some (.int .i64 rz)) 7 (by kernel_rfl) 7 rfl ?_
  refine tk (i := 0) (v := ?_) (oi := ⟨some 75, .load 25 (.tmp 2), 25, "law.go:82", #[], none⟩) hS1 ?_ ?_
  rotate_left
  · intro W hSW
    go_simp
    try with_reducible rfl
  simp only [Act.put, sA, s0, sS]
  refine tk (i := 1) (v := ?_) (oi := ⟨some 76, .move (.tmp 7), 47, "law.go:82", #[], none⟩) hS1 ?_ ?_
  rotate_left
  · intro W hSW
    go_simp
    try with_reducible rfl
  simp only [Act.put, sA, s0, sS]
  refine tk (i := 2) (v := ?_) (oi := ⟨some 77, .move (.tmp 9), 3, "law.go:82", #[], none⟩) hS1 ?_ ?_
  rotate_left
  · intro W hSW
    go_simp
    try with_reducible rfl
  simp only [Act.put, sA, s0, sS]
  refine tk (i := 3) (v := ?_) (oi := ⟨some 78, .indexAddr 47 (.tmp 76) (.tmp 77), 0, "law.go:82", #[⟨1, .data⟩, ⟨2, .data⟩], none⟩) hS1 ?_ ?_
  rotate_left
  · intro W hSW
    go_simp
    try with_reducible rfl
  simp only [Act.put, sA, s0, sS]
  refine tk (i := 4) (v := ?_) (oi := ⟨some 79, .load 3 (.tmp 78), 3, "law.go:82", #[⟨3, .data⟩], none⟩) hS1 ?_ ?_
  rotate_left
  · intro W hSW
    go_simp
    try with_reducible rfl
  simp only [Act.put, sA, s0, sS]
  refine wpAnyL_one' (i := 5) (o := ⟨some 80, .call ⟨.value (.func 25), #[.tmp 75, .tmp 79], #[25, 3]⟩, 47, "law.go:82", #[⟨0, .data⟩, ⟨4, .data⟩], none⟩) (by kernel_rfl) rfl rfl (fun KQ hK => ?_)
  go_simp
  refine (H5.out rz _ (HB.out _ BQ) (by omega)).mono ?_
  rintro e w6 ⟨v6, rfl, s6, _, b6⟩
  have B6 := below_then BQ b6 BQ.size
  have b6' := below_then bq b6 bq.size
  have hS6 := HSd.out _ b6'
  obtain ⟨oa, oc, rfl, _⟩ := id s6
  refine hK.out _ _ (fun _ => hS6) ?_
  clear hK b6
  refine tk (i := 6) (v := ?_) (oi := ⟨some 10, .assign (.tmp 80), 47, "law.go:82", #[⟨5, .data⟩, ⟨5, .chain⟩, ⟨0, .phase⟩, ⟨1, .phase⟩, ⟨2, .phase⟩, ⟨3, .phase⟩, ⟨4, .phase⟩, ⟨5, .phase⟩], none⟩) hS6 ?_ ?_
  rotate_left
  · intro W hSW
    go_simp
    try with_reducible rfl
  simp only [Act.put, sA, s0, sS]
  refine wpAnyL_done (by kernel_rfl) ?_ _
  have HO6 : Hid ((w6.alloc (Obj.cells #[] 3)).ownsRow w6.heap.size 3 1 (.slice (some ⟨w6.heap.size, 0, none⟩) 0 0) 0 []) := World.ownsRow_lit w6 #[] 0 (Nat.le_refl _) (by unfold maxLen; omega) rfl
  have HL6 : Hid (((row.take z).map encI).length = z * 1) := by show _ = _; simp; omega
  have HN6 : Hid (∀ ad, some (⟨rb, ro, none⟩ : Addr) = some ad → ∀ (j : Nat) (u : Value), ((row.take z).map encI)[j]? = some u → (w6.alloc (Obj.cells #[] 3)).cell? (ad.add j) = some u) := by
    rintro ad e j u hj
    cases e
    rw [List.getElem?_map] at hj
    obtain ⟨x, hx, rfl⟩ := Option.map_eq_some_iff.1 hj
    obtain ⟨_, _, e1, hr1, _⟩ := HRn.out _ (b6'.alloc b6'.size (Obj.cells #[] 3))
    cases e1
    have hjz : j < z := by
      have := (List.getElem?_eq_some_iff.1 hx).1
      rw [List.length_take] at this; omega
    rw [List.getElem?_take_of_lt hjz] at hx
    obtain ⟨_, _, e2, _, c⟩ := hr1 j x hx
    cases e2
    rw [add_plain]; exact c
  have HE6 : Hid (∀ u ∈ (row.take z).map encI, u.oneCell' = true) := by
    intro u hu
    obtain ⟨x, _, rfl⟩ := List.mem_map.1 hu
    rfl
  have hzc : z ≤ rc := by omega
  have hzrl : row.length ≤ 1000 := by omega
  clear hS1 hS6 bq BQ
  have BA6 : Below w6.heap.size w6 (w6.alloc (Obj.cells #[] 3)) := (Below.refl _ _).alloc (Nat.le_refl _) _
  go_wp2_with (at_builtin; refine wpList_append_any rfl (.tmp 81) (.tmp 84) 47 rfl w6.heap.size 3 i0 _ 1 8 Tryz.underlying47 hi0 hz0 hz1 hz2 rfl (by decide) _ 0 [] rfl HO6.out (some ⟨rb, ro, none⟩) z rc ((row.take z).map encI) rfl (fun e => by cases e) HL6.out HN6.out HE6.out (by unfold maxLen; omega) (by omega) BA6.size ?_)
  intro v7 w7 hown7 hg7
  try simp only [Nat.zero_add, List.nil_append] at hown7
  have B7 : Below w6.heap.size w6 w7 := BA6.grown hg7 BA6.size (fun k e => (World.ownsRow.lt HO6.out k e).1)
  obtain ⟨a7, c7, rfl⟩ := slice_of_own hown7
  have HO7 : Hid (Own1 3 encI w6.heap.size (row.take z) (.slice a7 z c7) w7) := by
    show World.ownsRow _ _ _ _ _ _ _
    rw [List.length_take, Nat.min_eq_left (by omega), List.map_take]; exact hown7
  clear hown7 hg7 HO6 HL6 HN6 HE6 BA6
  have hne : ofA f rz ≠ [] := HZO.out (by omega)
  have hOl : (ofA f rz).length ≤ 1000 := by
    have := ofL_len f rz f.prods.length
    unfold ofA; omega
  obtain ⟨z2, hzz, hz2l⟩ := pick_lt pk2 (ofA f rz).length (List.length_pos_iff.2 hne) (by omega)
  obtain ⟨q, p, hqe, hq, hpl⟩ := mem_ofA.1 (List.getElem_mem hz2l)
  have hql : q < f.prods.length := (List.getElem?_eq_some_iff.1 hq).1
  have B7d : Below w6.heap.size w6 w7.drew := B7.drew
  obtain ⟨_, _, e0, hor, _⟩ := s6.next B7d
  cases e0
  obtain ⟨ob, oo, eo, hob, co⟩ := hor z2 _ (List.getElem?_eq_getElem hz2l)
  subst eo
  rw [hqe] at co
  unfold encI at co
  obtain ⟨pb, po, vp, ep, hpb, p0, p1, p2, hsp, _⟩ := (HPR.out _ (HB.out _ B6)) q p hq
  subst ep
  obtain ⟨ra2, rc2, rfl, hits, _⟩ := hsp
  have HIT : Hid (∀ W, Below w6.heap.size w6 W → ItsAt p.right ra2 W) := fun W hb => hits.next hb
  have p1' := (B7d.cell (p := ⟨pb, po + q * 3 + 1, none⟩) hpb).trans p1
  have HPN : Hid (Path f (row.take z ++ p.right.map (·.sym))) := HZP.out q p hq hpl
  have hpr64 : p.right.length ≤ 64 := HP.out.right p (List.mem_of_getElem? hq)
  have HSY : Hid (∀ x ∈ p.right, 0 ≤ x.sym ∧ x.sym < (f.n : Int)) := fun x hx => HP.out.sym p (List.mem_of_getElem? hq) x hx
  have ck3 := hkb.out _ (below_then b6' B7d b6'.size)
  obtain ⟨d0, d1, d2⟩ := HX.out _ (below_then B6 B7d B6.size)
  have hS7 : (fun W : World => ((W.cell? ⟨F, 0, none⟩ = some (.slice ta f.terms.length tc) ∧ W.cell? ⟨F, 1, none⟩ = some (.slice na f.nons.length nc) ∧ W.cell? ⟨F, 2, none⟩ = some (.slice (some ⟨pb, po, none⟩) f.prods.length pc)) ∧ W.cell? ⟨kb, ko + (i + 1), none⟩ = some (.int .i64 pk2) ∧ W.cell? ⟨ob, oo + z2, none⟩ = some (.int .i64 q) ∧ W.cell? ⟨pb, po + q * 3 + 1, none⟩ = some (.slice ra2 p.right.length rc2))) w7.drew := ⟨⟨d0, d1, d2⟩, ck3, co, p1'⟩
  clear d0 d1 d2 ck3 co p0 p1 p1' p2 hits hor s6 HSd HRn HZP HZO hkb hqe hne
  generalize (ofA f rz).length = OL at *
  have hw1 : IntKind.i64.wrap ((i : Int) + 1) = ((i + 1 : Nat) : Int) := by rw [IntKind.wrap_i64]; omega
  have hw2 : IntKind.u64.wrap (OL : Int) = (OL : Int) := by rw [IntKind.wrap_u64]; omega
  have hzw : IntKind.i64.wrap ((IntKind.u64.wrap pk2).tmod (OL : Int)) = (z2 : Int) := (IntKind.wrap_i64 _).trans (by unfold wrap64 at hzz; exact hzz)
  have hOn : ¬ OL = 0 := by omega
  have hi1 : i + 1 < picks.length := g1
  have h0i : (0 : Int) ≤ (i : Int) + 1 := by omega
  go_wp2_with fail
  refine wp_region_L (fun W => (W.cell? ⟨F, 0, none⟩ = some (.slice ta f.terms.length tc) ∧ W.cell? ⟨F, 1, none⟩ = some (.slice na f.nons.length nc) ∧ W.cell? ⟨F, 2, none⟩ = some (.slice (some ⟨pb, po, none⟩) f.prods.length pc)) ∧ W.cell? ⟨kb, ko + (i + 1), none⟩ = some (.int .i64 pk2) ∧ W.cell? ⟨ob, oo + z2, none⟩ = some (.int .i64 q) ∧ W.cell? ⟨pb, po + q * 3 + 1, none⟩ = some (.slice ra2 p.right.length rc2)) 21 (by kernel_rfl) 21 rfl ?_
  refine tk (i := 0) (v := ?_) (oi := ⟨some 86, .fieldAddr 25 (.tmp 2) 2, 0, "law.go:84", #[], none⟩) hS7 ?_ ?_
  rotate_left
  · intro W hSW
    go_simp
    try with_reducible rfl
  simp only [Act.put, sA, s0, sS]
  refine tk (i := 1) (v := ?_) (oi := ⟨some 87, .load 23 (.tmp 86), 23, "law.go:84", #[⟨0, .data⟩], none⟩) hS7 ?_ ?_
  rotate_left
  · intro W hSW
    go_simp
    try with_reducible rfl
  simp only [Act.put, sA, s0, sS]
  refine tk (i := 2) (v := ?_) (oi := ⟨some 88, .move (.tmp 10), 47, "law.go:84", #[], none⟩) hS7 ?_ ?_
  rotate_left
  · intro W hSW
    go_simp
    try with_reducible rfl
  simp only [Act.put, sA, s0, sS]
  refine tk (i := 3) (v := ?_) (oi := ⟨some 89, .move (.tmp 1), 47, "law.go:84", #[], none⟩) hS7 ?_ ?_
  rotate_left
  · intro W hSW
    go_simp
    try with_reducible rfl
  simp only [Act.put, sA, s0, sS]
  refine tk (i := 4) (v := ?_) (oi := ⟨some 90, .move (.tmp 8), 3, "law.go:84", #[], none⟩) hS7 ?_ ?_
  rotate_left
  · intro W hSW
    go_simp
    try with_reducible rfl
  simp only [Act.put, sA, s0, sS]
  refine tk (i := 5) (v := ?_) (oi := ⟨some 91, .binOp .add 3 (.tmp 90) (.const (.int .i64 1)) 3, 3, "law.go:84", #[⟨4, .data⟩], none⟩) hS7 ?_ ?_
  rotate_left
  · intro W hSW
    go_simp
    try with_reducible rfl
  simp only [Act.put, sA, s0, sS]
  try simp only [hw1]
  refine tk (i := 6) (v := ?_) (oi := ⟨some 92, .indexAddr 47 (.tmp 89) (.tmp 91), 0, "law.go:84", #[⟨3, .data⟩, ⟨5, .data⟩], none⟩) hS7 ?_ ?_
  rotate_left
  · intro W hSW
    go_simp
    try with_reducible rfl
  simp only [Act.put, sA, s0, sS]
  refine tk (i := 7) (v := ?_) (oi := ⟨some 93, .load 3 (.tmp 92), 3, "law.go:84", #[⟨6, .data⟩], none⟩) hS7 ?_ ?_
  rotate_left
  · intro W hSW
    go_simp
    try with_reducible rfl
  simp only [Act.put, sA, s0, sS]
  refine tk (i := 8) (v := ?_) (oi := ⟨some 94, .convert 3 50 (.tmp 93), 50, "law.go:84", #[⟨7, .data⟩], none⟩) hS7 ?_ ?_
  rotate_left
  · intro W hSW
    go_simp
    try with_reducible rfl
  simp only [Act.put, sA, s0, sS]
  refine tk (i := 9) (v := ?_) (oi := ⟨some 95, .move (.tmp 10), 47, "law.go:84", #[], none⟩) hS7 ?_ ?_
  rotate_left
  · intro W hSW
    go_simp
    try with_reducible rfl
  simp only [Act.put, sA, s0, sS]
  refine tk (i := 10) (v := ?_) (oi := ⟨some 96, .call ⟨.builtin .len, #[.tmp 95], #[47]⟩, 3, "law.go:84", #[⟨9, .data⟩], none⟩) hS7 ?_ ?_
  rotate_left
  · intro W hSW
    go_simp
    try with_reducible rfl
  simp only [Act.put, sA, s0, sS]
  refine tk (i := 11) (v := ?_) (oi := ⟨some 97, .convert 3 50 (.tmp 96), 50, "law.go:84", #[⟨10, .data⟩], none⟩) hS7 ?_ ?_
  rotate_left
  · intro W hSW
    go_simp
    try with_reducible rfl
  simp only [Act.put, sA, s0, sS]
  try simp only [hw2]
  refine tk (i := 12) (v := ?_) (oi := ⟨some 98, .binOp .rem 50 (.tmp 94) (.tmp 97) 50, 50, "law.go:84", #[⟨8, .data⟩, ⟨11, .data⟩], none⟩) hS7 ?_ ?_
  rotate_left
  · intro W hSW
    go_simp
    try with_reducible rfl
  simp only [Act.put, sA, s0, sS]
  refine tk (i := 13) (v := ?_) (oi := ⟨some 99, .convert 50 3 (.tmp 98), 3, "law.go:84", #[⟨12, .data⟩], none⟩) hS7 ?_ ?_
  rotate_left
  · intro W hSW
    go_simp
    try with_reducible rfl
  simp only [Act.put, sA, s0, sS]
  try simp only [hzw]
  refine tk (i := 14) (v := ?_) (oi := ⟨some 100, .indexAddr 47 (.tmp 88) (.tmp 99), 0, "law.go:84", #[⟨2, .data⟩, ⟨13, .data⟩], none⟩) hS7 ?_ ?_
  rotate_left
  · intro W hSW
    go_simp
    try with_reducible rfl
  simp only [Act.put, sA, s0, sS]
  refine tk (i := 15) (v := ?_) (oi := ⟨some 101, .load 3 (.tmp 100), 3, "law.go:84", #[⟨14, .data⟩], none⟩) hS7 ?_ ?_
  rotate_left
  · intro W hSW
    go_simp
    try with_reducible rfl
  simp only [Act.put, sA, s0, sS]
  refine tk (i := 16) (v := ?_) (oi := ⟨some 102, .indexAddr 23 (.tmp 87) (.tmp 101), 0, "law.go:84", #[⟨1, .data⟩, ⟨15, .data⟩], none⟩) hS7 ?_ ?_
  rotate_left
  · intro W hSW
    go_simp
    try with_reducible rfl
  simp only [Act.put, sA, s0, sS]
  refine tk (i := 17) (v := ?_) (oi := ⟨some 103, .fieldAddr 54 (.tmp 102) 1, 0, "law.go:84", #[⟨16, .data⟩], none⟩) hS7 ?_ ?_
  rotate_left
  · intro W hSW
    go_simp
    try with_reducible rfl
  simp only [Act.put, sA, s0, sS]
  refine tk (i := 18) (v := ?_) (oi := ⟨some 104, .load 52 (.tmp 103), 52, "law.go:84", #[⟨17, .data⟩], none⟩) hS7 ?_ ?_
  rotate_left
  · intro W hSW
    go_simp
    try with_reducible rfl
  simp only [Act.put, sA, s0, sS]
  refine tk (i := 19) (v := ?_) (oi := ⟨some 105, .call ⟨.builtin .len, #[.tmp 104], #[52]⟩, 3, "law.go:84", #[⟨18, .data⟩], none⟩) hS7 ?_ ?_
  rotate_left
  · intro W hSW
    go_simp
    try with_reducible rfl
  simp only [Act.put, sA, s0, sS]
  refine tk (i := 20) (v := ?_) (oi := ⟨some 106, .move (.const (.int .i64 0)), 3, "law.go:84", #[], none⟩) hS7 ?_ ?_
  rotate_left
  · intro W hSW
    go_simp
    try with_reducible rfl
  simp only [Act.put, sA, s0, sS]
  refine wpAnyL_done (by kernel_rfl) ?_ _
  have B8 : Below w6.heap.size w6 w7.drew := B7.drew
  have HO8 : Hid (Own1 3 encI w6.heap.size (row.take z) (.slice a7 z c7) w7.drew) := HO7.out
  generalize w7.drew = w8 at *
  clear hS7 B7 B7d HO7
  go_wp2_with fail
  go_loopw [11, 106] (fun nv iv wr => ∃ (k : Nat), iv = .int .i64 k ∧ k ≤ p.right.length ∧ Own1 3 encI w6.heap.size (row.take z ++ (p.right.map (·.sym)).take k) nv wr ∧ Below w6.heap.size w6 wr) (fun _ i _ => p.right.length - (intOf i).toNat)
  case atStart => exact ⟨0, rfl, Nat.zero_le _, by simpa using HO8.out, B8⟩
  case round =>
  clear HO8 B8
  obtain ⟨k, rfl, hk, hown, BI⟩ := hrel
  obtain ⟨na2, nc2, rfl⟩ := slice_of_own hown
  have hsz6 := BI.size
  by_cases hkl : k < p.right.length
  case neg =>
    obtain rfl : k = p.right.length := by omega
    have hRL : row.take z ++ (p.right.map (·.sym)).take p.right.length = row.take z ++ p.right.map (·.sym) := congrArg (row.take z ++ ·) (List.take_of_length_le (by rw [List.length_map]; exact Nat.le_refl _))
    rw [hRL] at hown ⊢
    have HN2 : Hid (Path f (row.take z ++ p.right.map (·.sym)) ∧ (∀ x ∈ row.take z ++ p.right.map (·.sym), 0 ≤ x ∧ x < (f.n : Int)) ∧ (row.take z ++ p.right.map (·.sym)).length ≤ 1 + 64 * (i + 2)) := by
      refine ⟨HPN.out, fun x hx => ?_, ?_⟩
      · rcases List.mem_append.1 hx with hx | hx
        · exact HPA.out.2 x (List.mem_of_mem_take hx)
        · obtain ⟨y, hy, rfl⟩ := List.mem_map.1 hx
          exact HSY.out y hy
      · rw [List.length_append, List.length_take, List.length_map]; omega
    have HOn : Hid (Own1 3 encI w3.heap.size (row.take z ++ p.right.map (·.sym)) (.slice na2 (row.take z ++ p.right.map (·.sym)).length nc2) wr) := World.ownsRow.mono hown B6.size
    clear hown HPN HSY HIT hRL HPA HOW
    generalize row.take z ++ p.right.map (·.sym) = RL at *
    go_wp2_with fail
    exact ⟨⟨i + 2, RL, by go_num, by omega, HOn.out, HN2.out.1, HN2.out.2.1, HN2.out.2.2, below_then B6 BI B6.size⟩, by simp [intOf]; omega⟩
  obtain ⟨ib, io, ei, hib, x0, x1, x2, hxb, hxs, hxs2⟩ := (HIT.out _ BI) k p.right[k] (List.getElem?_eq_getElem hkl)
  subst ei
  have HSN : Hid (row.take z ++ (p.right.map (·.sym)).take (k + 1) = (row.take z ++ (p.right.map (·.sym)).take k) ++ [p.right[k].sym]) := by
    show _ = _
    rw [List.take_succ_eq_append_getElem (by rw [List.length_map]; exact hkl), List.getElem_map, List.append_assoc]
  have hRLl : (row.take z ++ (p.right.map (·.sym)).take k).length ≤ 2000 := by
    rw [List.length_append, List.length_take, List.length_take, List.length_map]; omega
  unfold Own1 at hown
  generalize row.take z ++ (p.right.map (·.sym)).take k = RL at *
  generalize p.right[k] = x at *
  obtain ⟨LV, hLV⟩ : ∃ LV, RL.map encI = LV := ⟨_, rfl⟩
  have HLV : Hid (RL.map encI = LV) := hLV
  rw [hLV] at hown
  clear hLV
  have B1a : Below w6.heap.size w6 (wr.alloc (Obj.cells #[.int .i64 x.sym, .string x.fld, .string x.als] 56)) := BI.alloc hsz6 _
  have hsza := B1a.size
  have w1o := World.ownsRow.alloc hown (Obj.cells #[.int .i64 x.sym, .string x.fld, .string x.als] 56)
  have t0 : (wr.alloc (Obj.cells #[.int .i64 x.sym, .string x.fld, .string x.als] 56)).cell? ⟨wr.heap.size, 0, none⟩ = some (.int .i64 x.sym) := by simp
  clear HPN HSY
  go_wp2_with (at_builtin; refine wpList_append_own _ rfl (.tmp 110) (.tmp 113) 47 rfl w6.heap.size 3 i0 _ 1 8 Tryz.underlying47 hi0 hz0 hz1 hz2 rfl (by decide) _ RL.length LV rfl (World.ownsRow.alloc w1o _) ⟨wr.heap.size + 1, 0, none⟩ 1 1 [encI x.sym] rfl rfl (by first | exact new_cell _ _ _ | (have := new_cell (wr.alloc (Obj.cells #[.int .i64 x.sym, .string x.fld, .string x.als] 56)) (encI x.sym) 3; simpa [encI] using this)) (by simp [encI]; rfl) (by unfold maxLen; omega) (by omega) (by simp; omega) ?_)
  intro v9 w9 hown9 hg9 _
  have B9 : Below w6.heap.size w6 w9 := (B1a.alloc hsza _).grown hg9 (by simp; omega) (fun k e => (World.ownsRow.lt hown k e).1)
  obtain ⟨a9, c9, rfl⟩ := slice_of_own hown9
  have HW9 : Hid (Own1 3 encI w6.heap.size (RL ++ [x.sym]) (.slice a9 (RL.length + 1) c9) w9) := by
    show World.ownsRow _ _ _ _ _ _ _
    have := hown9
    rw [← HLV.out] at this
    simpa using this
  clear hown9 hg9 hown w1o B1a hsza t0 x0 x1 x2
  go_wp2_with fail
  exact ⟨⟨k + 1, by go_num, by omega, by rw [HSN.out]; exact HW9.out, B9⟩, by simp [intOf]; omega⟩
end Go.Proofs.YtlaplmmicccbcaaGreatDoor
/- A plain grammar, items, a production, and numbers among the arguments, opened: what they hold as cells. -/
namespace Go.Proofs.YtlaplmmicccbcaaGreatDoor
open Go.ChangeShapes Go.WideShapes Go.ChangeAt Go.RowKit Go.Joins Go.Deep

theorem own : ownKnob Tryz.prog.godebug = none := by kernel_rfl
theorem cellsItem : Tryz.prog.cellsOf 56 = 3 := by kernel_rfl
theorem cellsProd : Tryz.prog.cellsOf 54 = 3 := by kernel_rfl
theorem cellsFlat : Tryz.prog.cellsOf 25 = 3 := by kernel_rfl
theorem cellsInt : Tryz.prog.cellsOf 3 = 1 := by kernel_rfl
theorem cellsStr : Tryz.prog.cellsOf 9 = 1 := by kernel_rfl
theorem cellsItems : Tryz.prog.cellsOf 52 = 1 := by kernel_rfl
theorem cellsStrs : Tryz.prog.cellsOf 22 = 1 := by kernel_rfl
theorem cellsProds : Tryz.prog.cellsOf 23 = 1 := by kernel_rfl
theorem laidOut : laidOutB Tryz.prog = true := by kernel_rfl
theorem cell_plain {W : World} {a : Addr} {v : Value} (h : W.cell? a = some v) : ∃ b off, a = ⟨b, off, none⟩ := by
  obtain ⟨b, off, spot⟩ := a
  have hs : spot = none := by simpa using World.cell?_spot h
  subst hs
  exact ⟨b, off, rfl⟩
theorem i64_of {a : Int} (w : (Lit.int .i64 a).wf = true) : i64B a := by
  have := bounds_i64 w
  exact ⟨this.1, this.2⟩
theorem three_of : ∀ {l : List Value}, l.length = 3 → ∃ a b c, l = [a, b, c]
  | [a, b, c], _ => ⟨a, b, c, rfl⟩
theorem getR {α : Type} {l n : Nat} {q : Nat → α} (hl : l = n) {i : Nat} {x : α} (h : ((List.range l).map q)[i]? = some x) : i < n ∧ x = q i := by
  have hi : i < l := by
    have := (List.getElem?_eq_some_iff.1 h).1
    simpa using this
  rw [List.getElem?_map, List.getElem?_range hi] at h
  exact ⟨by omega, (Option.some.inj h).symm⟩

variable {H : Type} {enc : TypeId × Value → H} {W : World}

theorem weights_all {P : Program} {e : TypeId} : ∀ {l : List (DataW H)} {x : DataW H}, x ∈ l → ∀ n ∈ x.weights P e, n ∈ DataW.weightsAll P e l
  | d :: r, x, h, n, hn => by
    rw [DataW.weightsAll, List.mem_append]
    rcases List.mem_cons.1 h with rfl | h
    · exact .inl hn
    · exact .inr (weights_all h n hn)
/-- A slice's own weight, and those of its elements, out of what it weighs. -/
theorem weigh_slice {t e : TypeId} {l m : Nat} {D : Nat → DataW H} (hu : Tryz.prog.underlying t = some (.slice e)) (hlm : l ≤ m)
    (hw : ∀ n ∈ (DataW.slice ((List.range l).map D) ((List.range (m - l)).map fun j => D (l + j)) : DataW H).weights Tryz.prog t, n ≤ reachBytes) :
    m * Tryz.prog.bytesOf e ≤ reachBytes ∧ ∀ i, i < l → ∀ n ∈ (D i).weights Tryz.prog e, n ≤ reachBytes := by
  rw [DataW.weights, hu] at hw
  simp only at hw
  refine ⟨?_, fun i hi n hn => hw n ?_⟩
  · have := hw _ (List.mem_cons_self ..)
    simp only [List.length_map, List.length_range] at this
    rw [show l + (m - l) = m by omega] at this
    exact this
  · refine List.mem_cons_of_mem _ (List.mem_append.2 (.inl (weights_all (List.mem_map.2 ⟨i, List.mem_range.2 hi, rfl⟩) n hn)))
theorem bytesItem : Tryz.prog.bytesOf 56 = 40 := by kernel_rfl
theorem bytesProd : Tryz.prog.bytesOf 54 = 40 := by kernel_rfl
theorem bytesStr : Tryz.prog.bytesOf 9 = 16 := by kernel_rfl

theorem open_nums {fuel : Nat} {sp : Nat → Bool} {cs : List Value} {x : DataW H × List MemPlace} (hf : DataW.trod enc Tryz.prog W 0 sp true fuel 47 cs = some x) :
    ∃ (es : List Int) (v : Value), cs = [v] ∧ SlI es v W := by
  rcases open_slice Tryz.underlying47 hf with ⟨hcs, _⟩ | ⟨a, l, c, m, n, D, Pl, hcs, _, hl, hmx, hmm, hx, hel⟩
  · exact ⟨[], _, hcs, none, 0, rfl, RowAt.nil _ _ _, fun _ => rfl, Nat.le_refl _, by simp⟩
  · have hlm : l ≤ m := by rw [hmm]; split <;> omega
    have each : ∀ i, i < l → ∃ q : Int, W.cell? (a.add i) = some (.int .i64 q) ∧ i64B q := by
      intro i hi
      obtain ⟨cs', h1, h2⟩ := hel i (by omega)
      rw [cellsInt] at h1
      obtain ⟨_, hlen', hcell⟩ := World.cells?_some h1
      obtain ⟨x0, e0, _, w0⟩ := DataW.trod_int Tryz.underlying3 h2
      subst e0
      have q0 := hcell 0 (by omega)
      rw [add_add] at q0
      exact ⟨x0, by simpa using q0, i64_of w0⟩
    obtain ⟨q, hq⟩ := choose_lt each
    refine ⟨(List.range l).map q, _, hcs, some a, c, by simp, fun i r hr => ?_, (fun h => by cases h), by simpa using hl, fun y hy => ?_⟩
    · obtain ⟨hi, rfl⟩ := getR rfl hr
      have c0 := (hq i hi).1
      have hc' : W.cell? a = some (.int .i64 (q 0)) := by simpa [Addr.add] using (hq 0 (by omega)).1
      obtain ⟨b, off, rfl⟩ := cell_plain hc'
      rw [add_plain] at c0
      exact ⟨b, off, rfl, World.block_lt_of_cell? W _ hc', c0⟩
    · obtain ⟨i, hi, rfl⟩ := List.mem_map.1 hy
      exact (hq i (List.mem_range.1 hi)).2

theorem open_texts {fuel : Nat} {cs : List Value} {x : DataW H × List MemPlace} (hf : DataW.trod enc Tryz.prog W 0 (fun _ => true) true fuel 22 cs = some x) (hw : ∀ n ∈ x.1.weights Tryz.prog 22, n ≤ reachBytes) :
    ∃ (es : List ByteArray) (ao : Option Addr) (cap : Nat), cs = [.slice ao es.length cap] ∧ RowAt Value.string es ao W ∧ es.length ≤ 140737488351232 := by
  rcases open_slice Tryz.underlying22 hf with ⟨hcs, _⟩ | ⟨a, l, c, m, n, D, Pl, hcs, _, hl, hmx, hmm, hx, hel⟩
  · exact ⟨[], none, 0, hcs, RowAt.nil _ _ _, by simp⟩
  · have hlm : l ≤ m := by rw [hmm]; split <;> omega
    rw [hx] at hw
    have hwt := weigh_slice Tryz.underlying22 hlm hw
    rw [bytesStr] at hwt
    unfold reachBytes at hwt
    have each : ∀ i, i < l → ∃ q : ByteArray, W.cell? (a.add i) = some (.string q) := by
      intro i hi
      obtain ⟨cs', h1, h2⟩ := hel i (by omega)
      rw [cellsStr] at h1
      obtain ⟨_, hlen', hcell⟩ := World.cells?_some h1
      obtain ⟨s, e0, _⟩ := DataW.trod_string Tryz.underlying9 h2
      subst e0
      have q0 := hcell 0 (by omega)
      rw [add_add] at q0
      exact ⟨s, by simpa using q0⟩
    obtain ⟨q, hq⟩ := choose_lt each
    refine ⟨(List.range l).map q, some a, c, by simpa using hcs, fun i r hr => ?_, by simp; omega⟩
    obtain ⟨hi, rfl⟩ := getR rfl hr
    have c0 := hq i hi
    have hc' : W.cell? a = some (.string (q 0)) := by simpa [Addr.add] using hq 0 (by omega)
    obtain ⟨b, off, rfl⟩ := cell_plain hc'
    rw [add_plain] at c0
    exact ⟨b, off, rfl, World.block_lt_of_cell? W _ hc', c0⟩

theorem open_items {fuel : Nat} {cs : List Value} {x : DataW H × List MemPlace} (hf : DataW.trod enc Tryz.prog W 0 (fun _ => true) true fuel 52 cs = some x) (hw : ∀ n ∈ x.1.weights Tryz.prog 52, n ≤ reachBytes) :
    ∃ (es : List It) (v : Value), cs = [v] ∧ SlT es v W := by
  rcases open_slice Tryz.underlying52 hf with ⟨hcs, _⟩ | ⟨a, l, c, m, n, D, Pl, hcs, _, hl, hmx, hmm, hx, hel⟩
  · exact ⟨[], _, hcs, none, 0, rfl, fun i x hi => by simp at hi, fun _ => rfl, Nat.le_refl _, by omega⟩
  · have hm : m = c := by simpa using hmm
    subst hm
    rw [hx] at hw
    have hwt := weigh_slice Tryz.underlying52 hl hw
    rw [bytesItem] at hwt
    unfold reachBytes at hwt
    have each : ∀ i, i < l → ∃ q : It, W.cell? (a.add (i * 3)) = some (.int .i64 q.sym) ∧ W.cell? (a.add (i * 3 + 1)) = some (.string q.fld) ∧ W.cell? (a.add (i * 3 + 2)) = some (.string q.als) ∧ i64B q.sym ∧ q.fld.size ≤ 9223372036854775807 ∧ q.als.size ≤ 9223372036854775807 := by
      intro i hi
      obtain ⟨cs', h1, h2⟩ := hel i (by omega)
      rw [cellsItem] at h1
      obtain ⟨_, hlen', hcell⟩ := World.cells?_some h1
      obtain ⟨y0, y1, y2, k, hy, _, g0, g1, g2⟩ := trod_struct3 Tryz.underlying56 h2
      obtain ⟨v0, v1, v2, rfl⟩ := three_of hlen'
      simp [cellsInt, cellsStr] at g0 g1 g2
      obtain ⟨x0, e0, _, w0⟩ := DataW.trod_int Tryz.underlying3 g0
      obtain ⟨s1, e1, _, w1⟩ := DataW.trod_string Tryz.underlying9 g1
      obtain ⟨s2, e2, _, w2⟩ := DataW.trod_string Tryz.underlying9 g2
      simp at e0 e1 e2
      subst e0 e1 e2
      have q0 := hcell 0 (by omega)
      have q1 := hcell 1 (by omega)
      have q2 := hcell 2 (by omega)
      rw [add_add] at q0 q1 q2
      unfold maxLen at w1 w2
      exact ⟨⟨x0, s1, s2⟩, by simpa using q0, by simpa using q1, by simpa using q2, i64_of w0, w1, w2⟩
    haveI : Inhabited It := ⟨⟨0, ByteArray.empty, ByteArray.empty⟩⟩
    obtain ⟨q, hq⟩ := choose_lt each
    refine ⟨(List.range l).map q, _, hcs, some a, m, by simp, fun i r hr => ?_, (fun h => by cases h), by simpa using hl, by omega⟩
    obtain ⟨hi, rfl⟩ := getR rfl hr
    obtain ⟨c0, c1, c2, c3⟩ := hq i hi
    have hc' : W.cell? a = some (.int .i64 (q 0).sym) := by simpa [Addr.add] using (hq 0 (by omega)).1
    obtain ⟨b, off, rfl⟩ := cell_plain hc'
    rw [add_plain] at c0 c1 c2
    exact ⟨b, off, rfl, World.block_lt_of_cell? W _ hc', c0, c1, c2, c3⟩

set_option maxRecDepth 100000 in
theorem open_prods {fuel : Nat} {cs : List Value} {x : DataW H × List MemPlace} (hf : DataW.trod enc Tryz.prog W 0 (fun _ => true) true fuel 23 cs = some x) (hw : ∀ n ∈ x.1.weights Tryz.prog 23, n ≤ reachBytes) :
    ∃ (es : List Pr) (ao : Option Addr) (cap : Nat), cs = [.slice ao es.length cap] ∧ PrsAt es ao W ∧ es.length ≤ 140737488351232 ∧ es.length ≤ cap ∧ (ao = none → cap = 0) := by
  rcases open_slice Tryz.underlying23 hf with ⟨hcs, _⟩ | ⟨a, l, c, m, n, D, Pl, hcs, _, hl, hmx, hmm, hx, hel⟩
  · exact ⟨[], none, 0, hcs, fun i x hi => by simp at hi, by simp, by simp, fun _ => rfl⟩
  · have hm : m = c := by simpa using hmm
    subst hm
    rw [hx] at hw
    have hwt := weigh_slice Tryz.underlying23 hl hw
    rw [bytesProd] at hwt
    have hb := hwt.1
    unfold reachBytes at hb
    have each : ∀ i, i < l → ∃ q : Pr × Value, W.cell? (a.add (i * 3)) = some (.int .i64 q.1.left) ∧ W.cell? (a.add (i * 3 + 1)) = some q.2 ∧ W.cell? (a.add (i * 3 + 2)) = some (.int .i64 q.1.prec) ∧ SlT q.1.right q.2 W ∧ i64B q.1.left ∧ i64B q.1.prec := by
      intro i hi
      obtain ⟨cs', h1, h2⟩ := hel i (by omega)
      rw [cellsProd] at h1
      obtain ⟨_, hlen', hcell⟩ := World.cells?_some h1
      obtain ⟨y0, y1, y2, k, hy, _, g0, g1, g2⟩ := trod_struct3 Tryz.underlying54 h2
      have hwi := hwt.2 i hi
      have hy1 : D i = .agg [y0.1, y1.1, y2.1] := by have := congrArg Prod.fst hy; exact this
      rw [hy1, DataW.weights, Tryz.underlying54] at hwi
      obtain ⟨v0, v1, v2, rfl⟩ := three_of hlen'
      simp [cellsInt, cellsItems] at g0 g1 g2
      obtain ⟨x0, e0, _, w0⟩ := DataW.trod_int Tryz.underlying3 g0
      obtain ⟨x2, e2, _, w2⟩ := DataW.trod_int Tryz.underlying3 g2
      obtain ⟨its, vv, e1, hT⟩ := open_items g1 (fun n hn => hwi n (by simp [DataW.weightsEach, hn]))
      simp at e0 e1 e2
      subst e0 e1 e2
      have q0 := hcell 0 (by omega)
      have q1 := hcell 1 (by omega)
      have q2 := hcell 2 (by omega)
      rw [add_add] at q0 q1 q2
      exact ⟨(⟨x0, its, x2⟩, v1), by simpa using q0, by simpa using q1, by simpa using q2, hT, i64_of w0, i64_of w2⟩
    haveI : Inhabited (Pr × Value) := ⟨(⟨0, [], 0⟩, .bool false)⟩
    obtain ⟨q, hq⟩ := choose_lt each
    refine ⟨(List.range l).map fun i => (q i).1, some a, m, by simpa using hcs, fun i r hr => ?_, by simp; omega, by simpa using hl, (fun h => by cases h)⟩
    obtain ⟨hi, rfl⟩ := getR rfl hr
    obtain ⟨c0, c1, c2, c3⟩ := hq i hi
    have hc' : W.cell? a = some (.int .i64 (q 0).1.left) := by simpa [Addr.add] using (hq 0 (by omega)).1
    obtain ⟨b, off, rfl⟩ := cell_plain hc'
    rw [add_plain] at c0 c1 c2
    exact ⟨b, off, _, rfl, World.block_lt_of_cell? W _ hc', c0, c1, c2, c3⟩

set_option maxRecDepth 100000 in
theorem open_flat {r : Reach} {b0 : Nat} {v : Value} {d : DataW H} {p : List MemPlace} (hv : Value.okWide Tryz.prog W r b0 25 v) (h : DataW.Trod enc Tryz.prog W 0 (fun _ => true) true 25 v d p) (hw : ∀ n ∈ d.weights Tryz.prog 25, n ≤ reachBytes) :
    ∃ f a, v = FlA.val a f ∧ FlAt f a W := by
  obtain ⟨v0, v1, v2, y0, y1, y2, n, rfl, rfl, _, g0, g1, g2⟩ := open_agg3 Tryz.underlying25 (by kernel_rfl) cellsFlat hv h
  rw [DataW.weights, Tryz.underlying25] at hw
  obtain ⟨ts, ta, tc, e0, hT, lt⟩ := open_texts g0 (fun n hn => hw n (by simp [DataW.weightsEach, hn]))
  obtain ⟨ns, na, nc, e1, hN, ln⟩ := open_texts g1 (fun n hn => hw n (by simp [DataW.weightsEach, hn]))
  obtain ⟨ps, pa, pc, e2, hP, lp, lc, ln0⟩ := open_prods g2 (fun n hn => hw n (by simp [DataW.weightsEach, hn]))
  simp at e0 e1 e2
  subst e0 e1 e2
  exact ⟨⟨ts, ns, ps⟩, ⟨ta, tc, na, nc, pa, pc⟩, rfl, hT, hN, hP, lt, ln, lp, lc, ln0⟩
set_option maxRecDepth 100000 in
theorem open_prod {r : Reach} {b0 : Nat} {v : Value} {d : DataW H} {p : List MemPlace} (hv : Value.okWide Tryz.prog W r b0 54 v) (h : DataW.Trod enc Tryz.prog W 0 (fun _ => true) true 54 v d p) (hw : ∀ n ∈ d.weights Tryz.prog 54, n ≤ reachBytes) :
    ∃ (q : Pr) (u : Value), v = .agg #[.int .i64 q.left, u, .int .i64 q.prec] ∧ SlT q.right u W ∧ i64B q.left ∧ i64B q.prec := by
  obtain ⟨v0, v1, v2, y0, y1, y2, n, rfl, rfl, _, g0, g1, g2⟩ := open_agg3 Tryz.underlying54 (by kernel_rfl) cellsProd hv h
  rw [DataW.weights, Tryz.underlying54] at hw
  obtain ⟨x0, e0, _, w0⟩ := DataW.trod_int Tryz.underlying3 g0
  obtain ⟨x2, e2, _, w2⟩ := DataW.trod_int Tryz.underlying3 g2
  obtain ⟨its, vv, e1, hT⟩ := open_items g1 (fun n hn => hw n (by simp [DataW.weightsEach, hn]))
  simp at e0 e1 e2
  subst e0 e1 e2
  exact ⟨⟨x0, its, x2⟩, v1, rfl, hT, i64_of w0, i64_of w2⟩
end Go.Proofs.YtlaplmmicccbcaaGreatDoor
/- Items among the arguments, opened. -/
namespace Go.Proofs.YtlaplmmicccbcaaGreatDoor
open Go.ChangeShapes Go.WideShapes Go.ChangeAt Go.RowKit Go.Joins Go.Deep

variable {H : Type} {enc : TypeId × Value → H} {W : World}
theorem cellsLr : Tryz.prog.cellsOf 30 = 3 := by kernel_rfl
theorem bytesLr : Tryz.prog.bytesOf 30 = 24 := by kernel_rfl
theorem open_irs {fuel : Nat} {cs : List Value} {x : DataW H × List MemPlace} (hf : DataW.trod enc Tryz.prog W 0 (fun _ => true) true fuel 26 cs = some x) :
    ∃ (es : List Ir) (v : Value), cs = [v] ∧ SlL es v W := by
  rcases open_slice Tryz.underlying26 hf with ⟨hcs, _⟩ | ⟨a, l, c, m, n, D, Pl, hcs, _, hl, hmx, hmm, hx, hel⟩
  · exact ⟨[], _, hcs, none, 0, rfl, fun i x hi => by simp at hi, fun _ => rfl, Nat.le_refl _⟩
  · have hm : m = c := by simpa using hmm
    subst hm
    have each : ∀ i, i < l → ∃ q : Ir, W.cell? (a.add (i * 3)) = some (.int .i64 q.1) ∧ W.cell? (a.add (i * 3 + 1)) = some (.int .i64 q.2.1) ∧ W.cell? (a.add (i * 3 + 2)) = some (.int .i64 q.2.2) ∧ okR q := by
      intro i hi
      obtain ⟨cs', h1, h2⟩ := hel i (by omega)
      rw [cellsLr] at h1
      obtain ⟨_, hlen', hcell⟩ := World.cells?_some h1
      obtain ⟨y0, y1, y2, k, hy, _, g0, g1, g2⟩ := trod_struct3 Tryz.underlying30 h2
      obtain ⟨v0, v1, v2, rfl⟩ := three_of hlen'
      simp [cellsInt] at g0 g1 g2
      obtain ⟨x0, e0, _, w0⟩ := DataW.trod_int Tryz.underlying3 g0
      obtain ⟨x1, e1, _, w1⟩ := DataW.trod_int Tryz.underlying3 g1
      obtain ⟨x2, e2, _, w2⟩ := DataW.trod_int Tryz.underlying3 g2
      simp at e0 e1 e2
      subst e0 e1 e2
      have q0 := hcell 0 (by omega)
      have q1 := hcell 1 (by omega)
      have q2 := hcell 2 (by omega)
      rw [add_add] at q0 q1 q2
      exact ⟨(x0, x1, x2), by simpa using q0, by simpa using q1, by simpa using q2, i64_of w0, i64_of w1, i64_of w2⟩
    haveI : Inhabited Ir := ⟨(0, 0, 0)⟩
    obtain ⟨q, hq⟩ := choose_lt each
    refine ⟨(List.range l).map q, _, hcs, some a, m, by simp, fun i r hr => ?_, (fun h => by cases h), by simpa using hl⟩
    obtain ⟨hi, rfl⟩ := getR rfl hr
    obtain ⟨c0, c1, c2, c3⟩ := hq i hi
    have hc' : W.cell? a = some (.int .i64 (q 0).1) := by simpa [Addr.add] using (hq 0 (by omega)).1
    obtain ⟨b, off, rfl⟩ := cell_plain hc'
    rw [add_plain] at c0 c1 c2
    exact ⟨b, off, rfl, World.block_lt_of_cell? W _ hc', c0, c1, c2, c3⟩
end Go.Proofs.YtlaplmmicccbcaaGreatDoor
/- The listed variable (the table of the trailing zeros), as the cards tie it. -/
namespace Go.Proofs.YtlaplmmicccbcaaGreatDoor
open Go.ChangeShapes Go.WideShapes Go.ChangeAt Go.RowKit Go.Joins Go.Deep

abbrev laidL : List (String × DataW Unit) := [("math/bits.deBruijn64tab", Rows.laid_math_bits_deBruijn64tab)]
theorem Tryz.gTab : Tryz.prog.globalNamed "math/bits.deBruijn64tab" = some 0 := by kernel_rfl
theorem tTab : (Tryz.prog.globals[0]?).map (·.type) = some 154 := by kernel_rfl
theorem tb_of_laid {W : World} (h : laidMetH Tryz.prog laidL W) : Tb W := by
  rw [MakeChecks.laidMetH_plain _ _ _ (by kernel_rfl)] at h
  have htab := Lib.tabIs_of_head (k := .u8) (zs := Lib.deBruijn64tab.map (fun n : Nat => (n : Int))) Tryz.gTab tTab Tryz.underlying154 Tryz.underlying5 (by kernel_rfl) (by kernel_rfl) h
  unfold Lib.TabIs at htab
  have key : TabAt 0 Lib.deBruijn64tab W := fun j hj => by
    have := World.var?_cell Tryz.gTab htab j
    rw [this]
    simp [hj]
  exact ⟨key, World.block_lt_of_cell? W _ (key 0 (by decide))⟩
theorem door_met (os : Os) (args : Array Value) : laidMetH Tryz.prog laidL ((World.doorLaid Tryz.prog 200 os).forCall (fun _ _ => 0) ⟨#[], args, []⟩).memory :=
  laidMetH_of_parts3 (fuel := 8) (laidMet_of_run' 8 (by kernel_rfl) (by kernel_rfl)) (by kernel_rfl) (by kernel_rfl)
end Go.Proofs.YtlaplmmicccbcaaGreatDoor
