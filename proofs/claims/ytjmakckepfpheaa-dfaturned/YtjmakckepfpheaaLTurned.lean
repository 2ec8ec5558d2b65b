/- Machines in one state: the law DfaTurned, walked. -/
import Derived.Test.YtjmakckepfpheaaLAwake
import Derived.Test.YtjmakckepfpheaaJWhMath
import Derived.Test.YtjmakckepfpheaaDSmall
import Derived.Deep.Cut
namespace Go.Proofs.Ytjmakckepfpheaa
open Go.RowKit Go.Shelf

set_option maxRecDepth 100000 in
set_option maxHeartbeats 8000000 in
theorem turned_any (a b : List Ds) (u v : Value) (s : ByteArray) (w : World) (ha : SlD a u w) (hb : SlD b v w) :
    Calls Try.prog 6 #[.agg #[u], .agg #[v], .string s] w fun e w' => e = .returned (.bool true) ∧ Below w.heap.size w w' := by
  have HA : Hid (∀ W, Below w.heap.size w W → SlD a u W) := fun W h => ha.next h
  have HB : Hid (∀ W, Below w.heap.size w W → SlD b v W) := fun W h => hb.next h
  obtain ⟨aa, ac, rfl, _⟩ := ha
  obtain ⟨ba, bc, rfl, _⟩ := hb
  obtain ⟨w0, hw0⟩ : ∃ w0, w0 = (w.alloc (Obj.cells #[.slice aa a.length ac] 24)).alloc (Obj.cells #[.slice ba b.length bc] 24) := ⟨_, rfl⟩
  have B0 : Below w.heap.size w w0 := by rw [hw0]; exact ((Below.refl _ _).alloc (Nat.le_refl _) _).alloc (by simp) _
  have k0 : w0.heap[w.heap.size]? = some (Obj.cells #[.slice aa a.length ac] 24) := by rw [hw0]; exact blk_new (heap_alloc_new _ _)
  have k1 : w0.heap[w.heap.size + 1]? = some (Obj.cells #[.slice ba b.length bc] 24) := by rw [hw0]; simpa using heap_alloc_new (w.alloc (Obj.cells #[.slice aa a.length ac] 24)) (Obj.cells #[.slice ba b.length bc] 24)
  have HBB : Hid (∀ W, Below w0.heap.size w0 W → Below w.heap.size w W) := fun W h => below_then B0 h B0.size
  have HCL : Hid (∀ W, Below w0.heap.size w0 W → W.cell? ⟨w.heap.size, 0, none⟩ = some (.slice aa a.length ac) ∧ W.cell? ⟨w.heap.size + 1, 0, none⟩ = some (.slice ba b.length bc)) := fun W h => ⟨by rw [Lib.cell_of_heap ((h.block _ (blk_lt k0)).trans k0)]; rfl, by rw [Lib.cell_of_heap ((h.block _ (blk_lt k1)).trans k1)]; rfl⟩
  obtain ⟨S1, hS1⟩ : ∃ S, smallD a = S := ⟨_, rfl⟩
  obtain ⟨S2, hS2⟩ : ∃ S, smallD b = S := ⟨_, rfl⟩
  obtain ⟨T1, hT1⟩ : ∃ T, fitB a = T := ⟨_, rfl⟩
  obtain ⟨T2, hT2⟩ : ∃ T, fitB b = T := ⟨_, rfl⟩
  have HW : Hid (∀ W, Below w0.heap.size w0 W → (Calls Try.prog 7 #[.agg #[.slice aa a.length ac]] W fun e w' => e = .returned (.bool S1) ∧ Below W.heap.size W w') ∧ (Calls Try.prog 7 #[.agg #[.slice ba b.length bc]] W fun e w' => e = .returned (.bool S2) ∧ Below W.heap.size W w') ∧ (Calls Try.prog 10 #[.agg #[.slice aa a.length ac]] W fun e w' => e = .returned (.bool T1) ∧ Below W.heap.size W w') ∧ (Calls Try.prog 10 #[.agg #[.slice ba b.length bc]] W fun e w' => e = .returned (.bool T2) ∧ Below W.heap.size W w')) := fun W h => by
    have h1 := HA.out _ (HBB.out _ h)
    have h2 := HB.out _ (HBB.out _ h)
    exact ⟨hS1 ▸ small_any a _ W h1, hS2 ▸ small_any b _ W h2, hT1 ▸ rfit_any a _ W h1, hT2 ▸ rfit_any b _ W h2⟩
  have HK : Hid (smallD a = S1 ∧ smallD b = S2 ∧ fitB a = T1 ∧ fitB b = T2) := ⟨hS1, hS2, hT1, hT2⟩
  clear hS1 hS2 hT1 hT2 k0 k1
  go_enter Try.func6, Try.ntmps6
  go_upto_region 1 with fail
  rw [← hw0]
  clear hw0
  go_cut [37] from 15 (fun t37 wx => t37 = .bool (!(S1 && S2 && T1 && T2 && decide ((s.size : Int) ≤ 1000))) ∧ Below w0.heap.size w0 wx)
  case first =>
    have bz0 : Below w0.heap.size w0 w0 := Below.refl _ _
    obtain ⟨q0, q1⟩ := HCL.out _ bz0
    have HQ := (HW.out _ bz0).1
    go_wp2_with fail
    refine HQ.mono ?_
    clear HQ q0 q1
    rintro e wz1 ⟨rfl, bb1⟩
    have bz1 := below_then bz0 bb1 bz0.size
    clear bb1
    cases S1
    · go_wp2_with fail
      go_meet
      exact ⟨by simp, bz1⟩
    obtain ⟨q0, q1⟩ := HCL.out _ bz1
    have HQ := (HW.out _ bz1).2.1
    go_wp2_with fail
    refine HQ.mono ?_
    clear HQ q0 q1
    rintro e wz2 ⟨rfl, bb2⟩
    have bz2 := below_then bz1 bb2 bz1.size
    clear bb2
    cases S2
    · go_wp2_with fail
      go_meet
      exact ⟨by simp, bz2⟩
    obtain ⟨q0, q1⟩ := HCL.out _ bz2
    have HQ := (HW.out _ bz2).2.2.1
    go_wp2_with fail
    refine HQ.mono ?_
    clear HQ q0 q1
    rintro e wz3 ⟨rfl, bb3⟩
    have bz3 := below_then bz2 bb3 bz2.size
    clear bb3
    cases T1
    · go_wp2_with fail
      go_meet
      exact ⟨by simp, bz3⟩
    obtain ⟨q0, q1⟩ := HCL.out _ bz3
    have HQ := (HW.out _ bz3).2.2.2
    go_wp2_with fail
    refine HQ.mono ?_
    clear HQ q0 q1
    rintro e wz4 ⟨rfl, bb4⟩
    have bz4 := below_then bz3 bb4 bz3.size
    clear bb4
    cases T2
    · go_wp2_with fail
      go_meet
      exact ⟨by simp, bz4⟩
    by_cases hsz : (s.size : Int) ≤ 1000
    case neg =>
      have dd : decide ((s.size : Int) ≤ 1000) = false := decide_eq_false hsz
      go_wp2_with fail
      go_meet
      exact ⟨by simp [dd], bz4⟩
    go_wp2_with fail
    go_meet
    exact ⟨by rw [decide_eq_true hsz, decide_eq_false (show ¬ (1000 < (s.size : Int)) by omega)]; rfl, bz4⟩
  case rest =>
  obtain ⟨rfl, hbc⟩ := hcut
  have HG : Hid ((S1 && S2 && T1 && T2 && decide ((s.size : Int) ≤ 1000)) = true → smallD a = true ∧ smallD b = true ∧ fitB a = true ∧ fitB b = true ∧ s.size ≤ 1000) := fun h => by
    simp only [Bool.and_eq_true, decide_eq_true_eq] at h
    obtain ⟨q1, q2, q3, q4⟩ := HK.out
    exact ⟨q1.trans h.1.1.1.1, q2.trans h.1.1.1.2, q3.trans h.1.1.2, q4.trans h.1.2, by omega⟩
  generalize (S1 && S2 && T1 && T2 && decide ((s.size : Int) ≤ 1000)) = G at *
  cases G
  case false =>
    have HE : Hid (Below w.heap.size w wc) := HBB.out _ hbc
    have CA := awake_any wc
    clear hbc HW HCL HA HB HBB HK HG B0
    go_wp2_with fail
    refine CA.mono ?_
    rintro e W1 ⟨rfl, hb1⟩
    have HE2 : Hid (Below w.heap.size w W1) := HE.out.trans (hb1.mono HE.out.size)
    clear CA hb1
    go_wp2_with fail
    go_ret
    exact ⟨rfl, HE2.out⟩
  obtain ⟨g1, g2, g3, g4, g5⟩ := HG.out rfl
  have HD1 : Hid (∀ W, Below w0.heap.size w0 W → Calls Try.prog 15 #[.agg #[.slice aa a.length ac], .agg #[.slice ba b.length bc]] W fun e w' => e = .returned (.tuple #[.string (difT (resD a 0) (resD b 0)).1, .bool (difT (resD a 0) (resD b 0)).2]) ∧ Below W.heap.size W w') := fun W h => (differ_val a b _ _ W (HA.out _ (HBB.out _ h)) (HB.out _ (HBB.out _ h)) g3 g4 g1 g2).mono (fun e W' h => ⟨h.1, h.2.2⟩)
  have HD2 : Hid (∀ W, Below w0.heap.size w0 W → Calls Try.prog 15 #[.agg #[.slice ba b.length bc], .agg #[.slice aa a.length ac]] W fun e w' => e = .returned (.tuple #[.string (difT (resD a 0) (resD b 0)).1, .bool (difT (resD a 0) (resD b 0)).2]) ∧ Below W.heap.size W w') := fun W h => (differ_val b a _ _ W (HB.out _ (HBB.out _ h)) (HA.out _ (HBB.out _ h)) g4 g3 g2 g1).mono (fun e W' h => ⟨by rw [difT_symm (resD a 0)]; exact h.1, h.2.2⟩)
  have HR1 : Hid (∀ W, Below w0.heap.size w0 W → Calls Try.prog 13 #[.agg #[.slice aa a.length ac], .string s] W fun e w' => e = .returned (.tuple #[.int .i64 (runD a (bsZ s)).1, .int .i64 (runD a (bsZ s)).2]) ∧ Below W.heap.size W w') := fun W h => run_any a _ s W (HA.out _ (HBB.out _ h)) (fit_up g3 g1) (by omega)
  have ffa := (fitB_fit g3).1
  have HL1 : Hid (∀ W, Below w0.heap.size w0 W → Calls Try.prog 17 #[.agg #[.slice aa a.length ac]] W fun e w' => ∃ dv, e = .returned (.agg #[dv]) ∧ Below W.heap.size W w' ∧ Calls Try.prog 13 #[.agg #[dv], .string s] w' fun e w'' => e = .returned (.tuple #[.int .i64 (runD a (bsZ s)).1, .int .i64 (runD a (bsZ s)).2]) ∧ Below w'.heap.size w' w'') := fun W h => (least_any a _ W (HA.out _ (HBB.out _ h)) g3 (by have := (small_bounds g1).1; omega) ffa (small_bounds g1).2).mono (by
    rintro e w' ⟨dv, d, rfl, h1, h2, h3, h4⟩
    refine ⟨dv, rfl, h4, ?_⟩
    have := run_any d dv s w' h1 (nf_up h2.fit) (by omega)
    rw [runD_same h2.fit ffa h3.1] at this
    exact this)
  generalize difT (resD a 0) (resD b 0) = D at *
  obtain ⟨dt, db⟩ := D
  simp only at HD1 HD2
  generalize runD a (bsZ s) = R at *
  obtain ⟨r1, r2⟩ := R
  simp only at HR1 HL1
  clear g1 g2 g3 g4 g5 ffa HW HA HB HK HG B0
  obtain ⟨q0, q1⟩ := HCL.out _ hbc
  have C1 := HD1.out _ hbc
  go_wp2_with fail
  refine C1.mono ?_
  rintro e W1 ⟨rfl, hb1⟩
  have b1 := below_then hbc hb1 hbc.size
  clear C1 q0 q1 hb1 hbc
  obtain ⟨q0, q1⟩ := HCL.out _ b1
  have C1 := HD2.out _ b1
  go_wp2_with fail
  refine C1.mono ?_
  rintro e W2 ⟨rfl, hb2⟩
  have b2 := below_then b1 hb2 b1.size
  clear C1 q0 q1 hb2 b1
  obtain ⟨q0, q1⟩ := HCL.out _ b2
  have C1 := HR1.out _ b2
  go_wp2_with fail
  refine C1.mono ?_
  rintro e W3 ⟨rfl, hb3⟩
  have b3 := below_then b2 hb3 b2.size
  clear C1 q0 q1 hb3 b2
  obtain ⟨q0, q1⟩ := HCL.out _ b3
  have C1 := HL1.out _ b3
  go_wp2_with fail
  refine C1.mono ?_
  rintro e W4 ⟨dv, rfl, hb4, C2⟩
  have b4 := below_then b3 hb4 b3.size
  clear C1 q0 q1 hb4 b3
  go_wp2_with fail
  refine C2.mono ?_
  rintro e W5 ⟨rfl, hb5⟩
  have b5 := below_then b4 hb5 b4.size
  clear C2 hb5 b4
  have CA := awake_any W5
  go_wp2_with fail
  refine CA.mono ?_
  rintro e W6 ⟨rfl, hb6⟩
  have HE : Hid (Below w.heap.size w W6) := HBB.out _ (below_then b5 hb6 b5.size)
  clear CA hb6 b5
  go_wp2_with fail
  go_ret
  exact ⟨rfl, HE.out⟩
end Go.Proofs.Ytjmakckepfpheaa
