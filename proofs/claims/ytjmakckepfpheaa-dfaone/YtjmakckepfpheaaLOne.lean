/- Machines in one state: the law DfaOne, walked. -/
import Derived.Test.YtjmakckepfpheaaLAwake
import Derived.Test.YtjmakckepfpheaaJWhMath
import Derived.Test.YtjmakckepfpheaaDSmall
import Derived.Deep.Cut
namespace Go.Proofs.Ytjmakckepfpheaa
open Go.RowKit Go.Shelf

/-- A least machine of another one. -/
def LeastOf (a : List Ds) (v : Value) (V : World) : Prop := ∃ d, SlD d v V ∧ NF d ∧ resD d 0 = resD a 0 ∧ d.length ≤ a.length
theorem LeastOf.next {a : List Ds} {v : Value} {V W : World} (h : LeastOf a v V) (hb : Below V.heap.size V W) : LeastOf a v W := by
  obtain ⟨d, h1, h2⟩ := h
  exact ⟨d, h1.next hb, h2⟩
theorem LeastOf.box1 {a : List Ds} {v : Value} {V : World} {k : Nat} {x : Value} {t : TypeId} (h : LeastOf a v V) (hk : V.heap[k]? = some (Obj.cells #[x] t)) (y : Value) : LeastOf a v (V.setCell ⟨k, 0, none⟩ y) := by
  obtain ⟨d, h1, h2⟩ := h
  exact ⟨d, h1.box1 hk y, h2⟩
structure Pq (w0 : World) (a b : List Ds) (o7 o8 : Option Nat) (x y : Option Value) (V : World) : Prop where
  bel : Below w0.heap.size w0 V
  h7 : ∀ k, o7 = some k → V.heap[k]? = some (Obj.cells #[.slice none 0 0] 24) ∧ w0.heap.size ≤ k
  h8 : ∀ k, o8 = some k → V.heap[k]? = some (Obj.cells #[.slice none 0 0] 24) ∧ w0.heap.size ≤ k
  hx : ∀ v, x = some v → LeastOf a v V
  hy : ∀ v, y = some v → LeastOf b v V
  ne : ∀ k k', o7 = some k → o8 = some k' → k ≠ k'
theorem Pq.next {w0 : World} {a b : List Ds} {o7 o8 : Option Nat} {x y : Option Value} {V W : World} (h : Pq w0 a b o7 o8 x y V) (hb : Below V.heap.size V W) : Pq w0 a b o7 o8 x y W :=
  ⟨h.bel.trans (hb.mono h.bel.size), fun k e => ⟨(hb.block _ (blk_lt (h.h7 k e).1)).trans (h.h7 k e).1, (h.h7 k e).2⟩, fun k e => ⟨(hb.block _ (blk_lt (h.h8 k e).1)).trans (h.h8 k e).1, (h.h8 k e).2⟩, fun v e => (h.hx v e).next hb, fun v e => (h.hy v e).next hb, h.ne⟩
theorem Pq.new7 {w0 : World} {a b : List Ds} {o8 : Option Nat} {x y : Option Value} {V : World} (h : Pq w0 a b none o8 x y V) : Pq w0 a b (some V.heap.size) o8 x y (V.alloc (Obj.cells #[.slice none 0 0] 24)) := by
  have h1 := h.next (below_box V (.slice none 0 0) 24)
  refine ⟨h1.bel, fun k e => ?_, h1.h8, h1.hx, h1.hy, fun k k' e e' => ?_⟩
  · cases e; exact ⟨heap_alloc_new _ _, h.bel.size⟩
  · cases e
    have := blk_lt (h.h8 k' e').1
    omega
theorem Pq.new8 {w0 : World} {a b : List Ds} {o7 : Option Nat} {x y : Option Value} {V : World} (h : Pq w0 a b o7 none x y V) : Pq w0 a b o7 (some V.heap.size) x y (V.alloc (Obj.cells #[.slice none 0 0] 24)) := by
  have h1 := h.next (below_box V (.slice none 0 0) 24)
  refine ⟨h1.bel, h1.h7, fun k e => ?_, h1.hx, h1.hy, fun k k' e e' => ?_⟩
  · cases e; exact ⟨heap_alloc_new _ _, h.bel.size⟩
  · cases e'
    have := blk_lt (h.h7 k e).1
    omega
theorem Pq.callx {w0 : World} {a b : List Ds} {o7 o8 : Option Nat} {y : Option Value} {V W : World} {v : Value} (h : Pq w0 a b o7 o8 none y V) (hb : Below V.heap.size V W) (hl : LeastOf a v W) : Pq w0 a b o7 o8 (some v) y W := by
  have h1 := h.next hb
  exact ⟨h1.bel, h1.h7, h1.h8, fun v' e => by cases e; exact hl, h1.hy, h1.ne⟩
theorem Pq.cally {w0 : World} {a b : List Ds} {o7 o8 : Option Nat} {x : Option Value} {V W : World} {v : Value} (h : Pq w0 a b o7 o8 x none V) (hb : Below V.heap.size V W) (hl : LeastOf b v W) : Pq w0 a b o7 o8 x (some v) W := by
  have h1 := h.next hb
  exact ⟨h1.bel, h1.h7, h1.h8, h1.hx, fun v' e => by cases e; exact hl, h1.ne⟩
theorem Pq.box7 {w0 : World} {a b : List Ds} {k : Nat} {o8 : Option Nat} {x y : Option Value} {V : World} (h : Pq w0 a b (some k) o8 x y V) : V.cell? ⟨k, 0, none⟩ = some (.slice none 0 0) ∧ V.frozen? ⟨k, 0, none⟩ = false := ⟨by rw [Lib.cell_of_heap (h.h7 k rfl).1]; rfl, Lib.frozen_of_heap (h.h7 k rfl).1 _⟩
theorem Pq.set7 {w0 : World} {a b : List Ds} {k j : Nat} {x y : Option Value} {u : Value} {V : World} (h : Pq w0 a b (some k) (some j) x y V) : (V.setCell ⟨k, 0, none⟩ u).cell? ⟨j, 0, none⟩ = some (.slice none 0 0) ∧ (V.setCell ⟨k, 0, none⟩ u).frozen? ⟨j, 0, none⟩ = false := by
  have h1 := set_blk (j := k) (o := 0) (v := u) (h.h8 j rfl).1 (fun e => h.ne k j rfl rfl e.symm)
  exact ⟨by rw [Lib.cell_of_heap h1]; rfl, Lib.frozen_of_heap h1 _⟩
theorem Pq.cells7 {w0 w : World} {a b : List Ds} {k : Nat} {o8 : Option Nat} {x y : Option Value} {u c d : Value} {V : World} (h : Pq w0 a b (some k) o8 x y V) (hc : Hid (∀ W, Below w0.heap.size w0 W → W.cell? ⟨w.heap.size, 0, none⟩ = some c ∧ W.cell? ⟨w.heap.size + 1, 0, none⟩ = some d)) (_hw : Hid (w.heap.size + 2 ≤ w0.heap.size)) : (V.setCell ⟨k, 0, none⟩ u).cell? ⟨w.heap.size, 0, none⟩ = some c ∧ (V.setCell ⟨k, 0, none⟩ u).cell? ⟨w.heap.size + 1, 0, none⟩ = some d := by
  have hk := (h.h7 k rfl).2
  have s1 : But (fun i => i = k) V (V.setCell ⟨k, 0, none⟩ u) := (But.refl _ _).setCell _ _ (.inr rfl)
  exact hc.out _ (h.bel.trans (s1.below h.bel.size (fun q hq => by omega)))
/-- The two least ones, in boxes. -/
def Two (w0 : World) (a b : List Ds) (k j : Nat) (x y : Value) (V : World) : Prop := Below w0.heap.size w0 V ∧ V.heap[k]? = some (Obj.cells #[x] 24) ∧ V.heap[j]? = some (Obj.cells #[y] 24) ∧ LeastOf a x V ∧ LeastOf b y V
theorem Pq.fin {w0 : World} {a b : List Ds} {k j : Nat} {x y : Value} {V : World} (h : Pq w0 a b (some k) (some j) (some x) (some y) V) : Two w0 a b k j x y ((V.setCell ⟨k, 0, none⟩ x).setCell ⟨j, 0, none⟩ y) := by
  obtain ⟨a1, a2⟩ := h.h7 k rfl
  obtain ⟨b1, b2⟩ := h.h8 j rfl
  have hne := h.ne k j rfl rfl
  have r1 : (V.setCell ⟨k, 0, none⟩ x).heap[j]? = some (Obj.cells #[.slice none 0 0] 24) := set_blk b1 (fun e => hne e.symm)
  have s1 : But (fun i => i = k ∨ i = j) V ((V.setCell ⟨k, 0, none⟩ x).setCell ⟨j, 0, none⟩ y) := ((But.refl _ _).setCell _ _ (.inr (.inl rfl))).setCell _ _ (.inr (.inr rfl))
  exact ⟨h.bel.trans (s1.below h.bel.size (fun q hq => by omega)), set_blk (by simpa using blk_set (o := 0) a1 x) hne, by simpa using blk_set (o := 0) r1 y, ((h.hx x rfl).box1 a1 x).box1 r1 y, ((h.hy y rfl).box1 a1 x).box1 r1 y⟩

set_option maxRecDepth 100000 in
set_option maxHeartbeats 1600000 in
theorem whole_any (d : List Ds) (v : Value) (s : ByteArray) (w : World) (hl : SlD d v w) (hf : fitD d) (hu : ∀ x ∈ d, upA x.arcs 0 ∧ x.arcs.length ≤ 1000000) (hs : s.size ≤ 1000000) :
    Calls Try.prog 21 #[.agg #[v], .string s] w fun e w' => e = .returned (.int .i64 (resD d 0 (bsZ s))) ∧ Below w.heap.size w w' := by
  have B0 := below_box w v 24
  have CR := run_any d v s (w.alloc (Obj.cells #[v] 24)) (hl.next B0) hu hs
  have HV : Hid (resD d 0 (bsZ s) = if (runD d (bsZ s)).1 < s.size then -1 else (runD d (bsZ s)).2) := by
    have := whole_res hf (bsZ s)
    rw [bsZ_len] at this
    exact this.symm
  generalize resD d 0 (bsZ s) = RV at *
  generalize runD d (bsZ s) = R at *
  obtain ⟨r1, r2⟩ := R
  simp only at CR HV
  obtain ⟨va, vc, rfl, _⟩ := hl
  clear hu hf
  go_enter Try.func21, Try.ntmps21
  go_wp2_with fail
  refine CR.mono ?_
  rintro e W1 ⟨rfl, hb1⟩
  have HE : Hid (Below w.heap.size w W1) := B0.trans (hb1.mono B0.size)
  clear CR hb1 B0
  by_cases h : r1 < s.size
  · have HV2 : Hid (RV = -1) := by show _ = _; rw [HV.out, if_pos h]
    have d1 : decide (r1 < (s.size : Int)) = true := decide_eq_true h
    go_wp2_with fail
    go_ret
    exact ⟨by rw [HV2.out]; rfl, HE.out⟩
  · have HV2 : Hid (RV = r2) := by show _ = _; rw [HV.out, if_neg h]
    have d1 : decide (r1 < (s.size : Int)) = false := decide_eq_false h
    go_wp2_with fail
    go_ret
    exact ⟨by rw [HV2.out]; rfl, HE.out⟩

set_option maxRecDepth 100000 in
set_option maxHeartbeats 8000000 in
theorem one_law (a b : List Ds) (u v : Value) (w : World) (ha : SlD a u w) (hb : SlD b v w) :
    Calls Try.prog 4 #[.agg #[u], .agg #[v]] w fun e w' => e = .returned (.bool true) ∧ Below w.heap.size w w' := by
  have HA : Hid (∀ W, Below w.heap.size w W → SlD a u W) := fun W h => ha.next h
  have HB : Hid (∀ W, Below w.heap.size w W → SlD b v W) := fun W h => hb.next h
  obtain ⟨aa, ac, rfl, _⟩ := ha
  obtain ⟨ba, bc, rfl, _⟩ := hb
  obtain ⟨w0, hw0⟩ : ∃ w0, w0 = (w.alloc (Obj.cells #[.slice aa a.length ac] 24)).alloc (Obj.cells #[.slice ba b.length bc] 24) := ⟨_, rfl⟩
  have B0 : Below w.heap.size w w0 := by rw [hw0]; exact ((Below.refl _ _).alloc (Nat.le_refl _) _).alloc (by simp) _
  have k0 : w0.heap[w.heap.size]? = some (Obj.cells #[.slice aa a.length ac] 24) := by rw [hw0]; exact blk_new (heap_alloc_new _ _)
  have k1 : w0.heap[w.heap.size + 1]? = some (Obj.cells #[.slice ba b.length bc] 24) := by rw [hw0]; simpa using heap_alloc_new (w.alloc (Obj.cells #[.slice aa a.length ac] 24)) (Obj.cells #[.slice ba b.length bc] 24)
  have HBB : Hid (∀ W, Below w0.heap.size w0 W → Below w.heap.size w W) := fun W h => below_then B0 h B0.size
  have HCL : Hid (∀ W, Below w0.heap.size w0 W → W.cell? ⟨w.heap.size, 0, none⟩ = some (.slice aa a.length ac) ∧ W.cell? ⟨w.heap.size + 1, 0, none⟩ = some (.slice ba b.length bc)) := fun W h => ⟨by rw [Lib.cell_of_heap ((h.block _ (blk_lt k0)).trans k0)]; rfl, by rw [Lib.cell_of_heap ((h.block _ (blk_lt k1)).trans k1)]; rfl⟩
  obtain ⟨S1, hS1⟩ : ∃ S, smallD a = S := ⟨_, rfl⟩
  obtain ⟨S2, hS2⟩ : ∃ S, smallD b = S := ⟨_, rfl⟩
  obtain ⟨T1, hT1⟩ : ∃ T, fitB a = T := ⟨_, rfl⟩
  obtain ⟨T2, hT2⟩ : ∃ T, fitB b = T := ⟨_, rfl⟩
  have HW : Hid (∀ W, Below w0.heap.size w0 W → (Calls Try.prog 7 #[.agg #[.slice aa a.length ac]] W fun e w' => e = .returned (.bool S1) ∧ Below W.heap.size W w') ∧ (Calls Try.prog 7 #[.agg #[.slice ba b.length bc]] W fun e w' => e = .returned (.bool S2) ∧ Below W.heap.size W w') ∧ (Calls Try.prog 10 #[.agg #[.slice aa a.length ac]] W fun e w' => e = .returned (.bool T1) ∧ Below W.heap.size W w') ∧ (Calls Try.prog 10 #[.agg #[.slice ba b.length bc]] W fun e w' => e = .returned (.bool T2) ∧ Below W.heap.size W w')) := fun W h => by
    have h1 := HA.out _ (HBB.out _ h)
    have h2 := HB.out _ (HBB.out _ h)
    exact ⟨hS1 ▸ small_any a _ W h1, hS2 ▸ small_any b _ W h2, hT1 ▸ rfit_any a _ W h1, hT2 ▸ rfit_any b _ W h2⟩
  have HK : Hid (smallD a = S1 ∧ smallD b = S2 ∧ fitB a = T1 ∧ fitB b = T2) := ⟨hS1, hS2, hT1, hT2⟩
  clear hS1 hS2 hT1 hT2 k0 k1
  have HK2 : Hid (w.heap.size + 2 ≤ w0.heap.size) := by show _ ≤ _; rw [hw0]; simp
  go_enter Try.func4, Try.ntmps4
  go_upto_region 1 with fail
  rw [← hw0]
  clear hw0
  go_cut [26] from 9 (fun t26 wx => t26 = .bool (!(S1 && S2 && T1 && T2)) ∧ Below w0.heap.size w0 wx)
  case first =>
    have bz0 : Below w0.heap.size w0 w0 := Below.refl _ _
    obtain ⟨q0, q1⟩ := HCL.out _ bz0
    have HQ := (HW.out _ bz0).1
    go_wp2_with fail
    refine HQ.mono ?_
    clear HQ q0 q1
    rintro e wz1 ⟨rfl, bb1⟩
    have bz1 := below_then bz0 bb1 bz0.size
    clear bb1
    cases S1
    · go_wp2_with fail
      go_meet
      exact ⟨by simp, bz1⟩
    obtain ⟨q0, q1⟩ := HCL.out _ bz1
    have HQ := (HW.out _ bz1).2.1
    go_wp2_with fail
    refine HQ.mono ?_
    clear HQ q0 q1
    rintro e wz2 ⟨rfl, bb2⟩
    have bz2 := below_then bz1 bb2 bz1.size
    clear bb2
    cases S2
    · go_wp2_with fail
      go_meet
      exact ⟨by simp, bz2⟩
    obtain ⟨q0, q1⟩ := HCL.out _ bz2
    have HQ := (HW.out _ bz2).2.2.1
    go_wp2_with fail
    refine HQ.mono ?_
    clear HQ q0 q1
    rintro e wz3 ⟨rfl, bb3⟩
    have bz3 := below_then bz2 bb3 bz2.size
    clear bb3
    cases T1
    · go_wp2_with fail
      go_meet
      exact ⟨by simp, bz3⟩
    obtain ⟨q0, q1⟩ := HCL.out _ bz3
    have HQ := (HW.out _ bz3).2.2.2
    go_wp2_with fail
    refine HQ.mono ?_
    clear HQ q0 q1
    rintro e wz4 ⟨rfl, bb4⟩
    have bz4 := below_then bz3 bb4 bz3.size
    clear bb4
    cases T2
    · go_wp2_with fail
      go_meet
      exact ⟨by simp, bz4⟩
    go_wp2_with fail
    go_meet
    exact ⟨by simp, bz4⟩
  case rest =>
  obtain ⟨rfl, hbc⟩ := hcut
  have HG : Hid ((S1 && S2 && T1 && T2) = true → smallD a = true ∧ smallD b = true ∧ fitB a = true ∧ fitB b = true) := fun h => by
    simp only [Bool.and_eq_true] at h
    obtain ⟨q1, q2, q3, q4⟩ := HK.out
    exact ⟨q1.trans h.1.1.1, q2.trans h.1.1.2, q3.trans h.1.2, q4.trans h.2⟩
  generalize (S1 && S2 && T1 && T2) = G at *
  cases G
  case false =>
    have HE : Hid (Below w.heap.size w wc) := HBB.out _ hbc
    have CA := awake_any wc
    clear hbc HW HCL HA HB HBB HK HG B0
    go_wp2_with fail
    refine CA.mono ?_
    rintro e W1 ⟨rfl, hb1⟩
    have HE2 : Hid (Below w.heap.size w W1) := HE.out.trans (hb1.mono HE.out.size)
    clear CA hb1
    go_wp2_with fail
    go_ret
    exact ⟨rfl, HE2.out⟩
  obtain ⟨g1, g2, g3, g4⟩ := HG.out rfl
  have ffa := (fitB_fit g3).1
  have ffb := (fitB_fit g4).1
  have HD1 : Hid (∀ W, Below w0.heap.size w0 W → Calls Try.prog 15 #[.agg #[.slice aa a.length ac], .agg #[.slice ba b.length bc]] W fun e w' => e = .returned (.tuple #[.string (difT (resD a 0) (resD b 0)).1, .bool (difT (resD a 0) (resD b 0)).2]) ∧ DifOk (resD a 0) (resD b 0) ∧ Below W.heap.size W w') := fun W h => differ_val a b _ _ W (HA.out _ (HBB.out _ h)) (HB.out _ (HBB.out _ h)) g3 g4 g1 g2
  have HLa : Hid (∀ W, Below w0.heap.size w0 W → Calls Try.prog 17 #[.agg #[.slice aa a.length ac]] W fun e w' => ∃ dv, e = .returned (.agg #[dv]) ∧ LeastOf a dv w' ∧ Below W.heap.size W w') := fun W h => (least_any a _ W (HA.out _ (HBB.out _ h)) g3 (by have := (small_bounds g1).1; omega) ffa (small_bounds g1).2).mono (by
    rintro e w' ⟨dv, d, rfl, h1, h2, h3, h4⟩
    exact ⟨dv, rfl, ⟨d, h1, h2, h3⟩, h4⟩)
  have HLb : Hid (∀ W, Below w0.heap.size w0 W → Calls Try.prog 17 #[.agg #[.slice ba b.length bc]] W fun e w' => ∃ dv, e = .returned (.agg #[dv]) ∧ LeastOf b dv w' ∧ Below W.heap.size W w') := fun W h => (least_any b _ W (HB.out _ (HBB.out _ h)) g4 (by have := (small_bounds g2).1; omega) ffb (small_bounds g2).2).mono (by
    rintro e w' ⟨dv, d, rfl, h1, h2, h3, h4⟩
    exact ⟨dv, rfl, ⟨d, h1, h2, h3⟩, h4⟩)
  have HWA : Hid (∀ (W : World) (s : ByteArray), Below w0.heap.size w0 W → s.size ≤ 1000000 → (Calls Try.prog 21 #[.agg #[.slice aa a.length ac], .string s] W fun e w' => e = .returned (.int .i64 (resD a 0 (bsZ s))) ∧ Below W.heap.size W w') ∧ (Calls Try.prog 21 #[.agg #[.slice ba b.length bc], .string s] W fun e w' => e = .returned (.int .i64 (resD b 0 (bsZ s))) ∧ Below W.heap.size W w')) := fun W s h hs => ⟨whole_any a _ s W (HA.out _ (HBB.out _ h)) ffa (nf_up ffa) hs, whole_any b _ s W (HB.out _ (HBB.out _ h)) ffb (nf_up ffb) hs⟩
  have HLn : Hid (a.length ≤ 60 ∧ b.length ≤ 60) := ⟨(small_bounds g1).1, (small_bounds g2).1⟩
  clear g1 g2 g3 g4 ffa ffb HW HA HB HK HG B0
  obtain ⟨q0, q1⟩ := HCL.out _ hbc
  have C1 := HD1.out _ hbc
  go_upto_region 3 with fail
  go_wp2_with fail
  refine C1.mono ?_
  rintro e W1 ⟨rfl, hdo, hb1⟩
  have b1 := below_then hbc hb1 hbc.size
  have HDO : Hid (DifOk (resD a 0) (resD b 0)) := hdo
  clear C1 q0 q1 hb1 hbc hdo HD1
  go_upto_region 4 with fail
  generalize hDT : difT (resD a 0) (resD b 0) = DT at *
  have HDT : Hid (difT (resD a 0) (resD b 0) = DT) := hDT
  clear hDT
  obtain ⟨dt, db⟩ := DT
  simp only
  go_cut [7, 8] from 9 (fun t7 t8 wx => ∃ k7 k8 xa xn xc ya yn yc, t7 = .pointer (some ⟨k7, 0, none⟩) ∧ t8 = .pointer (some ⟨k8, 0, none⟩) ∧ Hid (Two w0 a b k7 k8 (.slice xa xn xc) (.slice ya yn yc) wx))
  case first =>
    have PG : Pq w0 a b none none none none W1.drew := ⟨below_drewN b1 1, fun k e => (by cases e), fun k e => (by cases e), fun k e => (by cases e), fun k e => (by cases e), fun k k' e => (by cases e)⟩
    have HS := HCL.out _ PG.bel
    clear b1 HBB HWA HLn HDO HDT
    refine wp_region_L (fun W => W.cell? ⟨w.heap.size, 0, none⟩ = some (.slice aa a.length ac) ∧ W.cell? ⟨w.heap.size + 1, 0, none⟩ = some (.slice ba b.length bc)) 7 (by kernel_rfl) 8 rfl ?_
    generalize W1.drew = W0 at *
    refine wpAnyL_take' (i := 0) (v := ?_) (oi := { dst := some 34, op := Op.load 24 (Operand.tmp 2), type := 24, pos := "law.go:75", after := #[], guard := none }) rfl (by kernel_rfl) (by kernel_rfl) (by kernel_rfl) (by kernel_rfl) rfl (fun _ _ _ h => h) (Or.inl ⟨by rfl, ?_⟩) HS ?_
    rotate_left
    · intro W hSW
      go_simp
      try with_reducible rfl
    simp only [Act.put, List.setIfInBounds_toArray, List.set_cons_zero, List.set_cons_succ]
    refine wpAnyL_take' (i := 2) (v := ?_) (oi := { dst := some 36, op := Op.load 24 (Operand.tmp 3), type := 24, pos := "law.go:75", after := #[], guard := none }) rfl (by kernel_rfl) (by kernel_rfl) (by kernel_rfl) (by kernel_rfl) rfl (fun _ _ _ h => h) (Or.inl ⟨by rfl, ?_⟩) HS ?_
    rotate_left
    · intro W hSW
      go_simp
      try with_reducible rfl
    simp only [Act.put, List.setIfInBounds_toArray, List.set_cons_zero, List.set_cons_succ]
    refine wpAnyL_three (i := 1) (j := 4) (m := 5) (oi := { dst := some 35, op := Op.call { callee := Callee.value (Operand.func 17), args := #[Operand.tmp 34], argTypes := #[24] }, type := 24, pos := "law.go:75", after := #[{ on := 0, ground := Ground.data }], guard := none }) (oj := { dst := some 7, op := Op.alloc 24, type := 0, pos := "law.go:75", after := #[], guard := none }) (om := { dst := some 8, op := Op.alloc 24, type := 0, pos := "law.go:75", after := #[], guard := none }) (by kernel_rfl) rfl rfl rfl rfl rfl rfl (fun K hK => ?_) (fun K hK => ?_) (fun K hK => ?_)
    · go_simp
      refine (HLa.out _ PG.bel).mono ?_
      rintro e V1 ⟨xv, rfl, hlx, hbx⟩
      have PG1 := PG.callx hbx hlx
      obtain ⟨dx, ⟨xa, xc, rfl, _⟩, _⟩ := id hlx
      refine hK.out _ _ (fun _ => HCL.out _ PG1.bel) ?_
      clear hK hlx hbx
      try simp only [Act.put, List.setIfInBounds_toArray, List.set_cons_zero, List.set_cons_succ]
      refine wpAnyL_three (i := 3) (j := 4) (m := 5) (oi := { dst := some 37, op := Op.call { callee := Callee.value (Operand.func 17), args := #[Operand.tmp 36], argTypes := #[24] }, type := 24, pos := "law.go:75", after := #[{ on := 2, ground := Ground.data }, { on := 1, ground := Ground.chain }], guard := none }) (oj := { dst := some 7, op := Op.alloc 24, type := 0, pos := "law.go:75", after := #[], guard := none }) (om := { dst := some 8, op := Op.alloc 24, type := 0, pos := "law.go:75", after := #[], guard := none }) (by kernel_rfl) rfl rfl rfl rfl rfl rfl (fun K hK => ?_) (fun K hK => ?_) (fun K hK => ?_)
      · go_simp
        refine (HLb.out _ PG1.bel).mono ?_
        rintro e V2 ⟨yv, rfl, hly, hby⟩
        have PG2 := PG1.cally hby hly
        obtain ⟨dy, ⟨ya, yc, rfl, _⟩, _⟩ := id hly
        refine hK.out _ _ (fun _ => HCL.out _ PG2.bel) ?_
        clear hK hly hby
        try simp only [Act.put, List.setIfInBounds_toArray, List.set_cons_zero, List.set_cons_succ]
        refine wpAnyL_two (i := 4) (j := 5) (oi := { dst := some 7, op := Op.alloc 24, type := 0, pos := "law.go:75", after := #[], guard := none }) (oj := { dst := some 8, op := Op.alloc 24, type := 0, pos := "law.go:75", after := #[], guard := none }) (by kernel_rfl) rfl rfl rfl rfl (fun K hK => ?_) (fun K hK => ?_)
        · go_simp
          have PG3 := PG2.new7
          refine hK.out _ _ (fun _ => HCL.out _ PG3.bel) ?_
          clear hK
          try simp only [Act.put, List.setIfInBounds_toArray, List.set_cons_zero, List.set_cons_succ]
          generalize (V2.alloc (Obj.cells #[.slice none 0 0] 24)) = V3 at *
          generalize V2.heap.size = k7 at *
          refine wpAnyL_one' (i := 5) (o := { dst := some 8, op := Op.alloc 24, type := 0, pos := "law.go:75", after := #[], guard := none }) (by kernel_rfl) rfl rfl (fun K hK => ?_)
          go_simp
          have PG4 := PG3.new8
          refine hK.out _ _ (fun _ => HCL.out _ PG4.bel) ?_
          clear hK
          try simp only [Act.put, List.setIfInBounds_toArray, List.set_cons_zero, List.set_cons_succ]
          generalize (V3.alloc (Obj.cells #[.slice none 0 0] 24)) = V4 at *
          generalize V3.heap.size = k8 at *
          obtain ⟨b1, b2⟩ := PG4.box7
          obtain ⟨b3, b4⟩ := PG4.set7 (u := .slice xa dx.length xc)
          refine wpAnyL_one' (i := 6) (o := { dst := none, op := Op.store 24 (Operand.tmp 7) (Operand.tmp 35), type := 0, pos := "law.go:75", after := #[{ on := 4, ground := Ground.data }, { on := 1, ground := Ground.data }, { on := 3, ground := Ground.chain }, { on := 0, ground := Ground.phase }, { on := 1, ground := Ground.phase }, { on := 2, ground := Ground.textOnly Departure.lateStores }, { on := 3, ground := Ground.textOnly Departure.lateStoresUnsure }, { on := 4, ground := Ground.phase }, { on := 5, ground := Ground.phase }], guard := none }) (by kernel_rfl) rfl rfl (fun K hK => ?_)
          go_simp
          refine hK.out _ _ (fun _ => PG4.cells7 HCL HK2) ?_
          clear hK
          try simp only [Act.put, List.setIfInBounds_toArray, List.set_cons_zero, List.set_cons_succ]
          refine wpAnyL_one' (i := 7) (o := { dst := none, op := Op.store 24 (Operand.tmp 8) (Operand.tmp 37), type := 0, pos := "law.go:75", after := #[{ on := 5, ground := Ground.data }, { on := 3, ground := Ground.data }, { on := 6, ground := Ground.chain }, { on := 0, ground := Ground.phase }, { on := 1, ground := Ground.phase }, { on := 2, ground := Ground.phase }, { on := 3, ground := Ground.phase }, { on := 4, ground := Ground.phase }, { on := 5, ground := Ground.phase }, { on := 6, ground := Ground.phase }], guard := none }) (by kernel_rfl) rfl rfl (fun K hK => ?_)
          go_simp
          refine hK.out _ _ (fun h => absurd h (by decide)) ?_
          clear hK
          try simp only [Act.put, List.setIfInBounds_toArray, List.set_cons_zero, List.set_cons_succ]
          refine wpAnyL_done (by kernel_rfl) ?_ _
          have PF := PG4.fin
          go_wp2_with fail
          go_meet
          exact ⟨_, _, _, _, _, _, _, _, rfl, rfl, PF⟩
        · go_simp
          have PG3 := PG2.new8
          refine hK.out _ _ (fun _ => HCL.out _ PG3.bel) ?_
          clear hK
          try simp only [Act.put, List.setIfInBounds_toArray, List.set_cons_zero, List.set_cons_succ]
          generalize (V2.alloc (Obj.cells #[.slice none 0 0] 24)) = V3 at *
          generalize V2.heap.size = k8 at *
          refine wpAnyL_one' (i := 4) (o := { dst := some 7, op := Op.alloc 24, type := 0, pos := "law.go:75", after := #[], guard := none }) (by kernel_rfl) rfl rfl (fun K hK => ?_)
          go_simp
          have PG4 := PG3.new7
          refine hK.out _ _ (fun _ => HCL.out _ PG4.bel) ?_
          clear hK
          try simp only [Act.put, List.setIfInBounds_toArray, List.set_cons_zero, List.set_cons_succ]
          generalize (V3.alloc (Obj.cells #[.slice none 0 0] 24)) = V4 at *
          generalize V3.heap.size = k7 at *
          obtain ⟨b1, b2⟩ := PG4.box7
          obtain ⟨b3, b4⟩ := PG4.set7 (u := .slice xa dx.length xc)
          refine wpAnyL_one' (i := 6) (o := { dst := none, op := Op.store 24 (Operand.tmp 7) (Operand.tmp 35), type := 0, pos := "law.go:75", after := #[{ on := 4, ground := Ground.data }, { on := 1, ground := Ground.data }, { on := 3, ground := Ground.chain }, { on := 0, ground := Ground.phase }, { on := 1, ground := Ground.phase }, { on := 2, ground := Ground.textOnly Departure.lateStores }, { on := 3, ground := Ground.textOnly Departure.lateStoresUnsure }, { on := 4, ground := Ground.phase }, { on := 5, ground := Ground.phase }], guard := none }) (by kernel_rfl) rfl rfl (fun K hK => ?_)
          go_simp
          refine hK.out _ _ (fun _ => PG4.cells7 HCL HK2) ?_
          clear hK
          try simp only [Act.put, List.setIfInBounds_toArray, List.set_cons_zero, List.set_cons_succ]
          refine wpAnyL_one' (i := 7) (o := { dst := none, op := Op.store 24 (Operand.tmp 8) (Operand.tmp 37), type := 0, pos := "law.go:75", after := #[{ on := 5, ground := Ground.data }, { on := 3, ground := Ground.data }, { on := 6, ground := Ground.chain }, { on := 0, ground := Ground.phase }, { on := 1, ground := Ground.phase }, { on := 2, ground := Ground.phase }, { on := 3, ground := Ground.phase }, { on := 4, ground := Ground.phase }, { on := 5, ground := Ground.phase }, { on := 6, ground := Ground.phase }], guard := none }) (by kernel_rfl) rfl rfl (fun K hK => ?_)
          go_simp
          refine hK.out _ _ (fun h => absurd h (by decide)) ?_
          clear hK
          try simp only [Act.put, List.setIfInBounds_toArray, List.set_cons_zero, List.set_cons_succ]
          refine wpAnyL_done (by kernel_rfl) ?_ _
          have PF := PG4.fin
          go_wp2_with fail
          go_meet
          exact ⟨_, _, _, _, _, _, _, _, rfl, rfl, PF⟩
      · go_simp
        have PG2 := PG1.new7
        refine hK.out _ _ (fun _ => HCL.out _ PG2.bel) ?_
        clear hK
        try simp only [Act.put, List.setIfInBounds_toArray, List.set_cons_zero, List.set_cons_succ]
        generalize (V1.alloc (Obj.cells #[.slice none 0 0] 24)) = V2 at *
        generalize V1.heap.size = k7 at *
        refine wpAnyL_two (i := 3) (j := 5) (oi := { dst := some 37, op := Op.call { callee := Callee.value (Operand.func 17), args := #[Operand.tmp 36], argTypes := #[24] }, type := 24, pos := "law.go:75", after := #[{ on := 2, ground := Ground.data }, { on := 1, ground := Ground.chain }], guard := none }) (oj := { dst := some 8, op := Op.alloc 24, type := 0, pos := "law.go:75", after := #[], guard := none }) (by kernel_rfl) rfl rfl rfl rfl (fun K hK => ?_) (fun K hK => ?_)
        · go_simp
          refine (HLb.out _ PG2.bel).mono ?_
          rintro e V3 ⟨yv, rfl, hly, hby⟩
          have PG3 := PG2.cally hby hly
          obtain ⟨dy, ⟨ya, yc, rfl, _⟩, _⟩ := id hly
          refine hK.out _ _ (fun _ => HCL.out _ PG3.bel) ?_
          clear hK hly hby
          try simp only [Act.put, List.setIfInBounds_toArray, List.set_cons_zero, List.set_cons_succ]
          refine wpAnyL_one' (i := 5) (o := { dst := some 8, op := Op.alloc 24, type := 0, pos := "law.go:75", after := #[], guard := none }) (by kernel_rfl) rfl rfl (fun K hK => ?_)
          go_simp
          have PG4 := PG3.new8
          refine hK.out _ _ (fun _ => HCL.out _ PG4.bel) ?_
          clear hK
          try simp only [Act.put, List.setIfInBounds_toArray, List.set_cons_zero, List.set_cons_succ]
          generalize (V3.alloc (Obj.cells #[.slice none 0 0] 24)) = V4 at *
          generalize V3.heap.size = k8 at *
          obtain ⟨b1, b2⟩ := PG4.box7
          obtain ⟨b3, b4⟩ := PG4.set7 (u := .slice xa dx.length xc)
          refine wpAnyL_one' (i := 6) (o := { dst := none, op := Op.store 24 (Operand.tmp 7) (Operand.tmp 35), type := 0, pos := "law.go:75", after := #[{ on := 4, ground := Ground.data }, { on := 1, ground := Ground.data }, { on := 3, ground := Ground.chain }, { on := 0, ground := Ground.phase }, { on := 1, ground := Ground.phase }, { on := 2, ground := Ground.textOnly Departure.lateStores }, { on := 3, ground := Ground.textOnly Departure.lateStoresUnsure }, { on := 4, ground := Ground.phase }, { on := 5, ground := Ground.phase }], guard := none }) (by kernel_rfl) rfl rfl (fun K hK => ?_)
          go_simp
          refine hK.out _ _ (fun _ => PG4.cells7 HCL HK2) ?_
          clear hK
          try simp only [Act.put, List.setIfInBounds_toArray, List.set_cons_zero, List.set_cons_succ]
          refine wpAnyL_one' (i := 7) (o := { dst := none, op := Op.store 24 (Operand.tmp 8) (Operand.tmp 37), type := 0, pos := "law.go:75", after := #[{ on := 5, ground := Ground.data }, { on := 3, ground := Ground.data }, { on := 6, ground := Ground.chain }, { on := 0, ground := Ground.phase }, { on := 1, ground := Ground.phase }, { on := 2, ground := Ground.phase }, { on := 3, ground := Ground.phase }, { on := 4, ground := Ground.phase }, { on := 5, ground := Ground.phase }, { on := 6, ground := Ground.phase }], guard := none }) (by kernel_rfl) rfl rfl (fun K hK => ?_)
          go_simp
          refine hK.out _ _ (fun h => absurd h (by decide)) ?_
          clear hK
          try simp only [Act.put, List.setIfInBounds_toArray, List.set_cons_zero, List.set_cons_succ]
          refine wpAnyL_done (by kernel_rfl) ?_ _
          have PF := PG4.fin
          go_wp2_with fail
          go_meet
          exact ⟨_, _, _, _, _, _, _, _, rfl, rfl, PF⟩
        · go_simp
          have PG3 := PG2.new8
          refine hK.out _ _ (fun _ => HCL.out _ PG3.bel) ?_
          clear hK
          try simp only [Act.put, List.setIfInBounds_toArray, List.set_cons_zero, List.set_cons_succ]
          generalize (V2.alloc (Obj.cells #[.slice none 0 0] 24)) = V3 at *
          generalize V2.heap.size = k8 at *
          refine wpAnyL_one' (i := 3) (o := { dst := some 37, op := Op.call { callee := Callee.value (Operand.func 17), args := #[Operand.tmp 36], argTypes := #[24] }, type := 24, pos := "law.go:75", after := #[{ on := 2, ground := Ground.data }, { on := 1, ground := Ground.chain }], guard := none }) (by kernel_rfl) rfl rfl (fun K hK => ?_)
          go_simp
          refine (HLb.out _ PG3.bel).mono ?_
          rintro e V4 ⟨yv, rfl, hly, hby⟩
          have PG4 := PG3.cally hby hly
          obtain ⟨dy, ⟨ya, yc, rfl, _⟩, _⟩ := id hly
          refine hK.out _ _ (fun _ => HCL.out _ PG4.bel) ?_
          clear hK hly hby
          try simp only [Act.put, List.setIfInBounds_toArray, List.set_cons_zero, List.set_cons_succ]
          obtain ⟨b1, b2⟩ := PG4.box7
          obtain ⟨b3, b4⟩ := PG4.set7 (u := .slice xa dx.length xc)
          refine wpAnyL_one' (i := 6) (o := { dst := none, op := Op.store 24 (Operand.tmp 7) (Operand.tmp 35), type := 0, pos := "law.go:75", after := #[{ on := 4, ground := Ground.data }, { on := 1, ground := Ground.data }, { on := 3, ground := Ground.chain }, { on := 0, ground := Ground.phase }, { on := 1, ground := Ground.phase }, { on := 2, ground := Ground.textOnly Departure.lateStores }, { on := 3, ground := Ground.textOnly Departure.lateStoresUnsure }, { on := 4, ground := Ground.phase }, { on := 5, ground := Ground.phase }], guard := none }) (by kernel_rfl) rfl rfl (fun K hK => ?_)
          go_simp
          refine hK.out _ _ (fun _ => PG4.cells7 HCL HK2) ?_
          clear hK
          try simp only [Act.put, List.setIfInBounds_toArray, List.set_cons_zero, List.set_cons_succ]
          refine wpAnyL_one' (i := 7) (o := { dst := none, op := Op.store 24 (Operand.tmp 8) (Operand.tmp 37), type := 0, pos := "law.go:75", after := #[{ on := 5, ground := Ground.data }, { on := 3, ground := Ground.data }, { on := 6, ground := Ground.chain }, { on := 0, ground := Ground.phase }, { on := 1, ground := Ground.phase }, { on := 2, ground := Ground.phase }, { on := 3, ground := Ground.phase }, { on := 4, ground := Ground.phase }, { on := 5, ground := Ground.phase }, { on := 6, ground := Ground.phase }], guard := none }) (by kernel_rfl) rfl rfl (fun K hK => ?_)
          go_simp
          refine hK.out _ _ (fun h => absurd h (by decide)) ?_
          clear hK
          try simp only [Act.put, List.setIfInBounds_toArray, List.set_cons_zero, List.set_cons_succ]
          refine wpAnyL_done (by kernel_rfl) ?_ _
          have PF := PG4.fin
          go_wp2_with fail
          go_meet
          exact ⟨_, _, _, _, _, _, _, _, rfl, rfl, PF⟩
      · go_simp
        have PG2 := PG1.new8
        refine hK.out _ _ (fun _ => HCL.out _ PG2.bel) ?_
        clear hK
        try simp only [Act.put, List.setIfInBounds_toArray, List.set_cons_zero, List.set_cons_succ]
        generalize (V1.alloc (Obj.cells #[.slice none 0 0] 24)) = V2 at *
        generalize V1.heap.size = k8 at *
        refine wpAnyL_two (i := 3) (j := 4) (oi := { dst := some 37, op := Op.call { callee := Callee.value (Operand.func 17), args := #[Operand.tmp 36], argTypes := #[24] }, type := 24, pos := "law.go:75", after := #[{ on := 2, ground := Ground.data }, { on := 1, ground := Ground.chain }], guard := none }) (oj := { dst := some 7, op := Op.alloc 24, type := 0, pos := "law.go:75", after := #[], guard := none }) (by kernel_rfl) rfl rfl rfl rfl (fun K hK => ?_) (fun K hK => ?_)
        · go_simp
          refine (HLb.out _ PG2.bel).mono ?_
          rintro e V3 ⟨yv, rfl, hly, hby⟩
          have PG3 := PG2.cally hby hly
          obtain ⟨dy, ⟨ya, yc, rfl, _⟩, _⟩ := id hly
          refine hK.out _ _ (fun _ => HCL.out _ PG3.bel) ?_
          clear hK hly hby
          try simp only [Act.put, List.setIfInBounds_toArray, List.set_cons_zero, List.set_cons_succ]
          refine wpAnyL_one' (i := 4) (o := { dst := some 7, op := Op.alloc 24, type := 0, pos := "law.go:75", after := #[], guard := none }) (by kernel_rfl) rfl rfl (fun K hK => ?_)
          go_simp
          have PG4 := PG3.new7
          refine hK.out _ _ (fun _ => HCL.out _ PG4.bel) ?_
          clear hK
          try simp only [Act.put, List.setIfInBounds_toArray, List.set_cons_zero, List.set_cons_succ]
          generalize (V3.alloc (Obj.cells #[.slice none 0 0] 24)) = V4 at *
          generalize V3.heap.size = k7 at *
          obtain ⟨b1, b2⟩ := PG4.box7
          obtain ⟨b3, b4⟩ := PG4.set7 (u := .slice xa dx.length xc)
          refine wpAnyL_one' (i := 6) (o := { dst := none, op := Op.store 24 (Operand.tmp 7) (Operand.tmp 35), type := 0, pos := "law.go:75", after := #[{ on := 4, ground := Ground.data }, { on := 1, ground := Ground.data }, { on := 3, ground := Ground.chain }, { on := 0, ground := Ground.phase }, { on := 1, ground := Ground.phase }, { on := 2, ground := Ground.textOnly Departure.lateStores }, { on := 3, ground := Ground.textOnly Departure.lateStoresUnsure }, { on := 4, ground := Ground.phase }, { on := 5, ground := Ground.phase }], guard := none }) (by kernel_rfl) rfl rfl (fun K hK => ?_)
          go_simp
          refine hK.out _ _ (fun _ => PG4.cells7 HCL HK2) ?_
          clear hK
          try simp only [Act.put, List.setIfInBounds_toArray, List.set_cons_zero, List.set_cons_succ]
          refine wpAnyL_one' (i := 7) (o := { dst := none, op := Op.store 24 (Operand.tmp 8) (Operand.tmp 37), type := 0, pos := "law.go:75", after := #[{ on := 5, ground := Ground.data }, { on := 3, ground := Ground.data }, { on := 6, ground := Ground.chain }, { on := 0, ground := Ground.phase }, { on := 1, ground := Ground.phase }, { on := 2, ground := Ground.phase }, { on := 3, ground := Ground.phase }, { on := 4, ground := Ground.phase }, { on := 5, ground := Ground.phase }, { on := 6, ground := Ground.phase }], guard := none }) (by kernel_rfl) rfl rfl (fun K hK => ?_)
          go_simp
          refine hK.out _ _ (fun h => absurd h (by decide)) ?_
          clear hK
          try simp only [Act.put, List.setIfInBounds_toArray, List.set_cons_zero, List.set_cons_succ]
          refine wpAnyL_done (by kernel_rfl) ?_ _
          have PF := PG4.fin
          go_wp2_with fail
          go_meet
          exact ⟨_, _, _, _, _, _, _, _, rfl, rfl, PF⟩
        · go_simp
          have PG3 := PG2.new7
          refine hK.out _ _ (fun _ => HCL.out _ PG3.bel) ?_
          clear hK
          try simp only [Act.put, List.setIfInBounds_toArray, List.set_cons_zero, List.set_cons_succ]
          generalize (V2.alloc (Obj.cells #[.slice none 0 0] 24)) = V3 at *
          generalize V2.heap.size = k7 at *
          refine wpAnyL_one' (i := 3) (o := { dst := some 37, op := Op.call { callee := Callee.value (Operand.func 17), args := #[Operand.tmp 36], argTypes := #[24] }, type := 24, pos := "law.go:75", after := #[{ on := 2, ground := Ground.data }, { on := 1, ground := Ground.chain }], guard := none }) (by kernel_rfl) rfl rfl (fun K hK => ?_)
          go_simp
          refine (HLb.out _ PG3.bel).mono ?_
          rintro e V4 ⟨yv, rfl, hly, hby⟩
          have PG4 := PG3.cally hby hly
          obtain ⟨dy, ⟨ya, yc, rfl, _⟩, _⟩ := id hly
          refine hK.out _ _ (fun _ => HCL.out _ PG4.bel) ?_
          clear hK hly hby
          try simp only [Act.put, List.setIfInBounds_toArray, List.set_cons_zero, List.set_cons_succ]
          obtain ⟨b1, b2⟩ := PG4.box7
          obtain ⟨b3, b4⟩ := PG4.set7 (u := .slice xa dx.length xc)
          refine wpAnyL_one' (i := 6) (o := { dst := none, op := Op.store 24 (Operand.tmp 7) (Operand.tmp 35), type := 0, pos := "law.go:75", after := #[{ on := 4, ground := Ground.data }, { on := 1, ground := Ground.data }, { on := 3, ground := Ground.chain }, { on := 0, ground := Ground.phase }, { on := 1, ground := Ground.phase }, { on := 2, ground := Ground.textOnly Departure.lateStores }, { on := 3, ground := Ground.textOnly Departure.lateStoresUnsure }, { on := 4, ground := Ground.phase }, { on := 5, ground := Ground.phase }], guard := none }) (by kernel_rfl) rfl rfl (fun K hK => ?_)
          go_simp
          refine hK.out _ _ (fun _ => PG4.cells7 HCL HK2) ?_
          clear hK
          try simp only [Act.put, List.setIfInBounds_toArray, List.set_cons_zero, List.set_cons_succ]
          refine wpAnyL_one' (i := 7) (o := { dst := none, op := Op.store 24 (Operand.tmp 8) (Operand.tmp 37), type := 0, pos := "law.go:75", after := #[{ on := 5, ground := Ground.data }, { on := 3, ground := Ground.data }, { on := 6, ground := Ground.chain }, { on := 0, ground := Ground.phase }, { on := 1, ground := Ground.phase }, { on := 2, ground := Ground.phase }, { on := 3, ground := Ground.phase }, { on := 4, ground := Ground.phase }, { on := 5, ground := Ground.phase }, { on := 6, ground := Ground.phase }], guard := none }) (by kernel_rfl) rfl rfl (fun K hK => ?_)
          go_simp
          refine hK.out _ _ (fun h => absurd h (by decide)) ?_
          clear hK
          try simp only [Act.put, List.setIfInBounds_toArray, List.set_cons_zero, List.set_cons_succ]
          refine wpAnyL_done (by kernel_rfl) ?_ _
          have PF := PG4.fin
          go_wp2_with fail
          go_meet
          exact ⟨_, _, _, _, _, _, _, _, rfl, rfl, PF⟩
    · go_simp
      have PG1 := PG.new7
      refine hK.out _ _ (fun _ => HCL.out _ PG1.bel) ?_
      clear hK
      try simp only [Act.put, List.setIfInBounds_toArray, List.set_cons_zero, List.set_cons_succ]
      generalize (W0.alloc (Obj.cells #[.slice none 0 0] 24)) = V1 at *
      generalize W0.heap.size = k7 at *
      refine wpAnyL_two (i := 1) (j := 5) (oi := { dst := some 35, op := Op.call { callee := Callee.value (Operand.func 17), args := #[Operand.tmp 34], argTypes := #[24] }, type := 24, pos := "law.go:75", after := #[{ on := 0, ground := Ground.data }], guard := none }) (oj := { dst := some 8, op := Op.alloc 24, type := 0, pos := "law.go:75", after := #[], guard := none }) (by kernel_rfl) rfl rfl rfl rfl (fun K hK => ?_) (fun K hK => ?_)
      · go_simp
        refine (HLa.out _ PG1.bel).mono ?_
        rintro e V2 ⟨xv, rfl, hlx, hbx⟩
        have PG2 := PG1.callx hbx hlx
        obtain ⟨dx, ⟨xa, xc, rfl, _⟩, _⟩ := id hlx
        refine hK.out _ _ (fun _ => HCL.out _ PG2.bel) ?_
        clear hK hlx hbx
        try simp only [Act.put, List.setIfInBounds_toArray, List.set_cons_zero, List.set_cons_succ]
        refine wpAnyL_two (i := 3) (j := 5) (oi := { dst := some 37, op := Op.call { callee := Callee.value (Operand.func 17), args := #[Operand.tmp 36], argTypes := #[24] }, type := 24, pos := "law.go:75", after := #[{ on := 2, ground := Ground.data }, { on := 1, ground := Ground.chain }], guard := none }) (oj := { dst := some 8, op := Op.alloc 24, type := 0, pos := "law.go:75", after := #[], guard := none }) (by kernel_rfl) rfl rfl rfl rfl (fun K hK => ?_) (fun K hK => ?_)
        · go_simp
          refine (HLb.out _ PG2.bel).mono ?_
          rintro e V3 ⟨yv, rfl, hly, hby⟩
          have PG3 := PG2.cally hby hly
          obtain ⟨dy, ⟨ya, yc, rfl, _⟩, _⟩ := id hly
          refine hK.out _ _ (fun _ => HCL.out _ PG3.bel) ?_
          clear hK hly hby
          try simp only [Act.put, List.setIfInBounds_toArray, List.set_cons_zero, List.set_cons_succ]
          refine wpAnyL_one' (i := 5) (o := { dst := some 8, op := Op.alloc 24, type := 0, pos := "law.go:75", after := #[], guard := none }) (by kernel_rfl) rfl rfl (fun K hK => ?_)
          go_simp
          have PG4 := PG3.new8
          refine hK.out _ _ (fun _ => HCL.out _ PG4.bel) ?_
          clear hK
          try simp only [Act.put, List.setIfInBounds_toArray, List.set_cons_zero, List.set_cons_succ]
          generalize (V3.alloc (Obj.cells #[.slice none 0 0] 24)) = V4 at *
          generalize V3.heap.size = k8 at *
          obtain ⟨b1, b2⟩ := PG4.box7
          obtain ⟨b3, b4⟩ := PG4.set7 (u := .slice xa dx.length xc)
          refine wpAnyL_one' (i := 6) (o := { dst := none, op := Op.store 24 (Operand.tmp 7) (Operand.tmp 35), type := 0, pos := "law.go:75", after := #[{ on := 4, ground := Ground.data }, { on := 1, ground := Ground.data }, { on := 3, ground := Ground.chain }, { on := 0, ground := Ground.phase }, { on := 1, ground := Ground.phase }, { on := 2, ground := Ground.textOnly Departure.lateStores }, { on := 3, ground := Ground.textOnly Departure.lateStoresUnsure }, { on := 4, ground := Ground.phase }, { on := 5, ground := Ground.phase }], guard := none }) (by kernel_rfl) rfl rfl (fun K hK => ?_)
          go_simp
          refine hK.out _ _ (fun _ => PG4.cells7 HCL HK2) ?_
          clear hK
          try simp only [Act.put, List.setIfInBounds_toArray, List.set_cons_zero, List.set_cons_succ]
          refine wpAnyL_one' (i := 7) (o := { dst := none, op := Op.store 24 (Operand.tmp 8) (Operand.tmp 37), type := 0, pos := "law.go:75", after := #[{ on := 5, ground := Ground.data }, { on := 3, ground := Ground.data }, { on := 6, ground := Ground.chain }, { on := 0, ground := Ground.phase }, { on := 1, ground := Ground.phase }, { on := 2, ground := Ground.phase }, { on := 3, ground := Ground.phase }, { on := 4, ground := Ground.phase }, { on := 5, ground := Ground.phase }, { on := 6, ground := Ground.phase }], guard := none }) (by kernel_rfl) rfl rfl (fun K hK => ?_)
          go_simp
          refine hK.out _ _ (fun h => absurd h (by decide)) ?_
          clear hK
          try simp only [Act.put, List.setIfInBounds_toArray, List.set_cons_zero, List.set_cons_succ]
          refine wpAnyL_done (by kernel_rfl) ?_ _
          have PF := PG4.fin
          go_wp2_with fail
          go_meet
          exact ⟨_, _, _, _, _, _, _, _, rfl, rfl, PF⟩
        · go_simp
          have PG3 := PG2.new8
          refine hK.out _ _ (fun _ => HCL.out _ PG3.bel) ?_
          clear hK
          try simp only [Act.put, List.setIfInBounds_toArray, List.set_cons_zero, List.set_cons_succ]
          generalize (V2.alloc (Obj.cells #[.slice none 0 0] 24)) = V3 at *
          generalize V2.heap.size = k8 at *
          refine wpAnyL_one' (i := 3) (o := { dst := some 37, op := Op.call { callee := Callee.value (Operand.func 17), args := #[Operand.tmp 36], argTypes := #[24] }, type := 24, pos := "law.go:75", after := #[{ on := 2, ground := Ground.data }, { on := 1, ground := Ground.chain }], guard := none }) (by kernel_rfl) rfl rfl (fun K hK => ?_)
          go_simp
          refine (HLb.out _ PG3.bel).mono ?_
          rintro e V4 ⟨yv, rfl, hly, hby⟩
          have PG4 := PG3.cally hby hly
          obtain ⟨dy, ⟨ya, yc, rfl, _⟩, _⟩ := id hly
          refine hK.out _ _ (fun _ => HCL.out _ PG4.bel) ?_
          clear hK hly hby
          try simp only [Act.put, List.setIfInBounds_toArray, List.set_cons_zero, List.set_cons_succ]
          obtain ⟨b1, b2⟩ := PG4.box7
          obtain ⟨b3, b4⟩ := PG4.set7 (u := .slice xa dx.length xc)
          refine wpAnyL_one' (i := 6) (o := { dst := none, op := Op.store 24 (Operand.tmp 7) (Operand.tmp 35), type := 0, pos := "law.go:75", after := #[{ on := 4, ground := Ground.data }, { on := 1, ground := Ground.data }, { on := 3, ground := Ground.chain }, { on := 0, ground := Ground.phase }, { on := 1, ground := Ground.phase }, { on := 2, ground := Ground.textOnly Departure.lateStores }, { on := 3, ground := Ground.textOnly Departure.lateStoresUnsure }, { on := 4, ground := Ground.phase }, { on := 5, ground := Ground.phase }], guard := none }) (by kernel_rfl) rfl rfl (fun K hK => ?_)
          go_simp
          refine hK.out _ _ (fun _ => PG4.cells7 HCL HK2) ?_
          clear hK
          try simp only [Act.put, List.setIfInBounds_toArray, List.set_cons_zero, List.set_cons_succ]
          refine wpAnyL_one' (i := 7) (o := { dst := none, op := Op.store 24 (Operand.tmp 8) (Operand.tmp 37), type := 0, pos := "law.go:75", after := #[{ on := 5, ground := Ground.data }, { on := 3, ground := Ground.data }, { on := 6, ground := Ground.chain }, { on := 0, ground := Ground.phase }, { on := 1, ground := Ground.phase }, { on := 2, ground := Ground.phase }, { on := 3, ground := Ground.phase }, { on := 4, ground := Ground.phase }, { on := 5, ground := Ground.phase }, { on := 6, ground := Ground.phase }], guard := none }) (by kernel_rfl) rfl rfl (fun K hK => ?_)
          go_simp
          refine hK.out _ _ (fun h => absurd h (by decide)) ?_
          clear hK
          try simp only [Act.put, List.setIfInBounds_toArray, List.set_cons_zero, List.set_cons_succ]
          refine wpAnyL_done (by kernel_rfl) ?_ _
          have PF := PG4.fin
          go_wp2_with fail
          go_meet
          exact ⟨_, _, _, _, _, _, _, _, rfl, rfl, PF⟩
      · go_simp
        have PG2 := PG1.new8
        refine hK.out _ _ (fun _ => HCL.out _ PG2.bel) ?_
        clear hK
        try simp only [Act.put, List.setIfInBounds_toArray, List.set_cons_zero, List.set_cons_succ]
        generalize (V1.alloc (Obj.cells #[.slice none 0 0] 24)) = V2 at *
        generalize V1.heap.size = k8 at *
        refine wpAnyL_one' (i := 1) (o := { dst := some 35, op := Op.call { callee := Callee.value (Operand.func 17), args := #[Operand.tmp 34], argTypes := #[24] }, type := 24, pos := "law.go:75", after := #[{ on := 0, ground := Ground.data }], guard := none }) (by kernel_rfl) rfl rfl (fun K hK => ?_)
        go_simp
        refine (HLa.out _ PG2.bel).mono ?_
        rintro e V3 ⟨xv, rfl, hlx, hbx⟩
        have PG3 := PG2.callx hbx hlx
        obtain ⟨dx, ⟨xa, xc, rfl, _⟩, _⟩ := id hlx
        refine hK.out _ _ (fun _ => HCL.out _ PG3.bel) ?_
        clear hK hlx hbx
        try simp only [Act.put, List.setIfInBounds_toArray, List.set_cons_zero, List.set_cons_succ]
        refine wpAnyL_one' (i := 3) (o := { dst := some 37, op := Op.call { callee := Callee.value (Operand.func 17), args := #[Operand.tmp 36], argTypes := #[24] }, type := 24, pos := "law.go:75", after := #[{ on := 2, ground := Ground.data }, { on := 1, ground := Ground.chain }], guard := none }) (by kernel_rfl) rfl rfl (fun K hK => ?_)
        go_simp
        refine (HLb.out _ PG3.bel).mono ?_
        rintro e V4 ⟨yv, rfl, hly, hby⟩
        have PG4 := PG3.cally hby hly
        obtain ⟨dy, ⟨ya, yc, rfl, _⟩, _⟩ := id hly
        refine hK.out _ _ (fun _ => HCL.out _ PG4.bel) ?_
        clear hK hly hby
        try simp only [Act.put, List.setIfInBounds_toArray, List.set_cons_zero, List.set_cons_succ]
        obtain ⟨b1, b2⟩ := PG4.box7
        obtain ⟨b3, b4⟩ := PG4.set7 (u := .slice xa dx.length xc)
        refine wpAnyL_one' (i := 6) (o := { dst := none, op := Op.store 24 (Operand.tmp 7) (Operand.tmp 35), type := 0, pos := "law.go:75", after := #[{ on := 4, ground := Ground.data }, { on := 1, ground := Ground.data }, { on := 3, ground := Ground.chain }, { on := 0, ground := Ground.phase }, { on := 1, ground := Ground.phase }, { on := 2, ground := Ground.textOnly Departure.lateStores }, { on := 3, ground := Ground.textOnly Departure.lateStoresUnsure }, { on := 4, ground := Ground.phase }, { on := 5, ground := Ground.phase }], guard := none }) (by kernel_rfl) rfl rfl (fun K hK => ?_)
        go_simp
        refine hK.out _ _ (fun _ => PG4.cells7 HCL HK2) ?_
        clear hK
        try simp only [Act.put, List.setIfInBounds_toArray, List.set_cons_zero, List.set_cons_succ]
        refine wpAnyL_one' (i := 7) (o := { dst := none, op := Op.store 24 (Operand.tmp 8) (Operand.tmp 37), type := 0, pos := "law.go:75", after := #[{ on := 5, ground := Ground.data }, { on := 3, ground := Ground.data }, { on := 6, ground := Ground.chain }, { on := 0, ground := Ground.phase }, { on := 1, ground := Ground.phase }, { on := 2, ground := Ground.phase }, { on := 3, ground := Ground.phase }, { on := 4, ground := Ground.phase }, { on := 5, ground := Ground.phase }, { on := 6, ground := Ground.phase }], guard := none }) (by kernel_rfl) rfl rfl (fun K hK => ?_)
        go_simp
        refine hK.out _ _ (fun h => absurd h (by decide)) ?_
        clear hK
        try simp only [Act.put, List.setIfInBounds_toArray, List.set_cons_zero, List.set_cons_succ]
        refine wpAnyL_done (by kernel_rfl) ?_ _
        have PF := PG4.fin
        go_wp2_with fail
        go_meet
        exact ⟨_, _, _, _, _, _, _, _, rfl, rfl, PF⟩
    · go_simp
      have PG1 := PG.new8
      refine hK.out _ _ (fun _ => HCL.out _ PG1.bel) ?_
      clear hK
      try simp only [Act.put, List.setIfInBounds_toArray, List.set_cons_zero, List.set_cons_succ]
      generalize (W0.alloc (Obj.cells #[.slice none 0 0] 24)) = V1 at *
      generalize W0.heap.size = k8 at *
      refine wpAnyL_two (i := 1) (j := 4) (oi := { dst := some 35, op := Op.call { callee := Callee.value (Operand.func 17), args := #[Operand.tmp 34], argTypes := #[24] }, type := 24, pos := "law.go:75", after := #[{ on := 0, ground := Ground.data }], guard := none }) (oj := { dst := some 7, op := Op.alloc 24, type := 0, pos := "law.go:75", after := #[], guard := none }) (by kernel_rfl) rfl rfl rfl rfl (fun K hK => ?_) (fun K hK => ?_)
      · go_simp
        refine (HLa.out _ PG1.bel).mono ?_
        rintro e V2 ⟨xv, rfl, hlx, hbx⟩
        have PG2 := PG1.callx hbx hlx
        obtain ⟨dx, ⟨xa, xc, rfl, _⟩, _⟩ := id hlx
        refine hK.out _ _ (fun _ => HCL.out _ PG2.bel) ?_
        clear hK hlx hbx
        try simp only [Act.put, List.setIfInBounds_toArray, List.set_cons_zero, List.set_cons_succ]
        refine wpAnyL_two (i := 3) (j := 4) (oi := { dst := some 37, op := Op.call { callee := Callee.value (Operand.func 17), args := #[Operand.tmp 36], argTypes := #[24] }, type := 24, pos := "law.go:75", after := #[{ on := 2, ground := Ground.data }, { on := 1, ground := Ground.chain }], guard := none }) (oj := { dst := some 7, op := Op.alloc 24, type := 0, pos := "law.go:75", after := #[], guard := none }) (by kernel_rfl) rfl rfl rfl rfl (fun K hK => ?_) (fun K hK => ?_)
        · go_simp
          refine (HLb.out _ PG2.bel).mono ?_
          rintro e V3 ⟨yv, rfl, hly, hby⟩
          have PG3 := PG2.cally hby hly
          obtain ⟨dy, ⟨ya, yc, rfl, _⟩, _⟩ := id hly
          refine hK.out _ _ (fun _ => HCL.out _ PG3.bel) ?_
          clear hK hly hby
          try simp only [Act.put, List.setIfInBounds_toArray, List.set_cons_zero, List.set_cons_succ]
          refine wpAnyL_one' (i := 4) (o := { dst := some 7, op := Op.alloc 24, type := 0, pos := "law.go:75", after := #[], guard := none }) (by kernel_rfl) rfl rfl (fun K hK => ?_)
          go_simp
          have PG4 := PG3.new7
          refine hK.out _ _ (fun _ => HCL.out _ PG4.bel) ?_
          clear hK
          try simp only [Act.put, List.setIfInBounds_toArray, List.set_cons_zero, List.set_cons_succ]
          generalize (V3.alloc (Obj.cells #[.slice none 0 0] 24)) = V4 at *
          generalize V3.heap.size = k7 at *
          obtain ⟨b1, b2⟩ := PG4.box7
          obtain ⟨b3, b4⟩ := PG4.set7 (u := .slice xa dx.length xc)
          refine wpAnyL_one' (i := 6) (o := { dst := none, op := Op.store 24 (Operand.tmp 7) (Operand.tmp 35), type := 0, pos := "law.go:75", after := #[{ on := 4, ground := Ground.data }, { on := 1, ground := Ground.data }, { on := 3, ground := Ground.chain }, { on := 0, ground := Ground.phase }, { on := 1, ground := Ground.phase }, { on := 2, ground := Ground.textOnly Departure.lateStores }, { on := 3, ground := Ground.textOnly Departure.lateStoresUnsure }, { on := 4, ground := Ground.phase }, { on := 5, ground := Ground.phase }], guard := none }) (by kernel_rfl) rfl rfl (fun K hK => ?_)
          go_simp
          refine hK.out _ _ (fun _ => PG4.cells7 HCL HK2) ?_
          clear hK
          try simp only [Act.put, List.setIfInBounds_toArray, List.set_cons_zero, List.set_cons_succ]
          refine wpAnyL_one' (i := 7) (o := { dst := none, op := Op.store 24 (Operand.tmp 8) (Operand.tmp 37), type := 0, pos := "law.go:75", after := #[{ on := 5, ground := Ground.data }, { on := 3, ground := Ground.data }, { on := 6, ground := Ground.chain }, { on := 0, ground := Ground.phase }, { on := 1, ground := Ground.phase }, { on := 2, ground := Ground.phase }, { on := 3, ground := Ground.phase }, { on := 4, ground := Ground.phase }, { on := 5, ground := Ground.phase }, { on := 6, ground := Ground.phase }], guard := none }) (by kernel_rfl) rfl rfl (fun K hK => ?_)
          go_simp
          refine hK.out _ _ (fun h => absurd h (by decide)) ?_
          clear hK
          try simp only [Act.put, List.setIfInBounds_toArray, List.set_cons_zero, List.set_cons_succ]
          refine wpAnyL_done (by kernel_rfl) ?_ _
          have PF := PG4.fin
          go_wp2_with fail
          go_meet
          exact ⟨_, _, _, _, _, _, _, _, rfl, rfl, PF⟩
        · go_simp
          have PG3 := PG2.new7
          refine hK.out _ _ (fun _ => HCL.out _ PG3.bel) ?_
          clear hK
          try simp only [Act.put, List.setIfInBounds_toArray, List.set_cons_zero, List.set_cons_succ]
          generalize (V2.alloc (Obj.cells #[.slice none 0 0] 24)) = V3 at *
          generalize V2.heap.size = k7 at *
          refine wpAnyL_one' (i := 3) (o := { dst := some 37, op := Op.call { callee := Callee.value (Operand.func 17), args := #[Operand.tmp 36], argTypes := #[24] }, type := 24, pos := "law.go:75", after := #[{ on := 2, ground := Ground.data }, { on := 1, ground := Ground.chain }], guard := none }) (by kernel_rfl) rfl rfl (fun K hK => ?_)
          go_simp
          refine (HLb.out _ PG3.bel).mono ?_
          rintro e V4 ⟨yv, rfl, hly, hby⟩
          have PG4 := PG3.cally hby hly
          obtain ⟨dy, ⟨ya, yc, rfl, _⟩, _⟩ := id hly
          refine hK.out _ _ (fun _ => HCL.out _ PG4.bel) ?_
          clear hK hly hby
          try simp only [Act.put, List.setIfInBounds_toArray, List.set_cons_zero, List.set_cons_succ]
          obtain ⟨b1, b2⟩ := PG4.box7
          obtain ⟨b3, b4⟩ := PG4.set7 (u := .slice xa dx.length xc)
          refine wpAnyL_one' (i := 6) (o := { dst := none, op := Op.store 24 (Operand.tmp 7) (Operand.tmp 35), type := 0, pos := "law.go:75", after := #[{ on := 4, ground := Ground.data }, { on := 1, ground := Ground.data }, { on := 3, ground := Ground.chain }, { on := 0, ground := Ground.phase }, { on := 1, ground := Ground.phase }, { on := 2, ground := Ground.textOnly Departure.lateStores }, { on := 3, ground := Ground.textOnly Departure.lateStoresUnsure }, { on := 4, ground := Ground.phase }, { on := 5, ground := Ground.phase }], guard := none }) (by kernel_rfl) rfl rfl (fun K hK => ?_)
          go_simp
          refine hK.out _ _ (fun _ => PG4.cells7 HCL HK2) ?_
          clear hK
          try simp only [Act.put, List.setIfInBounds_toArray, List.set_cons_zero, List.set_cons_succ]
          refine wpAnyL_one' (i := 7) (o := { dst := none, op := Op.store 24 (Operand.tmp 8) (Operand.tmp 37), type := 0, pos := "law.go:75", after := #[{ on := 5, ground := Ground.data }, { on := 3, ground := Ground.data }, { on := 6, ground := Ground.chain }, { on := 0, ground := Ground.phase }, { on := 1, ground := Ground.phase }, { on := 2, ground := Ground.phase }, { on := 3, ground := Ground.phase }, { on := 4, ground := Ground.phase }, { on := 5, ground := Ground.phase }, { on := 6, ground := Ground.phase }], guard := none }) (by kernel_rfl) rfl rfl (fun K hK => ?_)
          go_simp
          refine hK.out _ _ (fun h => absurd h (by decide)) ?_
          clear hK
          try simp only [Act.put, List.setIfInBounds_toArray, List.set_cons_zero, List.set_cons_succ]
          refine wpAnyL_done (by kernel_rfl) ?_ _
          have PF := PG4.fin
          go_wp2_with fail
          go_meet
          exact ⟨_, _, _, _, _, _, _, _, rfl, rfl, PF⟩
      · go_simp
        have PG2 := PG1.new7
        refine hK.out _ _ (fun _ => HCL.out _ PG2.bel) ?_
        clear hK
        try simp only [Act.put, List.setIfInBounds_toArray, List.set_cons_zero, List.set_cons_succ]
        generalize (V1.alloc (Obj.cells #[.slice none 0 0] 24)) = V2 at *
        generalize V1.heap.size = k7 at *
        refine wpAnyL_one' (i := 1) (o := { dst := some 35, op := Op.call { callee := Callee.value (Operand.func 17), args := #[Operand.tmp 34], argTypes := #[24] }, type := 24, pos := "law.go:75", after := #[{ on := 0, ground := Ground.data }], guard := none }) (by kernel_rfl) rfl rfl (fun K hK => ?_)
        go_simp
        refine (HLa.out _ PG2.bel).mono ?_
        rintro e V3 ⟨xv, rfl, hlx, hbx⟩
        have PG3 := PG2.callx hbx hlx
        obtain ⟨dx, ⟨xa, xc, rfl, _⟩, _⟩ := id hlx
        refine hK.out _ _ (fun _ => HCL.out _ PG3.bel) ?_
        clear hK hlx hbx
        try simp only [Act.put, List.setIfInBounds_toArray, List.set_cons_zero, List.set_cons_succ]
        refine wpAnyL_one' (i := 3) (o := { dst := some 37, op := Op.call { callee := Callee.value (Operand.func 17), args := #[Operand.tmp 36], argTypes := #[24] }, type := 24, pos := "law.go:75", after := #[{ on := 2, ground := Ground.data }, { on := 1, ground := Ground.chain }], guard := none }) (by kernel_rfl) rfl rfl (fun K hK => ?_)
        go_simp
        refine (HLb.out _ PG3.bel).mono ?_
        rintro e V4 ⟨yv, rfl, hly, hby⟩
        have PG4 := PG3.cally hby hly
        obtain ⟨dy, ⟨ya, yc, rfl, _⟩, _⟩ := id hly
        refine hK.out _ _ (fun _ => HCL.out _ PG4.bel) ?_
        clear hK hly hby
        try simp only [Act.put, List.setIfInBounds_toArray, List.set_cons_zero, List.set_cons_succ]
        obtain ⟨b1, b2⟩ := PG4.box7
        obtain ⟨b3, b4⟩ := PG4.set7 (u := .slice xa dx.length xc)
        refine wpAnyL_one' (i := 6) (o := { dst := none, op := Op.store 24 (Operand.tmp 7) (Operand.tmp 35), type := 0, pos := "law.go:75", after := #[{ on := 4, ground := Ground.data }, { on := 1, ground := Ground.data }, { on := 3, ground := Ground.chain }, { on := 0, ground := Ground.phase }, { on := 1, ground := Ground.phase }, { on := 2, ground := Ground.textOnly Departure.lateStores }, { on := 3, ground := Ground.textOnly Departure.lateStoresUnsure }, { on := 4, ground := Ground.phase }, { on := 5, ground := Ground.phase }], guard := none }) (by kernel_rfl) rfl rfl (fun K hK => ?_)
        go_simp
        refine hK.out _ _ (fun _ => PG4.cells7 HCL HK2) ?_
        clear hK
        try simp only [Act.put, List.setIfInBounds_toArray, List.set_cons_zero, List.set_cons_succ]
        refine wpAnyL_one' (i := 7) (o := { dst := none, op := Op.store 24 (Operand.tmp 8) (Operand.tmp 37), type := 0, pos := "law.go:75", after := #[{ on := 5, ground := Ground.data }, { on := 3, ground := Ground.data }, { on := 6, ground := Ground.chain }, { on := 0, ground := Ground.phase }, { on := 1, ground := Ground.phase }, { on := 2, ground := Ground.phase }, { on := 3, ground := Ground.phase }, { on := 4, ground := Ground.phase }, { on := 5, ground := Ground.phase }, { on := 6, ground := Ground.phase }], guard := none }) (by kernel_rfl) rfl rfl (fun K hK => ?_)
        go_simp
        refine hK.out _ _ (fun h => absurd h (by decide)) ?_
        clear hK
        try simp only [Act.put, List.setIfInBounds_toArray, List.set_cons_zero, List.set_cons_succ]
        refine wpAnyL_done (by kernel_rfl) ?_ _
        have PF := PG4.fin
        go_wp2_with fail
        go_meet
        exact ⟨_, _, _, _, _, _, _, _, rfl, rfl, PF⟩
  case rest =>
  obtain ⟨k7, k8, xa, xn, xc, ya, yn, yc, rfl, rfl, HT⟩ := hcut
  generalize wc = wt at *
  obtain ⟨d, hd1, hd2, hd3, hd4⟩ := HT.out.2.2.2.1
  obtain ⟨f, hf1, hf2, hf3, hf4⟩ := HT.out.2.2.2.2
  have HF : Hid (∀ W, Below wt.heap.size wt W → (W.cell? ⟨w.heap.size, 0, none⟩ = some (.slice aa a.length ac) ∧ W.cell? ⟨w.heap.size + 1, 0, none⟩ = some (.slice ba b.length bc) ∧ W.cell? ⟨k7, 0, none⟩ = some (.slice xa xn xc) ∧ W.cell? ⟨k8, 0, none⟩ = some (.slice ya yn yc)) ∧ (Calls Try.prog 10 #[.agg #[.slice xa xn xc]] W fun e w' => e = .returned (.bool true) ∧ Below W.heap.size W w') ∧ (Calls Try.prog 10 #[.agg #[.slice ya yn yc]] W fun e w' => e = .returned (.bool true) ∧ Below W.heap.size W w') ∧ (Calls Try.prog 12 #[.agg #[.slice xa xn xc], .agg #[.slice ya yn yc]] W fun e w' => e = .returned (.bool (decide (d = f))) ∧ Below W.heap.size W w')) := fun W hW => by
    have h1 := rfit_any d _ W (hd1.next hW)
    have h2 := rfit_any f _ W (hf1.next hW)
    rw [fit_fitB hd2.fit (by have := HLn.out; omega)] at h1
    rw [fit_fitB hf2.fit (by have := HLn.out; omega)] at h2
    have b0 := HT.out.1.trans (hW.mono HT.out.1.size)
    exact ⟨⟨(HCL.out _ b0).1, (HCL.out _ b0).2, by rw [Lib.cell_of_heap ((hW.block _ (blk_lt HT.out.2.1)).trans HT.out.2.1)]; rfl, by rw [Lib.cell_of_heap ((hW.block _ (blk_lt HT.out.2.2.1)).trans HT.out.2.2.1)]; rfl⟩, h1, h2, rsame_any d f _ _ W (hd1.next hW) (hf1.next hW)⟩
  have HWX : Hid (∀ (W : World) (s : ByteArray), Below wt.heap.size wt W → s.size ≤ 1000000 → (Calls Try.prog 21 #[.agg #[.slice aa a.length ac], .string s] W fun e w' => e = .returned (.int .i64 (resD a 0 (bsZ s))) ∧ Below W.heap.size W w') ∧ (Calls Try.prog 21 #[.agg #[.slice ba b.length bc], .string s] W fun e w' => e = .returned (.int .i64 (resD b 0 (bsZ s))) ∧ Below W.heap.size W w') ∧ (Calls Try.prog 21 #[.agg #[.slice xa xn xc], .string s] W fun e w' => e = .returned (.int .i64 (resD a 0 (bsZ s))) ∧ Below W.heap.size W w') ∧ (Calls Try.prog 21 #[.agg #[.slice ya yn yc], .string s] W fun e w' => e = .returned (.int .i64 (resD b 0 (bsZ s))) ∧ Below W.heap.size W w')) := fun W s hW hs => by
    have b0 := HT.out.1.trans (hW.mono HT.out.1.size)
    have h1 := whole_any d _ s W (hd1.next hW) hd2.fit (nf_up hd2.fit) hs
    have h2 := whole_any f _ s W (hf1.next hW) hf2.fit (nf_up hf2.fit) hs
    rw [hd3] at h1
    rw [hf3] at h2
    exact ⟨(HWA.out W s b0 hs).1, (HWA.out W s b0 hs).2, h1, h2⟩
  have HEQ : Hid (decide (d = f) = !db) := by
    obtain ⟨p1, p2⟩ := HDO.out
    rw [HDT.out] at p1 p2
    show _ = _
    cases db with
    | false => exact decide_eq_true (hd2.one hf2 (by rw [hd3, hf3, p1 rfl]))
    | true =>
      obtain ⟨P, _, _, _, hP⟩ := p2 rfl
      exact decide_eq_false (fun e => hP.1 (by rw [← hd3, ← hf3, e]))
  have HBW : Hid (∀ W, Below wt.heap.size wt W → Below w.heap.size w W) := fun W hW => HBB.out _ (HT.out.1.trans (hW.mono HT.out.1.size))
  have HPP : Hid (db = true → ∃ P, dt.size ≤ 1000000 ∧ bsZ dt = P ∧ resD a 0 P ≠ resD b 0 P) := fun h => by
    obtain ⟨_, p2⟩ := HDO.out
    rw [HDT.out] at p2
    obtain ⟨P, h1, h2, h3, h4⟩ := p2 h
    simp only at h1
    have h5 := bsZ_str h3
    rw [← h1] at h5
    exact ⟨P, by rw [← bsZ_len, h5]; omega, h5, h4.1⟩
  generalize decide (d = f) = E at *
  clear hd1 hd2 hd3 hd4 hf1 hf2 hf3 hf4 HDO HDT HLn HWA HLa HLb HCL HBB HT HK2
  go_upto_region 5 with fail
  go_cut [52] from 9 (fun t52 wx => t52 = .bool false ∧ Below wt.heap.size wt wx)
  case first =>
    have bz0 : Below wt.heap.size wt wt := Below.refl _ _
    obtain ⟨⟨q0, q1, q2, q3⟩, C1, _⟩ := HF.out _ bz0
    go_wp2_with fail
    refine C1.mono ?_
    clear C1 q0 q1 q2 q3
    rintro e V1 ⟨rfl, hb1⟩
    obtain ⟨⟨q0, q1, q2, q3⟩, _, C1, _⟩ := HF.out _ hb1
    go_wp2_with fail
    refine C1.mono ?_
    clear C1 q0 q1 q2 q3
    rintro e V2 ⟨rfl, hb2⟩
    have bz2 := below_then hb1 hb2 hb1.size
    clear hb1 hb2
    obtain ⟨⟨q0, q1, q2, q3⟩, _, _, C1⟩ := HF.out _ bz2
    go_wp2_with fail
    refine C1.mono ?_
    clear C1 q0 q1 q2 q3
    rintro e V3 ⟨rfl, hb3⟩
    have bz3 := below_then bz2 hb3 bz2.size
    have hEq := HEQ.out
    subst hEq
    clear hb3 bz2 HEQ
    go_wp2_with fail
    go_meet
    exact ⟨by cases db <;> rfl, bz3⟩
  case rest =>
  obtain ⟨rfl, hbd⟩ := hcut
  generalize wc = wd at *
  clear HEQ
  cases db
  case false =>
    have CA := awake_any wd
    clear HF HWX HPP
    go_wp2_with fail
    refine CA.mono ?_
    rintro e W2 ⟨rfl, hb2⟩
    have HE2 : Hid (Below w.heap.size w W2) := HBW.out _ (below_then hbd hb2 hbd.size)
    clear CA hb2
    go_wp2_with fail
    go_ret
    exact ⟨rfl, HE2.out⟩
  obtain ⟨P, hsz, hbz, hne⟩ := HPP.out rfl
  go_upto_region 9 with fail
  have bdr : Below wt.heap.size wt wd.drew := below_drewN hbd 1
  have HWH : Hid (∀ W, Below wd.drew.heap.size wd.drew W → (Calls Try.prog 21 #[.agg #[.slice aa a.length ac], .string dt] W fun e w' => e = .returned (.int .i64 (resD a 0 P)) ∧ Below W.heap.size W w') ∧ (Calls Try.prog 21 #[.agg #[.slice ba b.length bc], .string dt] W fun e w' => e = .returned (.int .i64 (resD b 0 P)) ∧ Below W.heap.size W w') ∧ (Calls Try.prog 21 #[.agg #[.slice xa xn xc], .string dt] W fun e w' => e = .returned (.int .i64 (resD a 0 P)) ∧ Below W.heap.size W w') ∧ (Calls Try.prog 21 #[.agg #[.slice ya yn yc], .string dt] W fun e w' => e = .returned (.int .i64 (resD b 0 P)) ∧ Below W.heap.size W w')) := fun W hW => by
    have h9 := HWX.out W dt (bdr.trans (hW.mono bdr.size)) hsz
    rw [hbz] at h9
    exact h9
  have HS9 : Hid (∀ W, Below wd.drew.heap.size wd.drew W → (W.cell? ⟨w.heap.size, 0, none⟩ = some (.slice aa a.length ac) ∧ W.cell? ⟨w.heap.size + 1, 0, none⟩ = some (.slice ba b.length bc) ∧ W.cell? ⟨k7, 0, none⟩ = some (.slice xa xn xc) ∧ W.cell? ⟨k8, 0, none⟩ = some (.slice ya yn yc)) ∧ Below w.heap.size w W) := fun W hW => ⟨(HF.out W (bdr.trans (hW.mono bdr.size))).1, HBW.out W (bdr.trans (hW.mono bdr.size))⟩
  have HT0 := (HS9.out _ (Below.refl _ _)).1
  clear HF HWX HPP HBW hbd bdr hbz hsz
  generalize resD a 0 P = r1 at *
  generalize resD b 0 P = r2 at *
  have dne : (r1 != r2) = true := by simpa using hne
  clear hne
  refine wp_region_L (fun W => W.cell? ⟨w.heap.size, 0, none⟩ = some (.slice aa a.length ac) ∧ W.cell? ⟨w.heap.size + 1, 0, none⟩ = some (.slice ba b.length bc) ∧ W.cell? ⟨k7, 0, none⟩ = some (.slice xa xn xc) ∧ W.cell? ⟨k8, 0, none⟩ = some (.slice ya yn yc)) 29 (by kernel_rfl) 29 rfl ?_
  refine wpAnyL_take' (i := 0) (v := ?_) (oi := { dst := some 56, op := Op.load 24 (Operand.tmp 2), type := 24, pos := "law.go:82", after := #[], guard := none }) rfl (by kernel_rfl) (by kernel_rfl) (by kernel_rfl) (by kernel_rfl) rfl (fun _ _ _ h => h) (Or.inl ⟨by rfl, ?_⟩) HT0 ?_
  rotate_left
  · intro W hSW
    go_simp
    try with_reducible rfl
  simp only [Act.put, List.setIfInBounds_toArray, List.set_cons_zero, List.set_cons_succ]
  refine wpAnyL_take' (i := 1) (v := ?_) (oi := { dst := some 57, op := Op.move (Operand.tmp 5), type := 9, pos := "law.go:82", after := #[], guard := none }) rfl (by kernel_rfl) (by kernel_rfl) (by kernel_rfl) (by kernel_rfl) rfl (fun _ _ _ h => h) (Or.inl ⟨by rfl, ?_⟩) HT0 ?_
  rotate_left
  · intro W hSW
    go_simp
    try with_reducible rfl
  simp only [Act.put, List.setIfInBounds_toArray, List.set_cons_zero, List.set_cons_succ]
  refine wpAnyL_take' (i := 3) (v := ?_) (oi := { dst := some 59, op := Op.load 24 (Operand.tmp 3), type := 24, pos := "law.go:82", after := #[], guard := none }) rfl (by kernel_rfl) (by kernel_rfl) (by kernel_rfl) (by kernel_rfl) rfl (fun _ _ _ h => h) (Or.inl ⟨by rfl, ?_⟩) HT0 ?_
  rotate_left
  · intro W hSW
    go_simp
    try with_reducible rfl
  simp only [Act.put, List.setIfInBounds_toArray, List.set_cons_zero, List.set_cons_succ]
  refine wpAnyL_take' (i := 4) (v := ?_) (oi := { dst := some 60, op := Op.move (Operand.tmp 5), type := 9, pos := "law.go:82", after := #[], guard := none }) rfl (by kernel_rfl) (by kernel_rfl) (by kernel_rfl) (by kernel_rfl) rfl (fun _ _ _ h => h) (Or.inl ⟨by rfl, ?_⟩) HT0 ?_
  rotate_left
  · intro W hSW
    go_simp
    try with_reducible rfl
  simp only [Act.put, List.setIfInBounds_toArray, List.set_cons_zero, List.set_cons_succ]
  have CW := (HWH.out _ (Below.refl _ _)).1
  refine wpAnyL_one' (i := 2) (o := { dst := some 58, op := Op.call { callee := Callee.value (Operand.func 21), args := #[Operand.tmp 56, Operand.tmp 57], argTypes := #[24, 9] }, type := 3, pos := "law.go:82", after := #[{ on := 0, ground := Ground.data }, { on := 1, ground := Ground.data }], guard := none }) (by kernel_rfl) rfl rfl (fun K hK => ?_)
  go_simp
  refine (CW).mono ?_
  rintro e V1 ⟨rfl, hb1⟩
  refine hK.out _ _ (fun _ => (HS9.out _ hb1).1) ?_
  clear hK
  clear CW
  have HT1 := (HS9.out _ hb1).1
  have CW := (HWH.out _ hb1).2.1
  refine wpAnyL_one' (i := 5) (o := { dst := some 61, op := Op.call { callee := Callee.value (Operand.func 21), args := #[Operand.tmp 59, Operand.tmp 60], argTypes := #[24, 9] }, type := 3, pos := "law.go:82", after := #[{ on := 3, ground := Ground.data }, { on := 4, ground := Ground.data }, { on := 2, ground := Ground.chain }], guard := none }) (by kernel_rfl) rfl rfl (fun K hK => ?_)
  go_simp
  refine (CW).mono ?_
  rintro e V2 ⟨rfl, hb2⟩
  refine hK.out _ _ (fun _ => (HS9.out _ (hb1.trans (hb2.mono hb1.size))).1) ?_
  clear hK
  clear CW
  have HT2 := (HS9.out _ (hb1.trans (hb2.mono hb1.size))).1
  refine wpAnyL_take' (i := 6) (v := ?_) (oi := { dst := some 62, op := Op.binOp BinOp.neq 3 (Operand.tmp 58) (Operand.tmp 61) 3, type := 4, pos := "law.go:82", after := #[{ on := 2, ground := Ground.data }, { on := 5, ground := Ground.data }], guard := none }) rfl (by kernel_rfl) (by kernel_rfl) (by kernel_rfl) (by kernel_rfl) rfl (fun _ _ _ h => h) (Or.inl ⟨by rfl, ?_⟩) HT2 ?_
  rotate_left
  · intro W hSW
    go_simp
    try with_reducible rfl
  simp only [Act.put, List.setIfInBounds_toArray, List.set_cons_zero, List.set_cons_succ]
  refine wpAnyL_take' (i := 7) (v := ?_) (oi := { dst := some 63, op := Op.move (Operand.tmp 62), type := 4, pos := "law.go:82", after := #[{ on := 6, ground := Ground.data }, { on := 5, ground := Ground.chain }], guard := none }) rfl (by kernel_rfl) (by kernel_rfl) (by kernel_rfl) (by kernel_rfl) rfl (fun _ _ _ h => h) (Or.inl ⟨by rfl, ?_⟩) HT2 ?_
  rotate_left
  · intro W hSW
    go_simp
    try with_reducible rfl
  simp only [Act.put, List.setIfInBounds_toArray, List.set_cons_zero, List.set_cons_succ]
  refine wpAnyL_take' (i := 8) (v := ?_) (oi := { dst := some 64, op := Op.load 24 (Operand.tmp 7), type := 24, pos := "law.go:82", after := #[{ on := 7, ground := Ground.guard }], guard := some (7, true) }) rfl (by kernel_rfl) (by kernel_rfl) (by kernel_rfl) (by kernel_rfl) rfl (fun _ _ _ h => h) (Or.inl ⟨by rfl, ?_⟩) HT2 ?_
  rotate_left
  · intro W hSW
    go_simp
    try with_reducible rfl
  simp only [Act.put, List.setIfInBounds_toArray, List.set_cons_zero, List.set_cons_succ]
  refine wpAnyL_take' (i := 9) (v := ?_) (oi := { dst := some 65, op := Op.move (Operand.tmp 5), type := 9, pos := "law.go:82", after := #[{ on := 7, ground := Ground.guard }], guard := some (7, true) }) rfl (by kernel_rfl) (by kernel_rfl) (by kernel_rfl) (by kernel_rfl) rfl (fun _ _ _ h => h) (Or.inl ⟨by rfl, ?_⟩) HT2 ?_
  rotate_left
  · intro W hSW
    go_simp
    try with_reducible rfl
  simp only [Act.put, List.setIfInBounds_toArray, List.set_cons_zero, List.set_cons_succ]
  refine wpAnyL_take' (i := 11) (v := ?_) (oi := { dst := some 67, op := Op.load 24 (Operand.tmp 2), type := 24, pos := "law.go:82", after := #[{ on := 7, ground := Ground.guard }], guard := some (7, true) }) rfl (by kernel_rfl) (by kernel_rfl) (by kernel_rfl) (by kernel_rfl) rfl (fun _ _ _ h => h) (Or.inl ⟨by rfl, ?_⟩) HT2 ?_
  rotate_left
  · intro W hSW
    go_simp
    try with_reducible rfl
  simp only [Act.put, List.setIfInBounds_toArray, List.set_cons_zero, List.set_cons_succ]
  refine wpAnyL_take' (i := 12) (v := ?_) (oi := { dst := some 68, op := Op.move (Operand.tmp 5), type := 9, pos := "law.go:82", after := #[{ on := 7, ground := Ground.guard }], guard := some (7, true) }) rfl (by kernel_rfl) (by kernel_rfl) (by kernel_rfl) (by kernel_rfl) rfl (fun _ _ _ h => h) (Or.inl ⟨by rfl, ?_⟩) HT2 ?_
  rotate_left
  · intro W hSW
    go_simp
    try with_reducible rfl
  simp only [Act.put, List.setIfInBounds_toArray, List.set_cons_zero, List.set_cons_succ]
  have CW := (HWH.out _ (hb1.trans (hb2.mono hb1.size))).2.2.1
  refine wpAnyL_one' (i := 10) (o := { dst := some 66, op := Op.call { callee := Callee.value (Operand.func 21), args := #[Operand.tmp 64, Operand.tmp 65], argTypes := #[24, 9] }, type := 3, pos := "law.go:82", after := #[{ on := 8, ground := Ground.data }, { on := 9, ground := Ground.data }, { on := 7, ground := Ground.chain }, { on := 7, ground := Ground.guard }], guard := some (7, true) }) (by kernel_rfl) rfl rfl (fun K hK => ?_)
  go_simp
  refine (CW).mono ?_
  rintro e V3 ⟨rfl, hb3⟩
  refine hK.out _ _ (fun _ => (HS9.out _ ((hb1.trans (hb2.mono hb1.size)).trans (hb3.mono (hb1.trans (hb2.mono hb1.size)).size))).1) ?_
  clear hK
  clear CW
  have HT3 := (HS9.out _ ((hb1.trans (hb2.mono hb1.size)).trans (hb3.mono (hb1.trans (hb2.mono hb1.size)).size))).1
  have CW := (HWH.out _ ((hb1.trans (hb2.mono hb1.size)).trans (hb3.mono (hb1.trans (hb2.mono hb1.size)).size))).1
  refine wpAnyL_one' (i := 13) (o := { dst := some 69, op := Op.call { callee := Callee.value (Operand.func 21), args := #[Operand.tmp 67, Operand.tmp 68], argTypes := #[24, 9] }, type := 3, pos := "law.go:82", after := #[{ on := 11, ground := Ground.data }, { on := 12, ground := Ground.data }, { on := 10, ground := Ground.chain }, { on := 7, ground := Ground.guard }], guard := some (7, true) }) (by kernel_rfl) rfl rfl (fun K hK => ?_)
  go_simp
  refine (CW).mono ?_
  rintro e V4 ⟨rfl, hb4⟩
  refine hK.out _ _ (fun _ => (HS9.out _ (((hb1.trans (hb2.mono hb1.size)).trans (hb3.mono (hb1.trans (hb2.mono hb1.size)).size)).trans (hb4.mono ((hb1.trans (hb2.mono hb1.size)).trans (hb3.mono (hb1.trans (hb2.mono hb1.size)).size)).size))).1) ?_
  clear hK
  clear CW
  have HT4 := (HS9.out _ (((hb1.trans (hb2.mono hb1.size)).trans (hb3.mono (hb1.trans (hb2.mono hb1.size)).size)).trans (hb4.mono ((hb1.trans (hb2.mono hb1.size)).trans (hb3.mono (hb1.trans (hb2.mono hb1.size)).size)).size))).1
  refine wpAnyL_take' (i := 14) (v := ?_) (oi := { dst := some 70, op := Op.binOp BinOp.eql 3 (Operand.tmp 66) (Operand.tmp 69) 3, type := 4, pos := "law.go:82", after := #[{ on := 10, ground := Ground.data }, { on := 13, ground := Ground.data }, { on := 7, ground := Ground.guard }], guard := some (7, true) }) rfl (by kernel_rfl) (by kernel_rfl) (by kernel_rfl) (by kernel_rfl) rfl (fun _ _ _ h => h) (Or.inl ⟨by rfl, ?_⟩) HT4 ?_
  rotate_left
  · intro W hSW
    go_simp
    try with_reducible rfl
  simp only [Act.put, List.setIfInBounds_toArray, List.set_cons_zero, List.set_cons_succ]
  refine wpAnyL_take' (i := 15) (v := ?_) (oi := { dst := some 71, op := Op.pick (Operand.tmp 63) (Operand.tmp 70) (Operand.const (Value.bool false)), type := 4, pos := "law.go:82", after := #[{ on := 7, ground := Ground.data }, { on := 14, ground := Ground.data }], guard := none }) rfl (by kernel_rfl) (by kernel_rfl) (by kernel_rfl) (by kernel_rfl) rfl (fun _ _ _ h => h) (Or.inl ⟨by rfl, ?_⟩) HT4 ?_
  rotate_left
  · intro W hSW
    go_simp
    try with_reducible rfl
  simp only [Act.put, List.setIfInBounds_toArray, List.set_cons_zero, List.set_cons_succ]
  refine wpAnyL_take' (i := 16) (v := ?_) (oi := { dst := some 72, op := Op.move (Operand.tmp 71), type := 4, pos := "law.go:82", after := #[{ on := 15, ground := Ground.data }, { on := 13, ground := Ground.chain }], guard := none }) rfl (by kernel_rfl) (by kernel_rfl) (by kernel_rfl) (by kernel_rfl) rfl (fun _ _ _ h => h) (Or.inl ⟨by rfl, ?_⟩) HT4 ?_
  rotate_left
  · intro W hSW
    go_simp
    try with_reducible rfl
  simp only [Act.put, List.setIfInBounds_toArray, List.set_cons_zero, List.set_cons_succ]
  refine wpAnyL_take' (i := 17) (v := ?_) (oi := { dst := some 73, op := Op.load 24 (Operand.tmp 8), type := 24, pos := "law.go:82", after := #[{ on := 16, ground := Ground.guard }], guard := some (16, true) }) rfl (by kernel_rfl) (by kernel_rfl) (by kernel_rfl) (by kernel_rfl) rfl (fun _ _ _ h => h) (Or.inl ⟨by rfl, ?_⟩) HT4 ?_
  rotate_left
  · intro W hSW
    go_simp
    try with_reducible rfl
  simp only [Act.put, List.setIfInBounds_toArray, List.set_cons_zero, List.set_cons_succ]
  refine wpAnyL_take' (i := 18) (v := ?_) (oi := { dst := some 74, op := Op.move (Operand.tmp 5), type := 9, pos := "law.go:82", after := #[{ on := 16, ground := Ground.guard }], guard := some (16, true) }) rfl (by kernel_rfl) (by kernel_rfl) (by kernel_rfl) (by kernel_rfl) rfl (fun _ _ _ h => h) (Or.inl ⟨by rfl, ?_⟩) HT4 ?_
  rotate_left
  · intro W hSW
    go_simp
    try with_reducible rfl
  simp only [Act.put, List.setIfInBounds_toArray, List.set_cons_zero, List.set_cons_succ]
  refine wpAnyL_take' (i := 20) (v := ?_) (oi := { dst := some 76, op := Op.load 24 (Operand.tmp 3), type := 24, pos := "law.go:82", after := #[{ on := 16, ground := Ground.guard }], guard := some (16, true) }) rfl (by kernel_rfl) (by kernel_rfl) (by kernel_rfl) (by kernel_rfl) rfl (fun _ _ _ h => h) (Or.inl ⟨by rfl, ?_⟩) HT4 ?_
  rotate_left
  · intro W hSW
    go_simp
    try with_reducible rfl
  simp only [Act.put, List.setIfInBounds_toArray, List.set_cons_zero, List.set_cons_succ]
  refine wpAnyL_take' (i := 21) (v := ?_) (oi := { dst := some 77, op := Op.move (Operand.tmp 5), type := 9, pos := "law.go:82", after := #[{ on := 16, ground := Ground.guard }], guard := some (16, true) }) rfl (by kernel_rfl) (by kernel_rfl) (by kernel_rfl) (by kernel_rfl) rfl (fun _ _ _ h => h) (Or.inl ⟨by rfl, ?_⟩) HT4 ?_
  rotate_left
  · intro W hSW
    go_simp
    try with_reducible rfl
  simp only [Act.put, List.setIfInBounds_toArray, List.set_cons_zero, List.set_cons_succ]
  have CW := (HWH.out _ (((hb1.trans (hb2.mono hb1.size)).trans (hb3.mono (hb1.trans (hb2.mono hb1.size)).size)).trans (hb4.mono ((hb1.trans (hb2.mono hb1.size)).trans (hb3.mono (hb1.trans (hb2.mono hb1.size)).size)).size))).2.2.2
  refine wpAnyL_one' (i := 19) (o := { dst := some 75, op := Op.call { callee := Callee.value (Operand.func 21), args := #[Operand.tmp 73, Operand.tmp 74], argTypes := #[24, 9] }, type := 3, pos := "law.go:82", after := #[{ on := 17, ground := Ground.data }, { on := 18, ground := Ground.data }, { on := 16, ground := Ground.chain }, { on := 16, ground := Ground.guard }], guard := some (16, true) }) (by kernel_rfl) rfl rfl (fun K hK => ?_)
  go_simp
  refine (CW).mono ?_
  rintro e V5 ⟨rfl, hb5⟩
  refine hK.out _ _ (fun _ => (HS9.out _ ((((hb1.trans (hb2.mono hb1.size)).trans (hb3.mono (hb1.trans (hb2.mono hb1.size)).size)).trans (hb4.mono ((hb1.trans (hb2.mono hb1.size)).trans (hb3.mono (hb1.trans (hb2.mono hb1.size)).size)).size)).trans (hb5.mono (((hb1.trans (hb2.mono hb1.size)).trans (hb3.mono (hb1.trans (hb2.mono hb1.size)).size)).trans (hb4.mono ((hb1.trans (hb2.mono hb1.size)).trans (hb3.mono (hb1.trans (hb2.mono hb1.size)).size)).size)).size))).1) ?_
  clear hK
  clear CW
  have HT5 := (HS9.out _ ((((hb1.trans (hb2.mono hb1.size)).trans (hb3.mono (hb1.trans (hb2.mono hb1.size)).size)).trans (hb4.mono ((hb1.trans (hb2.mono hb1.size)).trans (hb3.mono (hb1.trans (hb2.mono hb1.size)).size)).size)).trans (hb5.mono (((hb1.trans (hb2.mono hb1.size)).trans (hb3.mono (hb1.trans (hb2.mono hb1.size)).size)).trans (hb4.mono ((hb1.trans (hb2.mono hb1.size)).trans (hb3.mono (hb1.trans (hb2.mono hb1.size)).size)).size)).size))).1
  have CW := (HWH.out _ ((((hb1.trans (hb2.mono hb1.size)).trans (hb3.mono (hb1.trans (hb2.mono hb1.size)).size)).trans (hb4.mono ((hb1.trans (hb2.mono hb1.size)).trans (hb3.mono (hb1.trans (hb2.mono hb1.size)).size)).size)).trans (hb5.mono (((hb1.trans (hb2.mono hb1.size)).trans (hb3.mono (hb1.trans (hb2.mono hb1.size)).size)).trans (hb4.mono ((hb1.trans (hb2.mono hb1.size)).trans (hb3.mono (hb1.trans (hb2.mono hb1.size)).size)).size)).size))).2.1
  refine wpAnyL_one' (i := 22) (o := { dst := some 78, op := Op.call { callee := Callee.value (Operand.func 21), args := #[Operand.tmp 76, Operand.tmp 77], argTypes := #[24, 9] }, type := 3, pos := "law.go:82", after := #[{ on := 20, ground := Ground.data }, { on := 21, ground := Ground.data }, { on := 19, ground := Ground.chain }, { on := 16, ground := Ground.guard }], guard := some (16, true) }) (by kernel_rfl) rfl rfl (fun K hK => ?_)
  go_simp
  refine (CW).mono ?_
  rintro e V6 ⟨rfl, hb6⟩
  refine hK.out _ _ (fun _ => (HS9.out _ (((((hb1.trans (hb2.mono hb1.size)).trans (hb3.mono (hb1.trans (hb2.mono hb1.size)).size)).trans (hb4.mono ((hb1.trans (hb2.mono hb1.size)).trans (hb3.mono (hb1.trans (hb2.mono hb1.size)).size)).size)).trans (hb5.mono (((hb1.trans (hb2.mono hb1.size)).trans (hb3.mono (hb1.trans (hb2.mono hb1.size)).size)).trans (hb4.mono ((hb1.trans (hb2.mono hb1.size)).trans (hb3.mono (hb1.trans (hb2.mono hb1.size)).size)).size)).size)).trans (hb6.mono ((((hb1.trans (hb2.mono hb1.size)).trans (hb3.mono (hb1.trans (hb2.mono hb1.size)).size)).trans (hb4.mono ((hb1.trans (hb2.mono hb1.size)).trans (hb3.mono (hb1.trans (hb2.mono hb1.size)).size)).size)).trans (hb5.mono (((hb1.trans (hb2.mono hb1.size)).trans (hb3.mono (hb1.trans (hb2.mono hb1.size)).size)).trans (hb4.mono ((hb1.trans (hb2.mono hb1.size)).trans (hb3.mono (hb1.trans (hb2.mono hb1.size)).size)).size)).size)).size))).1) ?_
  clear hK
  clear CW
  have HT6 := (HS9.out _ (((((hb1.trans (hb2.mono hb1.size)).trans (hb3.mono (hb1.trans (hb2.mono hb1.size)).size)).trans (hb4.mono ((hb1.trans (hb2.mono hb1.size)).trans (hb3.mono (hb1.trans (hb2.mono hb1.size)).size)).size)).trans (hb5.mono (((hb1.trans (hb2.mono hb1.size)).trans (hb3.mono (hb1.trans (hb2.mono hb1.size)).size)).trans (hb4.mono ((hb1.trans (hb2.mono hb1.size)).trans (hb3.mono (hb1.trans (hb2.mono hb1.size)).size)).size)).size)).trans (hb6.mono ((((hb1.trans (hb2.mono hb1.size)).trans (hb3.mono (hb1.trans (hb2.mono hb1.size)).size)).trans (hb4.mono ((hb1.trans (hb2.mono hb1.size)).trans (hb3.mono (hb1.trans (hb2.mono hb1.size)).size)).size)).trans (hb5.mono (((hb1.trans (hb2.mono hb1.size)).trans (hb3.mono (hb1.trans (hb2.mono hb1.size)).size)).trans (hb4.mono ((hb1.trans (hb2.mono hb1.size)).trans (hb3.mono (hb1.trans (hb2.mono hb1.size)).size)).size)).size)).size))).1
  refine wpAnyL_take' (i := 23) (v := ?_) (oi := { dst := some 79, op := Op.binOp BinOp.eql 3 (Operand.tmp 75) (Operand.tmp 78) 3, type := 4, pos := "law.go:82", after := #[{ on := 19, ground := Ground.data }, { on := 22, ground := Ground.data }, { on := 16, ground := Ground.guard }], guard := some (16, true) }) rfl (by kernel_rfl) (by kernel_rfl) (by kernel_rfl) (by kernel_rfl) rfl (fun _ _ _ h => h) (Or.inl ⟨by rfl, ?_⟩) HT6 ?_
  rotate_left
  · intro W hSW
    go_simp
    try with_reducible rfl
  simp only [Act.put, List.setIfInBounds_toArray, List.set_cons_zero, List.set_cons_succ]
  refine wpAnyL_take' (i := 24) (v := ?_) (oi := { dst := some 80, op := Op.pick (Operand.tmp 72) (Operand.tmp 79) (Operand.const (Value.bool false)), type := 4, pos := "law.go:82", after := #[{ on := 16, ground := Ground.data }, { on := 23, ground := Ground.data }], guard := none }) rfl (by kernel_rfl) (by kernel_rfl) (by kernel_rfl) (by kernel_rfl) rfl (fun _ _ _ h => h) (Or.inl ⟨by rfl, ?_⟩) HT6 ?_
  rotate_left
  · intro W hSW
    go_simp
    try with_reducible rfl
  simp only [Act.put, List.setIfInBounds_toArray, List.set_cons_zero, List.set_cons_succ]
  refine wpAnyL_take' (i := 25) (v := ?_) (oi := { dst := some 81, op := Op.move (Operand.tmp 80), type := 4, pos := "law.go:82", after := #[{ on := 24, ground := Ground.data }, { on := 22, ground := Ground.chain }], guard := none }) rfl (by kernel_rfl) (by kernel_rfl) (by kernel_rfl) (by kernel_rfl) rfl (fun _ _ _ h => h) (Or.inl ⟨by rfl, ?_⟩) HT6 ?_
  rotate_left
  · intro W hSW
    go_simp
    try with_reducible rfl
  simp only [Act.put, List.setIfInBounds_toArray, List.set_cons_zero, List.set_cons_succ]
  have CW := awake_any V6
  refine wpAnyL_one' (i := 26) (o := { dst := some 82, op := Op.call { callee := Callee.value (Operand.func 8), args := #[], argTypes := #[] }, type := 4, pos := "law.go:82", after := #[{ on := 25, ground := Ground.chain }, { on := 25, ground := Ground.guard }], guard := some (25, true) }) (by kernel_rfl) rfl rfl (fun K hK => ?_)
  go_simp
  refine (CW).mono ?_
  rintro e V7 ⟨rfl, hb7⟩
  refine hK.out _ _ (fun _ => (HS9.out _ ((((((hb1.trans (hb2.mono hb1.size)).trans (hb3.mono (hb1.trans (hb2.mono hb1.size)).size)).trans (hb4.mono ((hb1.trans (hb2.mono hb1.size)).trans (hb3.mono (hb1.trans (hb2.mono hb1.size)).size)).size)).trans (hb5.mono (((hb1.trans (hb2.mono hb1.size)).trans (hb3.mono (hb1.trans (hb2.mono hb1.size)).size)).trans (hb4.mono ((hb1.trans (hb2.mono hb1.size)).trans (hb3.mono (hb1.trans (hb2.mono hb1.size)).size)).size)).size)).trans (hb6.mono ((((hb1.trans (hb2.mono hb1.size)).trans (hb3.mono (hb1.trans (hb2.mono hb1.size)).size)).trans (hb4.mono ((hb1.trans (hb2.mono hb1.size)).trans (hb3.mono (hb1.trans (hb2.mono hb1.size)).size)).size)).trans (hb5.mono (((hb1.trans (hb2.mono hb1.size)).trans (hb3.mono (hb1.trans (hb2.mono hb1.size)).size)).trans (hb4.mono ((hb1.trans (hb2.mono hb1.size)).trans (hb3.mono (hb1.trans (hb2.mono hb1.size)).size)).size)).size)).size)).trans (hb7.mono (((((hb1.trans (hb2.mono hb1.size)).trans (hb3.mono (hb1.trans (hb2.mono hb1.size)).size)).trans (hb4.mono ((hb1.trans (hb2.mono hb1.size)).trans (hb3.mono (hb1.trans (hb2.mono hb1.size)).size)).size)).trans (hb5.mono (((hb1.trans (hb2.mono hb1.size)).trans (hb3.mono (hb1.trans (hb2.mono hb1.size)).size)).trans (hb4.mono ((hb1.trans (hb2.mono hb1.size)).trans (hb3.mono (hb1.trans (hb2.mono hb1.size)).size)).size)).size)).trans (hb6.mono ((((hb1.trans (hb2.mono hb1.size)).trans (hb3.mono (hb1.trans (hb2.mono hb1.size)).size)).trans (hb4.mono ((hb1.trans (hb2.mono hb1.size)).trans (hb3.mono (hb1.trans (hb2.mono hb1.size)).size)).size)).trans (hb5.mono (((hb1.trans (hb2.mono hb1.size)).trans (hb3.mono (hb1.trans (hb2.mono hb1.size)).size)).trans (hb4.mono ((hb1.trans (hb2.mono hb1.size)).trans (hb3.mono (hb1.trans (hb2.mono hb1.size)).size)).size)).size)).size)).size))).1) ?_
  clear hK
  clear CW
  have HT7 := (HS9.out _ ((((((hb1.trans (hb2.mono hb1.size)).trans (hb3.mono (hb1.trans (hb2.mono hb1.size)).size)).trans (hb4.mono ((hb1.trans (hb2.mono hb1.size)).trans (hb3.mono (hb1.trans (hb2.mono hb1.size)).size)).size)).trans (hb5.mono (((hb1.trans (hb2.mono hb1.size)).trans (hb3.mono (hb1.trans (hb2.mono hb1.size)).size)).trans (hb4.mono ((hb1.trans (hb2.mono hb1.size)).trans (hb3.mono (hb1.trans (hb2.mono hb1.size)).size)).size)).size)).trans (hb6.mono ((((hb1.trans (hb2.mono hb1.size)).trans (hb3.mono (hb1.trans (hb2.mono hb1.size)).size)).trans (hb4.mono ((hb1.trans (hb2.mono hb1.size)).trans (hb3.mono (hb1.trans (hb2.mono hb1.size)).size)).size)).trans (hb5.mono (((hb1.trans (hb2.mono hb1.size)).trans (hb3.mono (hb1.trans (hb2.mono hb1.size)).size)).trans (hb4.mono ((hb1.trans (hb2.mono hb1.size)).trans (hb3.mono (hb1.trans (hb2.mono hb1.size)).size)).size)).size)).size)).trans (hb7.mono (((((hb1.trans (hb2.mono hb1.size)).trans (hb3.mono (hb1.trans (hb2.mono hb1.size)).size)).trans (hb4.mono ((hb1.trans (hb2.mono hb1.size)).trans (hb3.mono (hb1.trans (hb2.mono hb1.size)).size)).size)).trans (hb5.mono (((hb1.trans (hb2.mono hb1.size)).trans (hb3.mono (hb1.trans (hb2.mono hb1.size)).size)).trans (hb4.mono ((hb1.trans (hb2.mono hb1.size)).trans (hb3.mono (hb1.trans (hb2.mono hb1.size)).size)).size)).size)).trans (hb6.mono ((((hb1.trans (hb2.mono hb1.size)).trans (hb3.mono (hb1.trans (hb2.mono hb1.size)).size)).trans (hb4.mono ((hb1.trans (hb2.mono hb1.size)).trans (hb3.mono (hb1.trans (hb2.mono hb1.size)).size)).size)).trans (hb5.mono (((hb1.trans (hb2.mono hb1.size)).trans (hb3.mono (hb1.trans (hb2.mono hb1.size)).size)).trans (hb4.mono ((hb1.trans (hb2.mono hb1.size)).trans (hb3.mono (hb1.trans (hb2.mono hb1.size)).size)).size)).size)).size)).size))).1
  refine wpAnyL_take' (i := 27) (v := ?_) (oi := { dst := some 83, op := Op.pick (Operand.tmp 81) (Operand.tmp 82) (Operand.const (Value.bool false)), type := 4, pos := "law.go:82", after := #[{ on := 25, ground := Ground.data }, { on := 26, ground := Ground.data }], guard := none }) rfl (by kernel_rfl) (by kernel_rfl) (by kernel_rfl) (by kernel_rfl) rfl (fun _ _ _ h => h) (Or.inl ⟨by rfl, ?_⟩) HT7 ?_
  rotate_left
  · intro W hSW
    go_simp
    try with_reducible rfl
  simp only [Act.put, List.setIfInBounds_toArray, List.set_cons_zero, List.set_cons_succ]
  refine wpAnyL_take' (i := 28) (v := ?_) (oi := { dst := some 4, op := Op.assign (Operand.tmp 83), type := 4, pos := "law.go:82", after := #[{ on := 27, ground := Ground.data }, { on := 26, ground := Ground.chain }, { on := 0, ground := Ground.phase }, { on := 1, ground := Ground.phase }, { on := 2, ground := Ground.phase }, { on := 3, ground := Ground.phase }, { on := 4, ground := Ground.phase }, { on := 5, ground := Ground.phase }, { on := 6, ground := Ground.phase }, { on := 7, ground := Ground.phase }, { on := 8, ground := Ground.phase }, { on := 9, ground := Ground.phase }, { on := 10, ground := Ground.phase }, { on := 11, ground := Ground.phase }, { on := 12, ground := Ground.phase }, { on := 13, ground := Ground.phase }, { on := 14, ground := Ground.phase }, { on := 15, ground := Ground.phase }, { on := 16, ground := Ground.phase }, { on := 17, ground := Ground.phase }, { on := 18, ground := Ground.phase }, { on := 19, ground := Ground.phase }, { on := 20, ground := Ground.phase }, { on := 21, ground := Ground.phase }, { on := 22, ground := Ground.phase }, { on := 23, ground := Ground.phase }, { on := 24, ground := Ground.phase }, { on := 25, ground := Ground.phase }, { on := 26, ground := Ground.phase }, { on := 27, ground := Ground.phase }], guard := none }) rfl (by kernel_rfl) (by kernel_rfl) (by kernel_rfl) (by kernel_rfl) rfl (fun _ _ _ h => h) (Or.inl ⟨by rfl, ?_⟩) HT7 ?_
  rotate_left
  · intro W hSW
    go_simp
    try with_reducible rfl
  simp only [Act.put, List.setIfInBounds_toArray, List.set_cons_zero, List.set_cons_succ]
  refine wpAnyL_done (by kernel_rfl) ?_ _
  go_wp2_with fail
  go_ret
  exact ⟨rfl, (HS9.out _ ((((((hb1.trans (hb2.mono hb1.size)).trans (hb3.mono (hb1.trans (hb2.mono hb1.size)).size)).trans (hb4.mono ((hb1.trans (hb2.mono hb1.size)).trans (hb3.mono (hb1.trans (hb2.mono hb1.size)).size)).size)).trans (hb5.mono (((hb1.trans (hb2.mono hb1.size)).trans (hb3.mono (hb1.trans (hb2.mono hb1.size)).size)).trans (hb4.mono ((hb1.trans (hb2.mono hb1.size)).trans (hb3.mono (hb1.trans (hb2.mono hb1.size)).size)).size)).size)).trans (hb6.mono ((((hb1.trans (hb2.mono hb1.size)).trans (hb3.mono (hb1.trans (hb2.mono hb1.size)).size)).trans (hb4.mono ((hb1.trans (hb2.mono hb1.size)).trans (hb3.mono (hb1.trans (hb2.mono hb1.size)).size)).size)).trans (hb5.mono (((hb1.trans (hb2.mono hb1.size)).trans (hb3.mono (hb1.trans (hb2.mono hb1.size)).size)).trans (hb4.mono ((hb1.trans (hb2.mono hb1.size)).trans (hb3.mono (hb1.trans (hb2.mono hb1.size)).size)).size)).size)).size)).trans (hb7.mono (((((hb1.trans (hb2.mono hb1.size)).trans (hb3.mono (hb1.trans (hb2.mono hb1.size)).size)).trans (hb4.mono ((hb1.trans (hb2.mono hb1.size)).trans (hb3.mono (hb1.trans (hb2.mono hb1.size)).size)).size)).trans (hb5.mono (((hb1.trans (hb2.mono hb1.size)).trans (hb3.mono (hb1.trans (hb2.mono hb1.size)).size)).trans (hb4.mono ((hb1.trans (hb2.mono hb1.size)).trans (hb3.mono (hb1.trans (hb2.mono hb1.size)).size)).size)).size)).trans (hb6.mono ((((hb1.trans (hb2.mono hb1.size)).trans (hb3.mono (hb1.trans (hb2.mono hb1.size)).size)).trans (hb4.mono ((hb1.trans (hb2.mono hb1.size)).trans (hb3.mono (hb1.trans (hb2.mono hb1.size)).size)).size)).trans (hb5.mono (((hb1.trans (hb2.mono hb1.size)).trans (hb3.mono (hb1.trans (hb2.mono hb1.size)).size)).trans (hb4.mono ((hb1.trans (hb2.mono hb1.size)).trans (hb3.mono (hb1.trans (hb2.mono hb1.size)).size)).size)).size)).size)).size))).2⟩
end Go.Proofs.Ytjmakckepfpheaa
