/- CursorGoes: the law, for every tree, path and name. -/
import Derived.Test.YtmkkjjhlppagpaaLInts2
import Derived.Test.YtmkkjjhlppagpaaRNext
namespace Go.Proofs.Ytmkkjjhlppagpaa
open Go.RowKit

set_option maxRecDepth 100000 in
set_option maxHeartbeats 8000000 in
theorem goes_any {A : Nat → Prop} (n : Nat) (t : Nd) (v : Value) (p : List Int) (pv : Value) (nm : ByteArray) (w : World) (h : TAt A n t v w) (hp : SlP p pv w) (hpl : p.length ≤ 140737488351232) :
    Calls Try.prog 3 #[v, pv, .string nm] w fun e w' => e = .returned (.bool true) ∧ Below w.heap.size w w' := by
  obtain ⟨ba, bc, rfl, _⟩ := h.val
  obtain ⟨W0, hW0⟩ : ∃ W0, W0 = w.alloc (Obj.cells #[.string t.h.kind, .bool t.h.named, .string t.h.field, .int .i64 t.h.frm, .int .i64 t.h.to, .int .i64 t.h.bad, .slice ba t.kids.length bc] 24) := ⟨_, rfl⟩
  have hB0 : Below w.heap.size w W0 := by rw [hW0]; exact (Below.refl _ _).alloc (Nat.le_refl _) _
  have hb0 : W0.heap[w.heap.size]? = some (.cells #[.string t.h.kind, .bool t.h.named, .string t.h.field, .int .i64 t.h.frm, .int .i64 t.h.to, .int .i64 t.h.bad, .slice ba t.kids.length bc] 24 (0, 0)) := by rw [hW0]; exact World.alloc_heap_new w _
  have hsz : w.heap.size < W0.heap.size := by rw [hW0]; simp
  have HB : Hid (Below w.heap.size w W0) := hB0
  have HT : Hid (∀ W, Below W0.heap.size W0 W → TAt A n t (ndV t.h (.slice ba t.kids.length bc)) W) := fun W hW => (h.next hB0).next hW
  have HR : Hid (∀ W, Below W0.heap.size W0 W → W.heap[w.heap.size]? = some (.cells #[.string t.h.kind, .bool t.h.named, .string t.h.field, .int .i64 t.h.frm, .int .i64 t.h.to, .int .i64 t.h.bad, .slice ba t.kids.length bc] 24 (0, 0))) := fun W hW => (hW.block _ hsz).trans hb0
  have hsm := small_any n t _ 800 W0 (h.next hB0) (by decide) (by decide)
  by_cases hc : cntN t ≤ 800
  case neg =>
    have hv : smallV (cntN t) 800 = -1 := by unfold smallV; rw [if_neg (by omega)]
    rw [hv] at hsm
    have HA : Hid (∀ W, _) := awake_any
    obtain ⟨pa, pc, rfl, _⟩ := hp
    clear h hB0 hb0 hsz HT HR
    rw [hW0] at hsm
    unfold ndV at *
    go_enter Try.func3, Try.ntmps3
    go_wp2_with fail
    refine hsm.mono ?_
    rw [← hW0]
    rintro e w1 ⟨rfl, hb1⟩
    have hA := HA.out w1
    have HB1 : Hid (Below w.heap.size w w1) := below_next HB.out hb1
    clear hsm hW0 hb1
    go_wp2_with fail
    refine hA.mono ?_
    rintro e w2 ⟨rfl, hb2⟩
    have HB2 : Hid (Below w.heap.size w w2) := below_next HB1.out hb2
    clear hA hb2 HB1
    go_wp2_with fail
    go_ret
    exact ⟨rfl, HB2.out⟩
  have hv : smallV (cntN t) 800 = 800 - (cntN t : Int) := by unfold smallV; rw [if_pos (by omega)]
  rw [hv] at hsm
  obtain ⟨lf, hlf⟩ : ∃ lf : Int, 800 - (cntN t : Int) = lf := ⟨_, rfl⟩
  have hlf0 : ¬ lf < 0 := by omega
  rw [hlf] at hsm
  have hc5 : cntN t ≤ 5000 := by omega
  have HP : Hid (∀ W, Below W0.heap.size W0 W → SlP p pv W) := fun W hW => (hp.next hB0).next hW
  have Hc0 : Hid (∀ W, Below W0.heap.size W0 W → Calls Try.prog 10 #[ndV t.h (.slice ba t.kids.length bc), pv] W fun e w' => GivesP W.heap.size (downN t p) e w' ∧ Below W.heap.size W w') := fun W hW => down_any n t _ p pv W (HT.out W hW) hc5 (HP.out W hW) hpl
  have Hr0 : Hid (∀ W, Below W0.heap.size W0 W → Calls Try.prog 11 #[ndV t.h (.slice ba t.kids.length bc), pv] W fun e w' => GivesP W.heap.size (downN t p) e w' ∧ Below W.heap.size W w') := fun W hW => rdown_any n t _ p pv W (HT.out W hW) hc5 (HP.out W hW) hpl
  generalize downN t p = D0 at *
  have Hc1 : Hid (∀ W, Below W0.heap.size W0 W → Calls Try.prog 13 #[ndV t.h (.slice ba t.kids.length bc), pv] W fun e w' => GivesP W.heap.size (upN t p) e w' ∧ Below W.heap.size W w') := fun W hW => up_any n t _ p pv W (HT.out W hW) hc5 (HP.out W hW) hpl
  have Hr1 : Hid (∀ W, Below W0.heap.size W0 W → Calls Try.prog 14 #[ndV t.h (.slice ba t.kids.length bc), pv] W fun e w' => GivesP W.heap.size (upN t p) e w' ∧ Below W.heap.size W w') := fun W hW => rup_any n t _ p pv W (HT.out W hW) hc5 (HP.out W hW) hpl
  generalize upN t p = D1 at *
  have Hc2 : Hid (∀ W, Below W0.heap.size W0 W → Calls Try.prog 15 #[ndV t.h (.slice ba t.kids.length bc), pv] W fun e w' => GivesP W.heap.size (asideN t p 1) e w' ∧ Below W.heap.size W w') := fun W hW => right_any n t _ p pv W (HT.out W hW) hc5 (HP.out W hW) hpl
  have Hr2 : Hid (∀ W, Below W0.heap.size W0 W → Calls Try.prog 16 #[ndV t.h (.slice ba t.kids.length bc), pv] W fun e w' => GivesP W.heap.size (asideN t p 1) e w' ∧ Below W.heap.size W w') := fun W hW => rright_any n t _ p pv W (HT.out W hW) hc5 (HP.out W hW) hpl
  generalize asideN t p 1 = D2 at *
  have Hc3 : Hid (∀ W, Below W0.heap.size W0 W → Calls Try.prog 17 #[ndV t.h (.slice ba t.kids.length bc), pv] W fun e w' => GivesP W.heap.size (asideN t p (-1)) e w' ∧ Below W.heap.size W w') := fun W hW => left_any n t _ p pv W (HT.out W hW) hc5 (HP.out W hW) hpl
  have Hr3 : Hid (∀ W, Below W0.heap.size W0 W → Calls Try.prog 18 #[ndV t.h (.slice ba t.kids.length bc), pv] W fun e w' => GivesP W.heap.size (asideN t p (-1)) e w' ∧ Below W.heap.size W w') := fun W hW => rleft_any n t _ p pv W (HT.out W hW) hc5 (HP.out W hW) hpl
  generalize asideN t p (-1) = D3 at *
  have Hc4 : Hid (∀ W, Below W0.heap.size W0 W → Calls Try.prog 19 #[ndV t.h (.slice ba t.kids.length bc), pv] W fun e w' => GivesP W.heap.size (nextN t p) e w' ∧ Below W.heap.size W w') := fun W hW => next_any n t _ p pv W (HT.out W hW) hc5 (HP.out W hW) hpl
  have Hr4 : Hid (∀ W, Below W0.heap.size W0 W → Calls Try.prog 20 #[ndV t.h (.slice ba t.kids.length bc), pv] W fun e w' => GivesP W.heap.size (nextN t p) e w' ∧ Below W.heap.size W w') := fun W hW => rnext_any n t _ p pv W (HT.out W hW) hc5 (HP.out W hW) hpl
  generalize nextN t p = D4 at *
  have Hc5 : Hid (∀ W, Below W0.heap.size W0 W → Calls Try.prog 21 #[ndV t.h (.slice ba t.kids.length bc), pv, .string nm] W fun e w' => GivesP W.heap.size (fieldN t p nm) e w' ∧ Below W.heap.size W w') := fun W hW => field_any n t _ p pv nm W (HT.out W hW) hc5 (HP.out W hW) hpl
  have Hr5 : Hid (∀ W, Below W0.heap.size W0 W → Calls Try.prog 22 #[ndV t.h (.slice ba t.kids.length bc), pv, .string nm] W fun e w' => GivesP W.heap.size (fieldN t p nm) e w' ∧ Below W.heap.size W w') := fun W hW => rfield_any n t _ p pv nm W (HT.out W hW) hc5 (HP.out W hW) hpl
  generalize fieldN t p nm = D5 at *
  have HA : Hid (∀ W, _) := awake_any
  obtain ⟨pa, pc, rfl, _⟩ := hp
  clear h hB0 hb0 hsz HT hc hc5 hlf hv HP
  generalize t.h = hd at *
  generalize t.kids.length = kl at *
  obtain ⟨zk, zn, zf, zr, zt, zb⟩ := hd
  rw [hW0] at hsm
  unfold ndV at *
  simp only at *
  go_enter Try.func3, Try.ntmps3
  go_wp2_with fail
  refine hsm.mono ?_
  rw [← hW0]
  rintro e w1 ⟨rfl, hb1⟩
  clear hsm hW0
  have HW : Hid (Below W0.heap.size W0 w1) := hb1
  clear hb1
  -- Down
  obtain ⟨v0, v1, v2, v3, v4, v5, v6⟩ := cells7_at (HR.out w1 HW.out)
  have hx := Hc0.out w1 HW.out
  go_wp2_with fail
  refine hx.mono ?_
  rintro e wa ⟨hg, hb⟩
  obtain ⟨xv, rfl, hxs⟩ := hg.sl
  have HWa : Hid (Below W0.heap.size W0 wa) := below_next HW.out hb
  have HX : Hid (SlP (D0.getD []) xv wa) := hxs
  clear hx hg hb hxs v0 v1 v2 v3 v4 v5 v6 HW Hc0
  obtain ⟨v0, v1, v2, v3, v4, v5, v6⟩ := cells7_at (HR.out wa HWa.out)
  have hx := Hr0.out wa HWa.out
  go_wp2_with fail
  refine hx.mono ?_
  rintro e wb ⟨hg, hb⟩
  obtain ⟨yv, rfl, hys⟩ := hg.sl
  have HWb : Hid (Below W0.heap.size W0 wb) := below_next HWa.out hb
  have hin := ints_is _ _ xv yv wb (HX.out.next hb) hys
  rw [decide_eq_true rfl] at hin
  have HI : Hid (Calls Try.prog 12 #[xv, yv] wb fun e w' => e = .returned (.bool true) ∧ Below wb.heap.size wb w') := hin
  clear hx hg hb hys v0 v1 v2 v3 v4 v5 v6 HWa HX Hr0 hin
  generalize D0.isSome = s0 at *
  have hss : (s0 != s0) = false := by simp
  have hs2 : (s0 == s0) = true := by simp
  have hin := HI.out
  go_wp2_with fail
  refine hin.mono ?_
  rintro e w2 ⟨rfl, hb⟩
  have HW : Hid (Below W0.heap.size W0 w2) := below_next HWb.out hb
  clear hin HI hb HWb
  -- Up
  obtain ⟨v0, v1, v2, v3, v4, v5, v6⟩ := cells7_at (HR.out w2 HW.out)
  have hx := Hc1.out w2 HW.out
  go_wp2_with fail
  refine hx.mono ?_
  rintro e wa ⟨hg, hb⟩
  obtain ⟨xv, rfl, hxs⟩ := hg.sl
  have HWa : Hid (Below W0.heap.size W0 wa) := below_next HW.out hb
  have HX : Hid (SlP (D1.getD []) xv wa) := hxs
  clear hx hg hb hxs v0 v1 v2 v3 v4 v5 v6 HW Hc1
  obtain ⟨v0, v1, v2, v3, v4, v5, v6⟩ := cells7_at (HR.out wa HWa.out)
  have hx := Hr1.out wa HWa.out
  go_wp2_with fail
  refine hx.mono ?_
  rintro e wb ⟨hg, hb⟩
  obtain ⟨yv, rfl, hys⟩ := hg.sl
  have HWb : Hid (Below W0.heap.size W0 wb) := below_next HWa.out hb
  have hin := ints_is _ _ xv yv wb (HX.out.next hb) hys
  rw [decide_eq_true rfl] at hin
  have HI : Hid (Calls Try.prog 12 #[xv, yv] wb fun e w' => e = .returned (.bool true) ∧ Below wb.heap.size wb w') := hin
  clear hx hg hb hys v0 v1 v2 v3 v4 v5 v6 HWa HX Hr1 hin
  generalize D1.isSome = s1 at *
  have hss : (s1 != s1) = false := by simp
  have hs2 : (s1 == s1) = true := by simp
  have hin := HI.out
  go_wp2_with fail
  refine hin.mono ?_
  rintro e w3 ⟨rfl, hb⟩
  have HW : Hid (Below W0.heap.size W0 w3) := below_next HWb.out hb
  clear hin HI hb HWb
  -- Right
  obtain ⟨v0, v1, v2, v3, v4, v5, v6⟩ := cells7_at (HR.out w3 HW.out)
  have hx := Hc2.out w3 HW.out
  go_wp2_with fail
  refine hx.mono ?_
  rintro e wa ⟨hg, hb⟩
  obtain ⟨xv, rfl, hxs⟩ := hg.sl
  have HWa : Hid (Below W0.heap.size W0 wa) := below_next HW.out hb
  have HX : Hid (SlP (D2.getD []) xv wa) := hxs
  clear hx hg hb hxs v0 v1 v2 v3 v4 v5 v6 HW Hc2
  obtain ⟨v0, v1, v2, v3, v4, v5, v6⟩ := cells7_at (HR.out wa HWa.out)
  have hx := Hr2.out wa HWa.out
  go_wp2_with fail
  refine hx.mono ?_
  rintro e wb ⟨hg, hb⟩
  obtain ⟨yv, rfl, hys⟩ := hg.sl
  have HWb : Hid (Below W0.heap.size W0 wb) := below_next HWa.out hb
  have hin := ints_is _ _ xv yv wb (HX.out.next hb) hys
  rw [decide_eq_true rfl] at hin
  have HI : Hid (Calls Try.prog 12 #[xv, yv] wb fun e w' => e = .returned (.bool true) ∧ Below wb.heap.size wb w') := hin
  clear hx hg hb hys v0 v1 v2 v3 v4 v5 v6 HWa HX Hr2 hin
  generalize D2.isSome = s2 at *
  have hss : (s2 != s2) = false := by simp
  have hs2 : (s2 == s2) = true := by simp
  have hin := HI.out
  go_wp2_with fail
  refine hin.mono ?_
  rintro e w4 ⟨rfl, hb⟩
  have HW : Hid (Below W0.heap.size W0 w4) := below_next HWb.out hb
  clear hin HI hb HWb
  -- Left
  obtain ⟨v0, v1, v2, v3, v4, v5, v6⟩ := cells7_at (HR.out w4 HW.out)
  have hx := Hc3.out w4 HW.out
  go_wp2_with fail
  refine hx.mono ?_
  rintro e wa ⟨hg, hb⟩
  obtain ⟨xv, rfl, hxs⟩ := hg.sl
  have HWa : Hid (Below W0.heap.size W0 wa) := below_next HW.out hb
  have HX : Hid (SlP (D3.getD []) xv wa) := hxs
  clear hx hg hb hxs v0 v1 v2 v3 v4 v5 v6 HW Hc3
  obtain ⟨v0, v1, v2, v3, v4, v5, v6⟩ := cells7_at (HR.out wa HWa.out)
  have hx := Hr3.out wa HWa.out
  go_wp2_with fail
  refine hx.mono ?_
  rintro e wb ⟨hg, hb⟩
  obtain ⟨yv, rfl, hys⟩ := hg.sl
  have HWb : Hid (Below W0.heap.size W0 wb) := below_next HWa.out hb
  have hin := ints_is _ _ xv yv wb (HX.out.next hb) hys
  rw [decide_eq_true rfl] at hin
  have HI : Hid (Calls Try.prog 12 #[xv, yv] wb fun e w' => e = .returned (.bool true) ∧ Below wb.heap.size wb w') := hin
  clear hx hg hb hys v0 v1 v2 v3 v4 v5 v6 HWa HX Hr3 hin
  generalize D3.isSome = s3 at *
  have hss : (s3 != s3) = false := by simp
  have hs2 : (s3 == s3) = true := by simp
  have hin := HI.out
  go_wp2_with fail
  refine hin.mono ?_
  rintro e w5 ⟨rfl, hb⟩
  have HW : Hid (Below W0.heap.size W0 w5) := below_next HWb.out hb
  clear hin HI hb HWb
  -- Next
  obtain ⟨v0, v1, v2, v3, v4, v5, v6⟩ := cells7_at (HR.out w5 HW.out)
  have hx := Hc4.out w5 HW.out
  go_wp2_with fail
  refine hx.mono ?_
  rintro e wa ⟨hg, hb⟩
  obtain ⟨xv, rfl, hxs⟩ := hg.sl
  have HWa : Hid (Below W0.heap.size W0 wa) := below_next HW.out hb
  have HX : Hid (SlP (D4.getD []) xv wa) := hxs
  clear hx hg hb hxs v0 v1 v2 v3 v4 v5 v6 HW Hc4
  obtain ⟨v0, v1, v2, v3, v4, v5, v6⟩ := cells7_at (HR.out wa HWa.out)
  have hx := Hr4.out wa HWa.out
  go_wp2_with fail
  refine hx.mono ?_
  rintro e wb ⟨hg, hb⟩
  obtain ⟨yv, rfl, hys⟩ := hg.sl
  have HWb : Hid (Below W0.heap.size W0 wb) := below_next HWa.out hb
  have hin := ints_is _ _ xv yv wb (HX.out.next hb) hys
  rw [decide_eq_true rfl] at hin
  have HI : Hid (Calls Try.prog 12 #[xv, yv] wb fun e w' => e = .returned (.bool true) ∧ Below wb.heap.size wb w') := hin
  clear hx hg hb hys v0 v1 v2 v3 v4 v5 v6 HWa HX Hr4 hin
  generalize D4.isSome = s4 at *
  have hss : (s4 != s4) = false := by simp
  have hs2 : (s4 == s4) = true := by simp
  have hin := HI.out
  go_wp2_with fail
  refine hin.mono ?_
  rintro e w6 ⟨rfl, hb⟩
  have HW : Hid (Below W0.heap.size W0 w6) := below_next HWb.out hb
  clear hin HI hb HWb
  -- Field
  obtain ⟨v0, v1, v2, v3, v4, v5, v6⟩ := cells7_at (HR.out w6 HW.out)
  have hx := Hc5.out w6 HW.out
  go_wp2_with fail
  refine hx.mono ?_
  rintro e wa ⟨hg, hb⟩
  obtain ⟨xv, rfl, hxs⟩ := hg.sl
  have HWa : Hid (Below W0.heap.size W0 wa) := below_next HW.out hb
  have HX : Hid (SlP (D5.getD []) xv wa) := hxs
  clear hx hg hb hxs v0 v1 v2 v3 v4 v5 v6 HW Hc5
  obtain ⟨v0, v1, v2, v3, v4, v5, v6⟩ := cells7_at (HR.out wa HWa.out)
  have hx := Hr5.out wa HWa.out
  go_wp2_with fail
  refine hx.mono ?_
  rintro e wb ⟨hg, hb⟩
  obtain ⟨yv, rfl, hys⟩ := hg.sl
  have HWb : Hid (Below W0.heap.size W0 wb) := below_next HWa.out hb
  have hin := ints_is _ _ xv yv wb (HX.out.next hb) hys
  rw [decide_eq_true rfl] at hin
  have HI : Hid (Calls Try.prog 12 #[xv, yv] wb fun e w' => e = .returned (.bool true) ∧ Below wb.heap.size wb w') := hin
  clear hx hg hb hys v0 v1 v2 v3 v4 v5 v6 HWa HX Hr5 hin
  generalize D5.isSome = s5 at *
  have hss : (s5 != s5) = false := by simp
  have hs2 : (s5 == s5) = true := by simp
  have hin := HI.out
  go_wp2_with fail
  refine hin.mono ?_
  rintro e w7 ⟨rfl, hb⟩
  have HW : Hid (Below W0.heap.size W0 w7) := below_next HWb.out hb
  clear hin HI hb HWb
  have hA := HA.out w7
  go_wp2_with fail
  refine hA.mono ?_
  rintro e w9 ⟨rfl, hb⟩
  have HW9 : Hid (Below w.heap.size w w9) := HB.out.trans ((below_next HW.out hb).mono HB.out.size)
  clear hA hb HW
  go_wp2_with fail
  go_ret
  exact ⟨rfl, HW9.out⟩
end Go.Proofs.Ytmkkjjhlppagpaa
