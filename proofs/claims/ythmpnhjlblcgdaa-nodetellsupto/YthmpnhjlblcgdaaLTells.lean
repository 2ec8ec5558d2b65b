/- The law NodeTells. -/
import Derived.Test.YthmpnhjlblcgdaaLLeaves
import Derived.Test.YthmpnhjlblcgdaaRPrint
import Derived.Test.YthmpnhjlblcgdaaPPrint
import Derived.Test.YthmpnhjlblcgdaaRWrong
import Derived.Test.YthmpnhjlblcgdaaRCount
import Derived.Test.YthmpnhjlblcgdaaPSmall
namespace Go.Proofs.Ythmpnhjlblcgdaa
open Go.RowKit

set_option maxRecDepth 100000 in
set_option maxHeartbeats 8000000 in
theorem ntells_any {A A' : Nat → Prop} (n n' : Nat) (t0 t1 : Nd) (v v' : Value) (size : Int) (w : World) (h : TAt A n t0 v w) (h' : TAt A' n' t1 v' w) (hpl : cntN t0 ≤ 5000 → (printN t0).length ≤ 1000000000000) :
    Calls Try.prog 3 #[v, v', .int .i64 size] w fun e w' => e = .returned (.bool true) ∧ Below w.heap.size w w' := by
  have HL0 : Hid (∀ W, Below w.heap.size w W → Calls Try.prog 9 #[v] W fun e w' => e = .returned (.bool (lightB t0)) ∧ Below W.heap.size W w') := fun W hb => light_any n t0 v W (h.next hb)
  have HL1 : Hid (∀ W, Below w.heap.size w W → Calls Try.prog 9 #[v'] W fun e w' => e = .returned (.bool (lightB t1)) ∧ Below W.heap.size W w') := fun W hb => light_any n' t1 v' W (h'.next hb)
  have HAW : Hid (∀ W, Calls Try.prog 10 #[] W fun e w' => e = .returned (.bool true) ∧ Below W.heap.size W w') := awake_any
  have HCT : Hid (cntN t0 ≤ 5000 → ∀ W, Below w.heap.size w W → Calls Try.prog 11 #[v] W fun e w' => e = .returned (.tuple #[.int .i64 (cntN t0), .int .i64 (deepR t0)]) ∧ Below W.heap.size W w') := fun hc W hb => (count_any n t0 v W (h.next hb) hc).mono fun e w' ⟨xs, h1, h2, h3⟩ => ⟨by rw [h2, maxD_deepR h1, (deep_len h1).1], h3⟩
  have HRC : Hid (cntN t0 ≤ 5000 → ∀ W, Below w.heap.size w W → Calls Try.prog 12 #[v] W fun e w' => e = .returned (.tuple #[.int .i64 (cntN t0), .int .i64 (deepR t0)]) ∧ Below W.heap.size W w') := fun hc W hb => rcount_any n t0 v W (h.next hb) hc
  have HFT0 : Hid (cntN t0 ≤ 5000 → ∀ W, Below w.heap.size w W → Calls Try.prog 13 #[v, .int .i64 size] W fun e w' => e = .returned (.bool (fitB t0 size)) ∧ Below W.heap.size W w') := fun hc W hb => fit_any n t0 v size W (h.next hb) hc
  have HRF0 : Hid (∀ W, Below w.heap.size w W → Calls Try.prog 14 #[v, .int .i64 size] W fun e w' => e = .returned (.bool (lightB t0 && fitB t0 size)) ∧ Below W.heap.size W w') := fun W hb => rFit_any n t0 v size W (h.next hb)
  have HSA0 : Hid (cntN t0 ≤ 5000 → ∀ W, Below w.heap.size w W → Calls Try.prog 15 #[v, v'] W fun e w' => e = .returned (.bool (eqN t0 t1)) ∧ Below W.heap.size W w') := fun hc W hb => pSame_any n n' t0 t1 v v' W (h.next hb) (h'.next hb) hc
  have HRS0 : Hid (∀ W, Below w.heap.size w W → Calls Try.prog 16 #[v, v'] W fun e w' => e = .returned (.bool (eqN t0 t1)) ∧ Below W.heap.size W w') := fun W hb => rsame_any n n' t0 t1 v v' W (h.next hb) (h'.next hb)
  have HSS0 : Hid (cntN t0 ≤ 5000 → ∀ W, Below w.heap.size w W → Calls Try.prog 15 #[v, v] W fun e w' => e = .returned (.bool true) ∧ Below W.heap.size W w') := fun hc W hb => by
    have := pSame_any n n t0 t0 v v W (h.next hb) (h.next hb) hc
    rwa [eqN_refl] at this
  have HPR0 : Hid (cntN t0 ≤ 5000 → ∀ W, Below w.heap.size w W → Calls Try.prog 17 #[v] W fun e w' => e = .returned (.string ⟨(printN t0).toArray⟩) ∧ Below W.heap.size W w') := fun hc W hb => print_any n t0 v W (h.next hb) hc (by have := hpl hc; omega)
  have HRP0 : Hid (cntN t0 ≤ 5000 → ∀ W, Below w.heap.size w W → Calls Try.prog 18 #[v] W fun e w' => e = .returned (.string ⟨(printN t0).toArray⟩) ∧ Below W.heap.size W w') := fun hc W hb => rprint_any n t0 v W (h.next hb) (hpl hc)
  have HLV0 : Hid (cntN t0 ≤ 5000 → ∀ W, Below w.heap.size w W → Calls Try.prog 20 #[v] W fun e w' => (∃ la lc N1, e = .returned (.slice la (leavesN t0).length lc) ∧ KidsAt (fun k => W.heap.size ≤ k) N1 (leavesN t0) la w') ∧ Below W.heap.size W w') := fun hc W hb => (leaves_row n t0 v W (h.next hb) hc).mono fun e w' ⟨l, u, h1, h2, h3, h4, h5⟩ => by
    obtain ⟨la, lc, N1, e1, _, _, e2⟩ := (OwnN.of_leaves h2 h4).kids
    refine ⟨⟨la, lc, N1, ?_, by rw [← h3]; exact e2⟩, h5⟩
    rw [h1, e1, ← h3, List.length_map]
  have HRL0 : Hid (cntN t0 ≤ 5000 → ∀ W, Below w.heap.size w W → Calls Try.prog 21 #[v] W fun e w' => (∃ la lc N1, e = .returned (.slice la (leavesN t0).length lc) ∧ KidsAt (fun k => W.heap.size ≤ k) N1 (leavesN t0) la w') ∧ Below W.heap.size W w') := fun hc W hb => (rleaves_any n t0 v W (h.next hb) hc).mono fun e w' ⟨l, u, h1, h2, h3, h4, h5⟩ => by
    obtain ⟨la, lc, N1, e1, _, _, e2⟩ := (OwnN.of_leaves h2 h4).kids
    refine ⟨⟨la, lc, N1, ?_, by rw [← h3]; exact e2⟩, h5⟩
    rw [h1, e1, ← h3, List.length_map]
  have HND0 : Hid (cntN t0 ≤ 5000 → ∀ (A1 A2 : Nat → Prop) N1 N2 la la2 lc lc2 W, KidsAt A1 N1 (leavesN t0) la W → KidsAt A2 N2 (leavesN t0) la2 W → Calls Try.prog 19 #[.slice la (leavesN t0).length lc, .slice la2 (leavesN t0).length lc2] W fun e w' => e = .returned (.bool true) ∧ Below W.heap.size W w') := fun hc A1 A2 N1 N2 la la2 lc lc2 W k1 k2 => by
    have := rnodes_any N1 N2 _ _ la la2 lc lc2 W k1 k2 (by have := leaves_len t0; omega)
    rwa [eqNL_true.2 rfl] at this
  have HWR0 : Hid (cntN t0 ≤ 5000 → ∀ W, Below w.heap.size w W → Calls Try.prog 22 #[v] W fun e w' => e = .returned (.bool (wrongB t0)) ∧ Below W.heap.size W w') := fun hc W hb => wrong_any n t0 v W (h.next hb) hc
  have HRW0 : Hid (∀ W, Below w.heap.size w W → Calls Try.prog 23 #[v] W fun e w' => e = .returned (.bool (wrongB t0)) ∧ Below W.heap.size W w') := fun W hb => rwrong_any n t0 v W (h.next hb)
  obtain ⟨ba, bc, rfl, _⟩ := h.val
  obtain ⟨ba2, bc2, rfl, _⟩ := h'.val
  clear h h' hpl
  have HLB : Hid (lightB t0 = decide (cntN t0 ≤ 5000)) := rfl
  generalize lightB t0 = LB at *
  generalize lightB t1 = LB1 at *
  generalize t0.kids.length = kl at *
  generalize t0.h = hd at *
  generalize t1.kids.length = kl2 at *
  generalize t1.h = hd2 at *
  obtain ⟨zk, zn, zf, zr, zt, zb⟩ := hd
  obtain ⟨yk, yn, yf, yr, yt, yb⟩ := hd2
  have hB0 : Below w.heap.size w ((w.alloc (Obj.cells #[Value.string zk, Value.bool zn, Value.string zf, Value.int IntKind.i64 zr, Value.int IntKind.i64 zt, Value.int IntKind.i64 zb, Value.slice ba kl bc] 24)).alloc (Obj.cells #[Value.string yk, Value.bool yn, Value.string yf, Value.int IntKind.i64 yr, Value.int IntKind.i64 yt, Value.int IntKind.i64 yb, Value.slice ba2 kl2 bc2] 24)) := ((Below.refl _ _).alloc (Nat.le_refl _) _).alloc (by simp) _
  have hzz : ((w.alloc (Obj.cells #[Value.string zk, Value.bool zn, Value.string zf, Value.int IntKind.i64 zr, Value.int IntKind.i64 zt, Value.int IntKind.i64 zb, Value.slice ba kl bc] 24)).alloc (Obj.cells #[Value.string yk, Value.bool yn, Value.string yf, Value.int IntKind.i64 yr, Value.int IntKind.i64 yt, Value.int IntKind.i64 yb, Value.slice ba2 kl2 bc2] 24)).heap.size = w.heap.size + 2 := by simp
  have r7 : Row7 w.heap.size 0 ⟨zk, zn, zf, zr, zt, zb⟩ (.slice ba kl bc) ((w.alloc (Obj.cells #[Value.string zk, Value.bool zn, Value.string zf, Value.int IntKind.i64 zr, Value.int IntKind.i64 zt, Value.int IntKind.i64 zb, Value.slice ba kl bc] 24)).alloc (Obj.cells #[Value.string yk, Value.bool yn, Value.string yf, Value.int IntKind.i64 yr, Value.int IntKind.i64 yt, Value.int IntKind.i64 yb, Value.slice ba2 kl2 bc2] 24)) := by refine ⟨?_, ?_, ?_, ?_, ?_, ?_, ?_⟩ <;> simp
  have s7 : Row7 (w.heap.size + 1) 0 ⟨yk, yn, yf, yr, yt, yb⟩ (.slice ba2 kl2 bc2) ((w.alloc (Obj.cells #[Value.string zk, Value.bool zn, Value.string zf, Value.int IntKind.i64 zr, Value.int IntKind.i64 zt, Value.int IntKind.i64 zb, Value.slice ba kl bc] 24)).alloc (Obj.cells #[Value.string yk, Value.bool yn, Value.string yf, Value.int IntKind.i64 yr, Value.int IntKind.i64 yt, Value.int IntKind.i64 yb, Value.slice ba2 kl2 bc2] 24)) := by refine ⟨?_, ?_, ?_, ?_, ?_, ?_, ?_⟩ <;> simp
  have hl0 := HL0.out _ hB0
  unfold ndV at hl0 ⊢
  simp only at hl0 ⊢
  go_enter Try.func3, Try.ntmps3
  go_wp2_with fail
  generalize (w.alloc (Obj.cells #[Value.string zk, Value.bool zn, Value.string zf, Value.int IntKind.i64 zr, Value.int IntKind.i64 zt, Value.int IntKind.i64 zb, Value.slice ba kl bc] 24)).alloc (Obj.cells #[Value.string yk, Value.bool yn, Value.string yf, Value.int IntKind.i64 yr, Value.int IntKind.i64 yt, Value.int IntKind.i64 yb, Value.slice ba2 kl2 bc2] 24) = W0 at *
  obtain ⟨P1, HP1⟩ : ∃ P1, Hid (w.heap.size = P1) := ⟨_, rfl⟩
  obtain ⟨P2, HP2⟩ : ∃ P2, Hid (w.heap.size + 1 = P2) := ⟨_, rfl⟩
  have hP1 : P1 < W0.heap.size := by rw [← HP1.out]; omega
  have hP2 : P2 < W0.heap.size := by rw [← HP2.out]; omega
  have HR : Hid (∀ W, Below W0.heap.size W0 W → ((W.cell? ⟨P1, 0, none⟩ = some (.string zk) ∧ W.cell? ⟨P1, 1, none⟩ = some (.bool zn) ∧ W.cell? ⟨P1, 2, none⟩ = some (.string zf) ∧ W.cell? ⟨P1, 3, none⟩ = some (.int .i64 zr) ∧ W.cell? ⟨P1, 4, none⟩ = some (.int .i64 zt) ∧ W.cell? ⟨P1, 5, none⟩ = some (.int .i64 zb) ∧ W.cell? ⟨P1, 6, none⟩ = some (.slice ba kl bc)) ∧ W.cell? ⟨P2, 0, none⟩ = some (.string yk) ∧ W.cell? ⟨P2, 1, none⟩ = some (.bool yn) ∧ W.cell? ⟨P2, 2, none⟩ = some (.string yf) ∧ W.cell? ⟨P2, 3, none⟩ = some (.int .i64 yr) ∧ W.cell? ⟨P2, 4, none⟩ = some (.int .i64 yt) ∧ W.cell? ⟨P2, 5, none⟩ = some (.int .i64 yb) ∧ W.cell? ⟨P2, 6, none⟩ = some (.slice ba2 kl2 bc2))) := fun W hb => by
    obtain ⟨q0, q1, q2, q3, q4, q5, q6⟩ := r7.but (D := fun _ => False) (But.of_next hb) (by omega) (fun h => h)
    obtain ⟨p0, p1, p2, p3, p4, p5, p6⟩ := s7.but (D := fun _ => False) (But.of_next hb) (by omega) (fun h => h)
    rw [HP1.out] at q0 q1 q2 q3 q4 q5 q6
    rw [HP2.out] at p0 p1 p2 p3 p4 p5 p6
    simp only [Nat.zero_add] at q1 q2 q3 q4 q5 q6 p1 p2 p3 p4 p5 p6
    exact ⟨⟨q0, q1, q2, q3, q4, q5, q6⟩, p0, p1, p2, p3, p4, p5, p6⟩
  have HBW : Hid (∀ W, Below W0.heap.size W0 W → Below w.heap.size w W) := fun W hb => below_next hB0 hb
  clear r7 s7 hzz
  rw [HP2.out, HP1.out]
  refine hl0.mono ?_
  rintro e w1 ⟨rfl, hb1⟩
  clear hl0 HL0
  cases LB with
  | false =>
    have haw := HAW.out w1
    go_wp2_with (go_at_call 10; refine haw.mono ?_; rintro e w2 ⟨rfl, hb2⟩)
    go_ret
    exact ⟨rfl, below_next (HBW.out _ hb1) hb2⟩
  | true =>
    have hc : cntN t0 ≤ 5000 := of_decide_eq_true HLB.out.symm
    have HCT1 : Hid _ := HCT.out hc
    have HRC1 : Hid _ := HRC.out hc
    have HFT1 : Hid _ := HFT0.out hc
    have HSA1 : Hid _ := HSA0.out hc
    have HSS1 : Hid _ := HSS0.out hc
    have HPR1 : Hid _ := HPR0.out hc
    have HRP1 : Hid _ := HRP0.out hc
    have HLV1 : Hid _ := HLV0.out hc
    have HRL1 : Hid _ := HRL0.out hc
    have HND : Hid _ := HND0.out hc
    have HWR1 : Hid _ := HWR0.out hc
    simp only [Bool.true_and] at HRF0
    clear HCT HRC HFT0 HSA0 HSS0 HPR0 HRP0 HLV0 HRL0 HND0 HWR0 hc HLB
    obtain ⟨⟨r0, r1, r2, r3, r4, r5, r6⟩, s0, s1, s2, s3, s4, s5, s6⟩ := HR.out w1 hb1
    have hl1 := HL1.out w1 (HBW.out _ hb1)
    unfold ndV at hl1
    simp only at hl1
    go_wp2_with fail
    refine hl1.mono ?_
    rintro e w2 ⟨rfl, hb2⟩
    have hB2 : Below W0.heap.size W0 w2 := below_next hb1 hb2
    clear hl1 HL1 r0 r1 r2 r3 r4 r5 r6 s0 s1 s2 s3 s4 s5 s6
    cases LB1 with
    | false =>
      have haw := HAW.out w2
      go_wp2_with (go_at_call 10; refine haw.mono ?_; rintro e w3 ⟨rfl, hb3⟩)
      go_ret
      exact ⟨rfl, below_next (HBW.out _ hB2) hb3⟩
    | true =>
    obtain ⟨⟨r0, r1, r2, r3, r4, r5, r6⟩, s0, s1, s2, s3, s4, s5, s6⟩ := HR.out w2 hB2
    have hct := HCT1.out w2 (HBW.out _ hB2)
    have hrc := HRC1.out
    generalize hcn : (cntN t0 : Int) = cn at *
    generalize deepR t0 = dn at *
    unfold ndV at hct hrc
    simp only at hct hrc
    have HRC2 : Hid _ := hrc
    clear hrc HCT1 HRC1 hcn
    go_wp2_with fail
    refine hct.mono ?_
    rintro e w3 ⟨rfl, hb3⟩
    have hB3 : Below W0.heap.size W0 w3 := below_next hB2 hb3
    clear hct r0 r1 r2 r3 r4 r5 r6 s0 s1 s2 s3 s4 s5 s6
    obtain ⟨⟨r0, r1, r2, r3, r4, r5, r6⟩, s0, s1, s2, s3, s4, s5, s6⟩ := HR.out w3 hB3
    have hrc := HRC2.out w3 (HBW.out _ hB3)
    clear HRC2
    go_wp2_with fail
    refine hrc.mono ?_
    rintro e w4 ⟨rfl, hb4⟩
    have hB4 : Below W0.heap.size W0 w4 := below_next hB3 hb4
    clear hrc r0 r1 r2 r3 r4 r5 r6 s0 s1 s2 s3 s4 s5 s6
    have HS : Hid (∀ W, Below w4.heap.size w4 W → ((W.cell? ⟨P1, 0, none⟩ = some (.string zk) ∧ W.cell? ⟨P1, 1, none⟩ = some (.bool zn) ∧ W.cell? ⟨P1, 2, none⟩ = some (.string zf) ∧ W.cell? ⟨P1, 3, none⟩ = some (.int .i64 zr) ∧ W.cell? ⟨P1, 4, none⟩ = some (.int .i64 zt) ∧ W.cell? ⟨P1, 5, none⟩ = some (.int .i64 zb) ∧ W.cell? ⟨P1, 6, none⟩ = some (.slice ba kl bc)) ∧ W.cell? ⟨P2, 0, none⟩ = some (.string yk) ∧ W.cell? ⟨P2, 1, none⟩ = some (.bool yn) ∧ W.cell? ⟨P2, 2, none⟩ = some (.string yf) ∧ W.cell? ⟨P2, 3, none⟩ = some (.int .i64 yr) ∧ W.cell? ⟨P2, 4, none⟩ = some (.int .i64 yt) ∧ W.cell? ⟨P2, 5, none⟩ = some (.int .i64 yb) ∧ W.cell? ⟨P2, 6, none⟩ = some (.slice ba2 kl2 bc2))) := fun W hb => HR.out W (below_next hB4 hb)
    have HBX : Hid (∀ W, Below w4.heap.size w4 W → Below w.heap.size w W) := fun W hb => HBW.out _ (below_next hB4 hb)
    generalize fitB t0 size = FB at *
    generalize eqN t0 t1 = SB at *
    generalize (⟨(printN t0).toArray⟩ : ByteArray) = pb at *
    generalize wrongB t0 = WB at *
    have hft := HFT1.out
    have hrf := HRF0.out
    have hsa := HSA1.out
    have hrs := HRS0.out
    have hss := HSS1.out
    have hpr := HPR1.out
    have hrp := HRP1.out
    have hlv := HLV1.out
    have hrl := HRL1.out
    have hwr := HWR1.out
    have hrw := HRW0.out
    unfold ndV at hft hrf hsa hrs hss hpr hrp hlv hrl hwr hrw
    simp only at hft hrf hsa hrs hss hpr hrp hlv hrl hwr hrw
    have HFT : Hid (∀ W, Below w4.heap.size w4 W → _) := fun W hb => hft W (HBX.out W hb)
    have HRF : Hid (∀ W, Below w4.heap.size w4 W → _) := fun W hb => hrf W (HBX.out W hb)
    have HSA : Hid (∀ W, Below w4.heap.size w4 W → _) := fun W hb => hsa W (HBX.out W hb)
    have HRS : Hid (∀ W, Below w4.heap.size w4 W → _) := fun W hb => hrs W (HBX.out W hb)
    have HSS : Hid (∀ W, Below w4.heap.size w4 W → _) := fun W hb => hss W (HBX.out W hb)
    have HPR : Hid (∀ W, Below w4.heap.size w4 W → _) := fun W hb => hpr W (HBX.out W hb)
    have HRP : Hid (∀ W, Below w4.heap.size w4 W → _) := fun W hb => hrp W (HBX.out W hb)
    have HLV : Hid (∀ W, Below w4.heap.size w4 W → _) := fun W hb => hlv W (HBX.out W hb)
    have HRL : Hid (∀ W, Below w4.heap.size w4 W → _) := fun W hb => hrl W (HBX.out W hb)
    have HWR : Hid (∀ W, Below w4.heap.size w4 W → _) := fun W hb => hwr W (HBX.out W hb)
    have HRW : Hid (∀ W, Below w4.heap.size w4 W → _) := fun W hb => hrw W (HBX.out W hb)
    clear hft hrf hsa hrs hss hpr hrp hlv hrl hwr hrw HFT1 HRF0 HSA1 HRS0 HSS1 HPR1 HRP1 HLV1 HRL1 HWR1 HRW0 HR
    go_wp2_with fail
    refine wp_region_L (fun W => (W.cell? ⟨P1, 0, none⟩ = some (.string zk) ∧ W.cell? ⟨P1, 1, none⟩ = some (.bool zn) ∧ W.cell? ⟨P1, 2, none⟩ = some (.string zf) ∧ W.cell? ⟨P1, 3, none⟩ = some (.int .i64 zr) ∧ W.cell? ⟨P1, 4, none⟩ = some (.int .i64 zt) ∧ W.cell? ⟨P1, 5, none⟩ = some (.int .i64 zb) ∧ W.cell? ⟨P1, 6, none⟩ = some (.slice ba kl bc)) ∧ W.cell? ⟨P2, 0, none⟩ = some (.string yk) ∧ W.cell? ⟨P2, 1, none⟩ = some (.bool yn) ∧ W.cell? ⟨P2, 2, none⟩ = some (.string yf) ∧ W.cell? ⟨P2, 3, none⟩ = some (.int .i64 yr) ∧ W.cell? ⟨P2, 4, none⟩ = some (.int .i64 yt) ∧ W.cell? ⟨P2, 5, none⟩ = some (.int .i64 yb) ∧ W.cell? ⟨P2, 6, none⟩ = some (.slice ba2 kl2 bc2)) 56 (by kernel_rfl) 56 rfl ?_
    refine wpAnyL_take' (i := 0) (v := ?_) (oi := { dst := some 30, op := Op.load 24 (Operand.tmp 3), type := 24, pos := "law.go:29", after := #[], guard := none }) rfl (by kernel_rfl) (by kernel_rfl) (by kernel_rfl) (by kernel_rfl) rfl (fun _ _ _ h => h) (Or.inl ⟨by rfl, ?_⟩) (HS.out _ (Below.refl _ _).drew) ?_
    rotate_left
    · intro W hSW
      go_simp
      try with_reducible rfl
    simp only [Act.put, List.setIfInBounds_toArray, List.set_cons_zero, List.set_cons_succ]
    refine wpAnyL_take' (i := 1) (v := ?_) (oi := { dst := some 31, op := Op.move (Operand.tmp 2), type := 3, pos := "law.go:29", after := #[], guard := none }) rfl (by kernel_rfl) (by kernel_rfl) (by kernel_rfl) (by kernel_rfl) rfl (fun _ _ _ h => h) (Or.inl ⟨by rfl, ?_⟩) (HS.out _ (Below.refl _ _).drew) ?_
    rotate_left
    · intro W hSW
      go_simp
      try with_reducible rfl
    simp only [Act.put, List.setIfInBounds_toArray, List.set_cons_zero, List.set_cons_succ]
    refine wpAnyL_take' (i := 3) (v := ?_) (oi := { dst := some 33, op := Op.load 24 (Operand.tmp 3), type := 24, pos := "law.go:29", after := #[], guard := none }) rfl (by kernel_rfl) (by kernel_rfl) (by kernel_rfl) (by kernel_rfl) rfl (fun _ _ _ h => h) (Or.inl ⟨by rfl, ?_⟩) (HS.out _ (Below.refl _ _).drew) ?_
    rotate_left
    · intro W hSW
      go_simp
      try with_reducible rfl
    simp only [Act.put, List.setIfInBounds_toArray, List.set_cons_zero, List.set_cons_succ]
    refine wpAnyL_take' (i := 4) (v := ?_) (oi := { dst := some 34, op := Op.move (Operand.tmp 2), type := 3, pos := "law.go:29", after := #[], guard := none }) rfl (by kernel_rfl) (by kernel_rfl) (by kernel_rfl) (by kernel_rfl) rfl (fun _ _ _ h => h) (Or.inl ⟨by rfl, ?_⟩) (HS.out _ (Below.refl _ _).drew) ?_
    rotate_left
    · intro W hSW
      go_simp
      try with_reducible rfl
    simp only [Act.put, List.setIfInBounds_toArray, List.set_cons_zero, List.set_cons_succ]
    refine wpAnyL_one' (i := 2) (o := { dst := some 32, op := Op.call { callee := Callee.value (Operand.func 13), args := #[Operand.tmp 30, Operand.tmp 31], argTypes := #[24, 3] }, type := 4, pos := "law.go:29", after := #[{ on := 0, ground := Ground.data }, { on := 1, ground := Ground.data }], guard := none }) (by kernel_rfl) rfl rfl (fun K hK => ?_)
    go_simp
    refine (HFT.out _ (Below.refl _ _).drew).mono ?_
    rintro e x1 ⟨rfl, hb1⟩
    refine hK.out _ _ (fun _ => (HS.out _ ((Below.refl _ _).drew.trans hb1))) ?_
    clear hK
    have g1 : Below w4.heap.size w4 x1 := ((Below.refl _ _).drew.trans hb1)
    refine wpAnyL_one' (i := 5) (o := { dst := some 35, op := Op.call { callee := Callee.value (Operand.func 14), args := #[Operand.tmp 33, Operand.tmp 34], argTypes := #[24, 3] }, type := 4, pos := "law.go:29", after := #[{ on := 3, ground := Ground.data }, { on := 4, ground := Ground.data }, { on := 2, ground := Ground.chain }], guard := none }) (by kernel_rfl) rfl rfl (fun K hK => ?_)
    go_simp
    refine (HRF.out _ g1).mono ?_
    rintro e x2 ⟨rfl, hb2⟩
    refine hK.out _ _ (fun _ => (HS.out _ (g1.trans (hb2.mono g1.size)))) ?_
    clear hK
    have g2 : Below w4.heap.size w4 x2 := (g1.trans (hb2.mono g1.size))
    refine wpAnyL_take' (i := 6) (v := ?_) (oi := { dst := some 36, op := Op.binOp BinOp.eql 4 (Operand.tmp 32) (Operand.tmp 35) 4, type := 4, pos := "law.go:29", after := #[{ on := 2, ground := Ground.data }, { on := 5, ground := Ground.data }], guard := none }) rfl (by kernel_rfl) (by kernel_rfl) (by kernel_rfl) (by kernel_rfl) rfl (fun _ _ _ h => h) (Or.inl ⟨by rfl, ?_⟩) (HS.out _ (g1.trans (hb2.mono g1.size))) ?_
    rotate_left
    · intro W hSW
      go_simp
      try with_reducible rfl
    simp only [Act.put, List.setIfInBounds_toArray, List.set_cons_zero, List.set_cons_succ]
    refine wpAnyL_take' (i := 7) (v := ?_) (oi := { dst := some 37, op := Op.move (Operand.tmp 36), type := 4, pos := "law.go:29", after := #[{ on := 6, ground := Ground.data }, { on := 5, ground := Ground.chain }], guard := none }) rfl (by kernel_rfl) (by kernel_rfl) (by kernel_rfl) (by kernel_rfl) rfl (fun _ _ _ h => h) (Or.inl ⟨by rfl, ?_⟩) (HS.out _ (g1.trans (hb2.mono g1.size))) ?_
    rotate_left
    · intro W hSW
      go_simp
      try with_reducible rfl
    simp only [Act.put, List.setIfInBounds_toArray, List.set_cons_zero, List.set_cons_succ]
    refine wpAnyL_take' (i := 8) (v := ?_) (oi := { dst := some 38, op := Op.load 24 (Operand.tmp 3), type := 24, pos := "law.go:29", after := #[{ on := 7, ground := Ground.guard }], guard := some (7, true) }) rfl (by kernel_rfl) (by kernel_rfl) (by kernel_rfl) (by kernel_rfl) rfl (fun _ _ _ h => h) (Or.inl ⟨by rfl, ?_⟩) (HS.out _ (g1.trans (hb2.mono g1.size))) ?_
    rotate_left
    · intro W hSW
      go_simp
      try with_reducible rfl
    simp only [Act.put, List.setIfInBounds_toArray, List.set_cons_zero, List.set_cons_succ]
    refine wpAnyL_take' (i := 9) (v := ?_) (oi := { dst := some 39, op := Op.load 24 (Operand.tmp 4), type := 24, pos := "law.go:29", after := #[{ on := 7, ground := Ground.guard }], guard := some (7, true) }) rfl (by kernel_rfl) (by kernel_rfl) (by kernel_rfl) (by kernel_rfl) rfl (fun _ _ _ h => h) (Or.inl ⟨by rfl, ?_⟩) (HS.out _ (g1.trans (hb2.mono g1.size))) ?_
    rotate_left
    · intro W hSW
      go_simp
      try with_reducible rfl
    simp only [Act.put, List.setIfInBounds_toArray, List.set_cons_zero, List.set_cons_succ]
    refine wpAnyL_take' (i := 11) (v := ?_) (oi := { dst := some 41, op := Op.load 24 (Operand.tmp 3), type := 24, pos := "law.go:29", after := #[{ on := 7, ground := Ground.guard }], guard := some (7, true) }) rfl (by kernel_rfl) (by kernel_rfl) (by kernel_rfl) (by kernel_rfl) rfl (fun _ _ _ h => h) (Or.inl ⟨by rfl, ?_⟩) (HS.out _ (g1.trans (hb2.mono g1.size))) ?_
    rotate_left
    · intro W hSW
      go_simp
      try with_reducible rfl
    simp only [Act.put, List.setIfInBounds_toArray, List.set_cons_zero, List.set_cons_succ]
    refine wpAnyL_take' (i := 12) (v := ?_) (oi := { dst := some 42, op := Op.load 24 (Operand.tmp 4), type := 24, pos := "law.go:29", after := #[{ on := 7, ground := Ground.guard }], guard := some (7, true) }) rfl (by kernel_rfl) (by kernel_rfl) (by kernel_rfl) (by kernel_rfl) rfl (fun _ _ _ h => h) (Or.inl ⟨by rfl, ?_⟩) (HS.out _ (g1.trans (hb2.mono g1.size))) ?_
    rotate_left
    · intro W hSW
      go_simp
      try with_reducible rfl
    simp only [Act.put, List.setIfInBounds_toArray, List.set_cons_zero, List.set_cons_succ]
    refine wpAnyL_one' (i := 10) (o := { dst := some 40, op := Op.call { callee := Callee.value (Operand.func 15), args := #[Operand.tmp 38, Operand.tmp 39], argTypes := #[24, 24] }, type := 4, pos := "law.go:29", after := #[{ on := 8, ground := Ground.data }, { on := 9, ground := Ground.data }, { on := 7, ground := Ground.chain }, { on := 7, ground := Ground.guard }], guard := some (7, true) }) (by kernel_rfl) rfl rfl (fun K hK => ?_)
    go_simp
    refine (HSA.out _ g2).mono ?_
    rintro e x3 ⟨rfl, hb3⟩
    refine hK.out _ _ (fun _ => (HS.out _ (g2.trans (hb3.mono g2.size)))) ?_
    clear hK
    have g3 : Below w4.heap.size w4 x3 := (g2.trans (hb3.mono g2.size))
    refine wpAnyL_one' (i := 13) (o := { dst := some 43, op := Op.call { callee := Callee.value (Operand.func 16), args := #[Operand.tmp 41, Operand.tmp 42], argTypes := #[24, 24] }, type := 4, pos := "law.go:29", after := #[{ on := 11, ground := Ground.data }, { on := 12, ground := Ground.data }, { on := 10, ground := Ground.chain }, { on := 7, ground := Ground.guard }], guard := some (7, true) }) (by kernel_rfl) rfl rfl (fun K hK => ?_)
    go_simp
    refine (HRS.out _ g3).mono ?_
    rintro e x4 ⟨rfl, hb4⟩
    refine hK.out _ _ (fun _ => (HS.out _ (g3.trans (hb4.mono g3.size)))) ?_
    clear hK
    have g4 : Below w4.heap.size w4 x4 := (g3.trans (hb4.mono g3.size))
    refine wpAnyL_take' (i := 14) (v := ?_) (oi := { dst := some 44, op := Op.binOp BinOp.eql 4 (Operand.tmp 40) (Operand.tmp 43) 4, type := 4, pos := "law.go:29", after := #[{ on := 10, ground := Ground.data }, { on := 13, ground := Ground.data }, { on := 7, ground := Ground.guard }], guard := some (7, true) }) rfl (by kernel_rfl) (by kernel_rfl) (by kernel_rfl) (by kernel_rfl) rfl (fun _ _ _ h => h) (Or.inl ⟨by rfl, ?_⟩) (HS.out _ (g3.trans (hb4.mono g3.size))) ?_
    rotate_left
    · intro W hSW
      go_simp
      try with_reducible rfl
    simp only [Act.put, List.setIfInBounds_toArray, List.set_cons_zero, List.set_cons_succ]
    refine wpAnyL_take' (i := 15) (v := ?_) (oi := { dst := some 45, op := Op.pick (Operand.tmp 37) (Operand.tmp 44) (Operand.const (Value.bool false)), type := 4, pos := "law.go:29", after := #[{ on := 7, ground := Ground.data }, { on := 14, ground := Ground.data }], guard := none }) rfl (by kernel_rfl) (by kernel_rfl) (by kernel_rfl) (by kernel_rfl) rfl (fun _ _ _ h => h) (Or.inl ⟨by rfl, ?_⟩) (HS.out _ (g3.trans (hb4.mono g3.size))) ?_
    rotate_left
    · intro W hSW
      go_simp
      try with_reducible rfl
    simp only [Act.put, List.setIfInBounds_toArray, List.set_cons_zero, List.set_cons_succ]
    refine wpAnyL_take' (i := 16) (v := ?_) (oi := { dst := some 46, op := Op.move (Operand.tmp 45), type := 4, pos := "law.go:29", after := #[{ on := 15, ground := Ground.data }, { on := 13, ground := Ground.chain }], guard := none }) rfl (by kernel_rfl) (by kernel_rfl) (by kernel_rfl) (by kernel_rfl) rfl (fun _ _ _ h => h) (Or.inl ⟨by rfl, ?_⟩) (HS.out _ (g3.trans (hb4.mono g3.size))) ?_
    rotate_left
    · intro W hSW
      go_simp
      try with_reducible rfl
    simp only [Act.put, List.setIfInBounds_toArray, List.set_cons_zero, List.set_cons_succ]
    refine wpAnyL_take' (i := 17) (v := ?_) (oi := { dst := some 47, op := Op.load 24 (Operand.tmp 3), type := 24, pos := "law.go:29", after := #[{ on := 16, ground := Ground.guard }], guard := some (16, true) }) rfl (by kernel_rfl) (by kernel_rfl) (by kernel_rfl) (by kernel_rfl) rfl (fun _ _ _ h => h) (Or.inl ⟨by rfl, ?_⟩) (HS.out _ (g3.trans (hb4.mono g3.size))) ?_
    rotate_left
    · intro W hSW
      go_simp
      try with_reducible rfl
    simp only [Act.put, List.setIfInBounds_toArray, List.set_cons_zero, List.set_cons_succ]
    refine wpAnyL_take' (i := 18) (v := ?_) (oi := { dst := some 48, op := Op.load 24 (Operand.tmp 3), type := 24, pos := "law.go:29", after := #[{ on := 16, ground := Ground.guard }], guard := some (16, true) }) rfl (by kernel_rfl) (by kernel_rfl) (by kernel_rfl) (by kernel_rfl) rfl (fun _ _ _ h => h) (Or.inl ⟨by rfl, ?_⟩) (HS.out _ (g3.trans (hb4.mono g3.size))) ?_
    rotate_left
    · intro W hSW
      go_simp
      try with_reducible rfl
    simp only [Act.put, List.setIfInBounds_toArray, List.set_cons_zero, List.set_cons_succ]
    refine wpAnyL_one' (i := 19) (o := { dst := some 49, op := Op.call { callee := Callee.value (Operand.func 15), args := #[Operand.tmp 47, Operand.tmp 48], argTypes := #[24, 24] }, type := 4, pos := "law.go:29", after := #[{ on := 17, ground := Ground.data }, { on := 18, ground := Ground.data }, { on := 16, ground := Ground.chain }, { on := 16, ground := Ground.guard }], guard := some (16, true) }) (by kernel_rfl) rfl rfl (fun K hK => ?_)
    go_simp
    refine (HSS.out _ g4).mono ?_
    rintro e x5 ⟨rfl, hb5⟩
    refine hK.out _ _ (fun _ => (HS.out _ (g4.trans (hb5.mono g4.size)))) ?_
    clear hK
    have g5 : Below w4.heap.size w4 x5 := (g4.trans (hb5.mono g4.size))
    refine wpAnyL_take' (i := 20) (v := ?_) (oi := { dst := some 50, op := Op.pick (Operand.tmp 46) (Operand.tmp 49) (Operand.const (Value.bool false)), type := 4, pos := "law.go:29", after := #[{ on := 16, ground := Ground.data }, { on := 19, ground := Ground.data }], guard := none }) rfl (by kernel_rfl) (by kernel_rfl) (by kernel_rfl) (by kernel_rfl) rfl (fun _ _ _ h => h) (Or.inl ⟨by rfl, ?_⟩) (HS.out _ (g4.trans (hb5.mono g4.size))) ?_
    rotate_left
    · intro W hSW
      go_simp
      try with_reducible rfl
    simp only [Act.put, List.setIfInBounds_toArray, List.set_cons_zero, List.set_cons_succ]
    refine wpAnyL_take' (i := 21) (v := ?_) (oi := { dst := some 51, op := Op.move (Operand.tmp 50), type := 4, pos := "law.go:29", after := #[{ on := 20, ground := Ground.data }, { on := 19, ground := Ground.chain }], guard := none }) rfl (by kernel_rfl) (by kernel_rfl) (by kernel_rfl) (by kernel_rfl) rfl (fun _ _ _ h => h) (Or.inl ⟨by rfl, ?_⟩) (HS.out _ (g4.trans (hb5.mono g4.size))) ?_
    rotate_left
    · intro W hSW
      go_simp
      try with_reducible rfl
    simp only [Act.put, List.setIfInBounds_toArray, List.set_cons_zero, List.set_cons_succ]
    refine wpAnyL_take' (i := 22) (v := ?_) (oi := { dst := some 52, op := Op.load 24 (Operand.tmp 3), type := 24, pos := "law.go:29", after := #[{ on := 21, ground := Ground.guard }], guard := some (21, true) }) rfl (by kernel_rfl) (by kernel_rfl) (by kernel_rfl) (by kernel_rfl) rfl (fun _ _ _ h => h) (Or.inl ⟨by rfl, ?_⟩) (HS.out _ (g4.trans (hb5.mono g4.size))) ?_
    rotate_left
    · intro W hSW
      go_simp
      try with_reducible rfl
    simp only [Act.put, List.setIfInBounds_toArray, List.set_cons_zero, List.set_cons_succ]
    refine wpAnyL_take' (i := 24) (v := ?_) (oi := { dst := some 54, op := Op.load 24 (Operand.tmp 3), type := 24, pos := "law.go:29", after := #[{ on := 21, ground := Ground.guard }], guard := some (21, true) }) rfl (by kernel_rfl) (by kernel_rfl) (by kernel_rfl) (by kernel_rfl) rfl (fun _ _ _ h => h) (Or.inl ⟨by rfl, ?_⟩) (HS.out _ (g4.trans (hb5.mono g4.size))) ?_
    rotate_left
    · intro W hSW
      go_simp
      try with_reducible rfl
    simp only [Act.put, List.setIfInBounds_toArray, List.set_cons_zero, List.set_cons_succ]
    refine wpAnyL_one' (i := 23) (o := { dst := some 53, op := Op.call { callee := Callee.value (Operand.func 17), args := #[Operand.tmp 52], argTypes := #[24] }, type := 9, pos := "law.go:29", after := #[{ on := 22, ground := Ground.data }, { on := 21, ground := Ground.chain }, { on := 21, ground := Ground.guard }], guard := some (21, true) }) (by kernel_rfl) rfl rfl (fun K hK => ?_)
    go_simp
    refine (HPR.out _ g5).mono ?_
    rintro e x6 ⟨rfl, hb6⟩
    refine hK.out _ _ (fun _ => (HS.out _ (g5.trans (hb6.mono g5.size)))) ?_
    clear hK
    have g6 : Below w4.heap.size w4 x6 := (g5.trans (hb6.mono g5.size))
    refine wpAnyL_one' (i := 25) (o := { dst := some 55, op := Op.call { callee := Callee.value (Operand.func 18), args := #[Operand.tmp 54], argTypes := #[24] }, type := 9, pos := "law.go:29", after := #[{ on := 24, ground := Ground.data }, { on := 23, ground := Ground.chain }, { on := 21, ground := Ground.guard }], guard := some (21, true) }) (by kernel_rfl) rfl rfl (fun K hK => ?_)
    go_simp
    refine (HRP.out _ g6).mono ?_
    rintro e x7 ⟨rfl, hb7⟩
    refine hK.out _ _ (fun _ => (HS.out _ (g6.trans (hb7.mono g6.size)))) ?_
    clear hK
    have g7 : Below w4.heap.size w4 x7 := (g6.trans (hb7.mono g6.size))
    refine wpAnyL_take' (i := 26) (v := ?_) (oi := { dst := some 56, op := Op.binOp BinOp.eql 9 (Operand.tmp 53) (Operand.tmp 55) 9, type := 4, pos := "law.go:29", after := #[{ on := 23, ground := Ground.data }, { on := 25, ground := Ground.data }, { on := 21, ground := Ground.guard }], guard := some (21, true) }) rfl (by kernel_rfl) (by kernel_rfl) (by kernel_rfl) (by kernel_rfl) rfl (fun _ _ _ h => h) (Or.inl ⟨by rfl, ?_⟩) (HS.out _ (g6.trans (hb7.mono g6.size))) ?_
    rotate_left
    · intro W hSW
      go_simp
      try with_reducible rfl
    simp only [Act.put, List.setIfInBounds_toArray, List.set_cons_zero, List.set_cons_succ]
    refine wpAnyL_take' (i := 27) (v := ?_) (oi := { dst := some 57, op := Op.pick (Operand.tmp 51) (Operand.tmp 56) (Operand.const (Value.bool false)), type := 4, pos := "law.go:29", after := #[{ on := 21, ground := Ground.data }, { on := 26, ground := Ground.data }], guard := none }) rfl (by kernel_rfl) (by kernel_rfl) (by kernel_rfl) (by kernel_rfl) rfl (fun _ _ _ h => h) (Or.inl ⟨by rfl, ?_⟩) (HS.out _ (g6.trans (hb7.mono g6.size))) ?_
    rotate_left
    · intro W hSW
      go_simp
      try with_reducible rfl
    simp only [Act.put, List.setIfInBounds_toArray, List.set_cons_zero, List.set_cons_succ]
    refine wpAnyL_take' (i := 28) (v := ?_) (oi := { dst := some 58, op := Op.move (Operand.tmp 57), type := 4, pos := "law.go:29", after := #[{ on := 27, ground := Ground.data }, { on := 25, ground := Ground.chain }], guard := none }) rfl (by kernel_rfl) (by kernel_rfl) (by kernel_rfl) (by kernel_rfl) rfl (fun _ _ _ h => h) (Or.inl ⟨by rfl, ?_⟩) (HS.out _ (g6.trans (hb7.mono g6.size))) ?_
    rotate_left
    · intro W hSW
      go_simp
      try with_reducible rfl
    simp only [Act.put, List.setIfInBounds_toArray, List.set_cons_zero, List.set_cons_succ]
    refine wpAnyL_take' (i := 29) (v := ?_) (oi := { dst := some 59, op := Op.load 24 (Operand.tmp 3), type := 24, pos := "law.go:29", after := #[{ on := 28, ground := Ground.guard }], guard := some (28, true) }) rfl (by kernel_rfl) (by kernel_rfl) (by kernel_rfl) (by kernel_rfl) rfl (fun _ _ _ h => h) (Or.inl ⟨by rfl, ?_⟩) (HS.out _ (g6.trans (hb7.mono g6.size))) ?_
    rotate_left
    · intro W hSW
      go_simp
      try with_reducible rfl
    simp only [Act.put, List.setIfInBounds_toArray, List.set_cons_zero, List.set_cons_succ]
    refine wpAnyL_take' (i := 31) (v := ?_) (oi := { dst := some 61, op := Op.load 24 (Operand.tmp 3), type := 24, pos := "law.go:29", after := #[{ on := 28, ground := Ground.guard }], guard := some (28, true) }) rfl (by kernel_rfl) (by kernel_rfl) (by kernel_rfl) (by kernel_rfl) rfl (fun _ _ _ h => h) (Or.inl ⟨by rfl, ?_⟩) (HS.out _ (g6.trans (hb7.mono g6.size))) ?_
    rotate_left
    · intro W hSW
      go_simp
      try with_reducible rfl
    simp only [Act.put, List.setIfInBounds_toArray, List.set_cons_zero, List.set_cons_succ]
    refine wpAnyL_one' (i := 30) (o := { dst := some 60, op := Op.call { callee := Callee.value (Operand.func 20), args := #[Operand.tmp 59], argTypes := #[24] }, type := 22, pos := "law.go:29", after := #[{ on := 29, ground := Ground.data }, { on := 28, ground := Ground.chain }, { on := 28, ground := Ground.guard }], guard := some (28, true) }) (by kernel_rfl) rfl rfl (fun K hK => ?_)
    go_simp
    refine (HLV.out _ g7).mono ?_
    rintro e x8 ⟨⟨la, lc, N1, rfl, hk1⟩, hb8⟩
    refine hK.out _ _ (fun _ => (HS.out _ (g7.trans (hb8.mono g7.size)))) ?_
    clear hK
    have g8 : Below w4.heap.size w4 x8 := (g7.trans (hb8.mono g7.size))
    refine wpAnyL_one' (i := 32) (o := { dst := some 62, op := Op.call { callee := Callee.value (Operand.func 21), args := #[Operand.tmp 61], argTypes := #[24] }, type := 22, pos := "law.go:29", after := #[{ on := 31, ground := Ground.data }, { on := 30, ground := Ground.chain }, { on := 28, ground := Ground.guard }], guard := some (28, true) }) (by kernel_rfl) rfl rfl (fun K hK => ?_)
    go_simp
    refine (HRL.out _ g8).mono ?_
    rintro e x9 ⟨⟨la2, lc2, N2, rfl, hk2⟩, hb9⟩
    refine hK.out _ _ (fun _ => (HS.out _ (g8.trans (hb9.mono g8.size)))) ?_
    clear hK
    have g9 : Below w4.heap.size w4 x9 := (g8.trans (hb9.mono g8.size))
    refine wpAnyL_one' (i := 33) (o := { dst := some 63, op := Op.call { callee := Callee.value (Operand.func 19), args := #[Operand.tmp 60, Operand.tmp 62], argTypes := #[22, 22] }, type := 4, pos := "law.go:29", after := #[{ on := 30, ground := Ground.data }, { on := 32, ground := Ground.data }, { on := 32, ground := Ground.chain }, { on := 28, ground := Ground.guard }], guard := some (28, true) }) (by kernel_rfl) rfl rfl (fun K hK => ?_)
    go_simp
    refine (HND.out _ _ _ _ _ _ _ _ _ (KidsAt.next hk1 hb9) hk2).mono ?_
    rintro e x10 ⟨rfl, hb10⟩
    refine hK.out _ _ (fun _ => (HS.out _ (g9.trans (hb10.mono g9.size)))) ?_
    clear hK
    have g10 : Below w4.heap.size w4 x10 := (g9.trans (hb10.mono g9.size))
    refine wpAnyL_take' (i := 34) (v := ?_) (oi := { dst := some 64, op := Op.pick (Operand.tmp 58) (Operand.tmp 63) (Operand.const (Value.bool false)), type := 4, pos := "law.go:29", after := #[{ on := 28, ground := Ground.data }, { on := 33, ground := Ground.data }], guard := none }) rfl (by kernel_rfl) (by kernel_rfl) (by kernel_rfl) (by kernel_rfl) rfl (fun _ _ _ h => h) (Or.inl ⟨by rfl, ?_⟩) (HS.out _ (g9.trans (hb10.mono g9.size))) ?_
    rotate_left
    · intro W hSW
      go_simp
      try with_reducible rfl
    simp only [Act.put, List.setIfInBounds_toArray, List.set_cons_zero, List.set_cons_succ]
    refine wpAnyL_take' (i := 35) (v := ?_) (oi := { dst := some 65, op := Op.move (Operand.tmp 64), type := 4, pos := "law.go:29", after := #[{ on := 34, ground := Ground.data }, { on := 33, ground := Ground.chain }], guard := none }) rfl (by kernel_rfl) (by kernel_rfl) (by kernel_rfl) (by kernel_rfl) rfl (fun _ _ _ h => h) (Or.inl ⟨by rfl, ?_⟩) (HS.out _ (g9.trans (hb10.mono g9.size))) ?_
    rotate_left
    · intro W hSW
      go_simp
      try with_reducible rfl
    simp only [Act.put, List.setIfInBounds_toArray, List.set_cons_zero, List.set_cons_succ]
    refine wpAnyL_take' (i := 36) (v := ?_) (oi := { dst := some 66, op := Op.move (Operand.tmp 7), type := 3, pos := "law.go:29", after := #[{ on := 35, ground := Ground.guard }], guard := some (35, true) }) rfl (by kernel_rfl) (by kernel_rfl) (by kernel_rfl) (by kernel_rfl) rfl (fun _ _ _ h => h) (Or.inl ⟨by rfl, ?_⟩) (HS.out _ (g9.trans (hb10.mono g9.size))) ?_
    rotate_left
    · intro W hSW
      go_simp
      try with_reducible rfl
    simp only [Act.put, List.setIfInBounds_toArray, List.set_cons_zero, List.set_cons_succ]
    refine wpAnyL_take' (i := 37) (v := ?_) (oi := { dst := some 67, op := Op.move (Operand.tmp 9), type := 3, pos := "law.go:29", after := #[{ on := 35, ground := Ground.guard }], guard := some (35, true) }) rfl (by kernel_rfl) (by kernel_rfl) (by kernel_rfl) (by kernel_rfl) rfl (fun _ _ _ h => h) (Or.inl ⟨by rfl, ?_⟩) (HS.out _ (g9.trans (hb10.mono g9.size))) ?_
    rotate_left
    · intro W hSW
      go_simp
      try with_reducible rfl
    simp only [Act.put, List.setIfInBounds_toArray, List.set_cons_zero, List.set_cons_succ]
    refine wpAnyL_take' (i := 38) (v := ?_) (oi := { dst := some 68, op := Op.binOp BinOp.eql 3 (Operand.tmp 66) (Operand.tmp 67) 3, type := 4, pos := "law.go:29", after := #[{ on := 36, ground := Ground.data }, { on := 37, ground := Ground.data }, { on := 35, ground := Ground.guard }], guard := some (35, true) }) rfl (by kernel_rfl) (by kernel_rfl) (by kernel_rfl) (by kernel_rfl) rfl (fun _ _ _ h => h) (Or.inl ⟨by rfl, ?_⟩) (HS.out _ (g9.trans (hb10.mono g9.size))) ?_
    rotate_left
    · intro W hSW
      go_simp
      try with_reducible rfl
    simp only [Act.put, List.setIfInBounds_toArray, List.set_cons_zero, List.set_cons_succ]
    refine wpAnyL_take' (i := 39) (v := ?_) (oi := { dst := some 69, op := Op.pick (Operand.tmp 65) (Operand.tmp 68) (Operand.const (Value.bool false)), type := 4, pos := "law.go:29", after := #[{ on := 35, ground := Ground.data }, { on := 38, ground := Ground.data }], guard := none }) rfl (by kernel_rfl) (by kernel_rfl) (by kernel_rfl) (by kernel_rfl) rfl (fun _ _ _ h => h) (Or.inl ⟨by rfl, ?_⟩) (HS.out _ (g9.trans (hb10.mono g9.size))) ?_
    rotate_left
    · intro W hSW
      go_simp
      try with_reducible rfl
    simp only [Act.put, List.setIfInBounds_toArray, List.set_cons_zero, List.set_cons_succ]
    refine wpAnyL_take' (i := 40) (v := ?_) (oi := { dst := some 70, op := Op.move (Operand.tmp 69), type := 4, pos := "law.go:29", after := #[{ on := 39, ground := Ground.data }, { on := 35, ground := Ground.chain }], guard := none }) rfl (by kernel_rfl) (by kernel_rfl) (by kernel_rfl) (by kernel_rfl) rfl (fun _ _ _ h => h) (Or.inl ⟨by rfl, ?_⟩) (HS.out _ (g9.trans (hb10.mono g9.size))) ?_
    rotate_left
    · intro W hSW
      go_simp
      try with_reducible rfl
    simp only [Act.put, List.setIfInBounds_toArray, List.set_cons_zero, List.set_cons_succ]
    refine wpAnyL_take' (i := 41) (v := ?_) (oi := { dst := some 71, op := Op.move (Operand.tmp 8), type := 3, pos := "law.go:29", after := #[{ on := 40, ground := Ground.guard }], guard := some (40, true) }) rfl (by kernel_rfl) (by kernel_rfl) (by kernel_rfl) (by kernel_rfl) rfl (fun _ _ _ h => h) (Or.inl ⟨by rfl, ?_⟩) (HS.out _ (g9.trans (hb10.mono g9.size))) ?_
    rotate_left
    · intro W hSW
      go_simp
      try with_reducible rfl
    simp only [Act.put, List.setIfInBounds_toArray, List.set_cons_zero, List.set_cons_succ]
    refine wpAnyL_take' (i := 42) (v := ?_) (oi := { dst := some 72, op := Op.move (Operand.tmp 10), type := 3, pos := "law.go:29", after := #[{ on := 40, ground := Ground.guard }], guard := some (40, true) }) rfl (by kernel_rfl) (by kernel_rfl) (by kernel_rfl) (by kernel_rfl) rfl (fun _ _ _ h => h) (Or.inl ⟨by rfl, ?_⟩) (HS.out _ (g9.trans (hb10.mono g9.size))) ?_
    rotate_left
    · intro W hSW
      go_simp
      try with_reducible rfl
    simp only [Act.put, List.setIfInBounds_toArray, List.set_cons_zero, List.set_cons_succ]
    refine wpAnyL_take' (i := 43) (v := ?_) (oi := { dst := some 73, op := Op.binOp BinOp.eql 3 (Operand.tmp 71) (Operand.tmp 72) 3, type := 4, pos := "law.go:29", after := #[{ on := 41, ground := Ground.data }, { on := 42, ground := Ground.data }, { on := 40, ground := Ground.guard }], guard := some (40, true) }) rfl (by kernel_rfl) (by kernel_rfl) (by kernel_rfl) (by kernel_rfl) rfl (fun _ _ _ h => h) (Or.inl ⟨by rfl, ?_⟩) (HS.out _ (g9.trans (hb10.mono g9.size))) ?_
    rotate_left
    · intro W hSW
      go_simp
      try with_reducible rfl
    simp only [Act.put, List.setIfInBounds_toArray, List.set_cons_zero, List.set_cons_succ]
    refine wpAnyL_take' (i := 44) (v := ?_) (oi := { dst := some 74, op := Op.pick (Operand.tmp 70) (Operand.tmp 73) (Operand.const (Value.bool false)), type := 4, pos := "law.go:29", after := #[{ on := 40, ground := Ground.data }, { on := 43, ground := Ground.data }], guard := none }) rfl (by kernel_rfl) (by kernel_rfl) (by kernel_rfl) (by kernel_rfl) rfl (fun _ _ _ h => h) (Or.inl ⟨by rfl, ?_⟩) (HS.out _ (g9.trans (hb10.mono g9.size))) ?_
    rotate_left
    · intro W hSW
      go_simp
      try with_reducible rfl
    simp only [Act.put, List.setIfInBounds_toArray, List.set_cons_zero, List.set_cons_succ]
    refine wpAnyL_take' (i := 45) (v := ?_) (oi := { dst := some 75, op := Op.move (Operand.tmp 74), type := 4, pos := "law.go:29", after := #[{ on := 44, ground := Ground.data }, { on := 40, ground := Ground.chain }], guard := none }) rfl (by kernel_rfl) (by kernel_rfl) (by kernel_rfl) (by kernel_rfl) rfl (fun _ _ _ h => h) (Or.inl ⟨by rfl, ?_⟩) (HS.out _ (g9.trans (hb10.mono g9.size))) ?_
    rotate_left
    · intro W hSW
      go_simp
      try with_reducible rfl
    simp only [Act.put, List.setIfInBounds_toArray, List.set_cons_zero, List.set_cons_succ]
    refine wpAnyL_take' (i := 46) (v := ?_) (oi := { dst := some 76, op := Op.load 24 (Operand.tmp 3), type := 24, pos := "law.go:29", after := #[{ on := 45, ground := Ground.guard }], guard := some (45, true) }) rfl (by kernel_rfl) (by kernel_rfl) (by kernel_rfl) (by kernel_rfl) rfl (fun _ _ _ h => h) (Or.inl ⟨by rfl, ?_⟩) (HS.out _ (g9.trans (hb10.mono g9.size))) ?_
    rotate_left
    · intro W hSW
      go_simp
      try with_reducible rfl
    simp only [Act.put, List.setIfInBounds_toArray, List.set_cons_zero, List.set_cons_succ]
    refine wpAnyL_take' (i := 48) (v := ?_) (oi := { dst := some 78, op := Op.load 24 (Operand.tmp 3), type := 24, pos := "law.go:29", after := #[{ on := 45, ground := Ground.guard }], guard := some (45, true) }) rfl (by kernel_rfl) (by kernel_rfl) (by kernel_rfl) (by kernel_rfl) rfl (fun _ _ _ h => h) (Or.inl ⟨by rfl, ?_⟩) (HS.out _ (g9.trans (hb10.mono g9.size))) ?_
    rotate_left
    · intro W hSW
      go_simp
      try with_reducible rfl
    simp only [Act.put, List.setIfInBounds_toArray, List.set_cons_zero, List.set_cons_succ]
    refine wpAnyL_one' (i := 47) (o := { dst := some 77, op := Op.call { callee := Callee.value (Operand.func 22), args := #[Operand.tmp 76], argTypes := #[24] }, type := 4, pos := "law.go:29", after := #[{ on := 46, ground := Ground.data }, { on := 45, ground := Ground.chain }, { on := 45, ground := Ground.guard }], guard := some (45, true) }) (by kernel_rfl) rfl rfl (fun K hK => ?_)
    go_simp
    refine (HWR.out _ g10).mono ?_
    rintro e x11 ⟨rfl, hb11⟩
    refine hK.out _ _ (fun _ => (HS.out _ (g10.trans (hb11.mono g10.size)))) ?_
    clear hK
    have g11 : Below w4.heap.size w4 x11 := (g10.trans (hb11.mono g10.size))
    refine wpAnyL_one' (i := 49) (o := { dst := some 79, op := Op.call { callee := Callee.value (Operand.func 23), args := #[Operand.tmp 78], argTypes := #[24] }, type := 4, pos := "law.go:29", after := #[{ on := 48, ground := Ground.data }, { on := 47, ground := Ground.chain }, { on := 45, ground := Ground.guard }], guard := some (45, true) }) (by kernel_rfl) rfl rfl (fun K hK => ?_)
    go_simp
    refine (HRW.out _ g11).mono ?_
    rintro e x12 ⟨rfl, hb12⟩
    refine hK.out _ _ (fun _ => (HS.out _ (g11.trans (hb12.mono g11.size)))) ?_
    clear hK
    have g12 : Below w4.heap.size w4 x12 := (g11.trans (hb12.mono g11.size))
    refine wpAnyL_take' (i := 50) (v := ?_) (oi := { dst := some 80, op := Op.binOp BinOp.eql 4 (Operand.tmp 77) (Operand.tmp 79) 4, type := 4, pos := "law.go:29", after := #[{ on := 47, ground := Ground.data }, { on := 49, ground := Ground.data }, { on := 45, ground := Ground.guard }], guard := some (45, true) }) rfl (by kernel_rfl) (by kernel_rfl) (by kernel_rfl) (by kernel_rfl) rfl (fun _ _ _ h => h) (Or.inl ⟨by rfl, ?_⟩) (HS.out _ (g11.trans (hb12.mono g11.size))) ?_
    rotate_left
    · intro W hSW
      go_simp
      try with_reducible rfl
    simp only [Act.put, List.setIfInBounds_toArray, List.set_cons_zero, List.set_cons_succ]
    refine wpAnyL_take' (i := 51) (v := ?_) (oi := { dst := some 81, op := Op.pick (Operand.tmp 75) (Operand.tmp 80) (Operand.const (Value.bool false)), type := 4, pos := "law.go:29", after := #[{ on := 45, ground := Ground.data }, { on := 50, ground := Ground.data }], guard := none }) rfl (by kernel_rfl) (by kernel_rfl) (by kernel_rfl) (by kernel_rfl) rfl (fun _ _ _ h => h) (Or.inl ⟨by rfl, ?_⟩) (HS.out _ (g11.trans (hb12.mono g11.size))) ?_
    rotate_left
    · intro W hSW
      go_simp
      try with_reducible rfl
    simp only [Act.put, List.setIfInBounds_toArray, List.set_cons_zero, List.set_cons_succ]
    refine wpAnyL_take' (i := 52) (v := ?_) (oi := { dst := some 82, op := Op.move (Operand.tmp 81), type := 4, pos := "law.go:29", after := #[{ on := 51, ground := Ground.data }, { on := 49, ground := Ground.chain }], guard := none }) rfl (by kernel_rfl) (by kernel_rfl) (by kernel_rfl) (by kernel_rfl) rfl (fun _ _ _ h => h) (Or.inl ⟨by rfl, ?_⟩) (HS.out _ (g11.trans (hb12.mono g11.size))) ?_
    rotate_left
    · intro W hSW
      go_simp
      try with_reducible rfl
    simp only [Act.put, List.setIfInBounds_toArray, List.set_cons_zero, List.set_cons_succ]
    refine wpAnyL_one' (i := 53) (o := { dst := some 83, op := Op.call { callee := Callee.value (Operand.func 10), args := #[], argTypes := #[] }, type := 4, pos := "law.go:29", after := #[{ on := 52, ground := Ground.chain }, { on := 52, ground := Ground.guard }], guard := some (52, true) }) (by kernel_rfl) rfl rfl (fun K hK => ?_)
    go_simp
    refine (HAW.out _).mono ?_
    rintro e x13 ⟨rfl, hb13⟩
    refine hK.out _ _ (fun _ => (HS.out _ (g12.trans (hb13.mono g12.size)))) ?_
    clear hK
    have g13 : Below w4.heap.size w4 x13 := (g12.trans (hb13.mono g12.size))
    refine wpAnyL_take' (i := 54) (v := ?_) (oi := { dst := some 84, op := Op.pick (Operand.tmp 82) (Operand.tmp 83) (Operand.const (Value.bool false)), type := 4, pos := "law.go:29", after := #[{ on := 52, ground := Ground.data }, { on := 53, ground := Ground.data }], guard := none }) rfl (by kernel_rfl) (by kernel_rfl) (by kernel_rfl) (by kernel_rfl) rfl (fun _ _ _ h => h) (Or.inl ⟨by rfl, ?_⟩) (HS.out _ (g12.trans (hb13.mono g12.size))) ?_
    rotate_left
    · intro W hSW
      go_simp
      try with_reducible rfl
    simp only [Act.put, List.setIfInBounds_toArray, List.set_cons_zero, List.set_cons_succ]
    refine wpAnyL_take' (i := 55) (v := ?_) (oi := { dst := some 6, op := Op.assign (Operand.tmp 84), type := 4, pos := "law.go:29", after := #[{ on := 54, ground := Ground.data }, { on := 53, ground := Ground.chain }, { on := 0, ground := Ground.phase }, { on := 1, ground := Ground.phase }, { on := 2, ground := Ground.phase }, { on := 3, ground := Ground.phase }, { on := 4, ground := Ground.phase }, { on := 5, ground := Ground.phase }, { on := 6, ground := Ground.phase }, { on := 7, ground := Ground.phase }, { on := 8, ground := Ground.phase }, { on := 9, ground := Ground.phase }, { on := 10, ground := Ground.phase }, { on := 11, ground := Ground.phase }, { on := 12, ground := Ground.phase }, { on := 13, ground := Ground.phase }, { on := 14, ground := Ground.phase }, { on := 15, ground := Ground.phase }, { on := 16, ground := Ground.phase }, { on := 17, ground := Ground.phase }, { on := 18, ground := Ground.phase }, { on := 19, ground := Ground.phase }, { on := 20, ground := Ground.phase }, { on := 21, ground := Ground.phase }, { on := 22, ground := Ground.phase }, { on := 23, ground := Ground.phase }, { on := 24, ground := Ground.phase }, { on := 25, ground := Ground.phase }, { on := 26, ground := Ground.phase }, { on := 27, ground := Ground.phase }, { on := 28, ground := Ground.phase }, { on := 29, ground := Ground.phase }, { on := 30, ground := Ground.phase }, { on := 31, ground := Ground.phase }, { on := 32, ground := Ground.phase }, { on := 33, ground := Ground.phase }, { on := 34, ground := Ground.phase }, { on := 35, ground := Ground.phase }, { on := 36, ground := Ground.phase }, { on := 37, ground := Ground.phase }, { on := 38, ground := Ground.phase }, { on := 39, ground := Ground.phase }, { on := 40, ground := Ground.phase }, { on := 41, ground := Ground.phase }, { on := 42, ground := Ground.phase }, { on := 43, ground := Ground.phase }, { on := 44, ground := Ground.phase }, { on := 45, ground := Ground.phase }, { on := 46, ground := Ground.phase }, { on := 47, ground := Ground.phase }, { on := 48, ground := Ground.phase }, { on := 49, ground := Ground.phase }, { on := 50, ground := Ground.phase }, { on := 51, ground := Ground.phase }, { on := 52, ground := Ground.phase }, { on := 53, ground := Ground.phase }, { on := 54, ground := Ground.phase }], guard := none }) rfl (by kernel_rfl) (by kernel_rfl) (by kernel_rfl) (by kernel_rfl) rfl (fun _ _ _ h => h) (Or.inl ⟨by rfl, ?_⟩) (HS.out _ (g12.trans (hb13.mono g12.size))) ?_
    rotate_left
    · intro W hSW
      go_simp
      try with_reducible rfl
    simp only [Act.put, List.setIfInBounds_toArray, List.set_cons_zero, List.set_cons_succ]
    refine wpAnyL_done (by kernel_rfl) ?_ _
    go_wp2_with fail
    go_ret
    exact ⟨rfl, HBX.out _ g13⟩
end Go.Proofs.Ythmpnhjlblcgdaa
