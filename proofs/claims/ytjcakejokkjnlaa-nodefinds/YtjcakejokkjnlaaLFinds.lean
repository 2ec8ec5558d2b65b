/- The law NodeFinds. -/
import Derived.Test.YtjcakejokkjnlaaLAwake
import Derived.Test.YtjcakejokkjnlaaAtEx
import Derived.Test.YtjcakejokkjnlaaRFind
import Derived.Test.YtjcakejokkjnlaaRAt
import Derived.Test.YtjcakejokkjnlaaRMove
namespace Go.Proofs.Ytjcakejokkjnlaa
open Go.RowKit

set_option maxRecDepth 100000 in
set_option maxHeartbeats 8000000 in
theorem finds_any {A : Nat → Prop} (n : Nat) (t0 : Nd) (v : Value) (f t : Int) (pp : List Int) (pa : Option Addr) (pc : Nat) (d : Int) (w : World) (h : TAt A n t0 v w) (hp0 : RowI pp pa w) (hpl : pp.length ≤ 140737488351232) :
    Calls Try.prog 4 #[v, .int .i64 f, .int .i64 t, .slice pa pp.length pc, .int .i64 d] w fun e w' => e = .returned (.bool true) ∧ Below w.heap.size w w' := by
  have hlt := fun W (hb : Below w.heap.size w W) => light_any n t0 v W (h.next hb)
  have HAW : Hid (∀ W, Calls Try.prog 10 #[] W fun e w' => e = .returned (.bool true) ∧ Below W.heap.size W w') := awake_any
  have HH : Hid (∀ W, Below w.heap.size w W → TAt A n t0 v W) := fun W hb => h.next hb
  have HPP : Hid (∀ W, Below w.heap.size w W → RowI pp pa W) := fun W hb => hp0.next hb
  obtain ⟨ba, bc, rfl, _⟩ := h.val
  clear h hp0
  have HLB : Hid (lightB t0 = decide (cntN t0 ≤ 5000)) := rfl
  generalize lightB t0 = LB at *
  obtain ⟨hd, hhd⟩ : ∃ hd, t0.h = hd := ⟨_, rfl⟩
  obtain ⟨kl, hkl⟩ : ∃ kl, t0.kids.length = kl := ⟨_, rfl⟩
  rw [hhd, hkl] at HH hlt
  rw [hhd, hkl]
  clear hhd hkl
  obtain ⟨zk, zn, zf, zr, zt, zb⟩ := hd
  have hB0 : Below w.heap.size w (w.alloc (Obj.cells #[Value.string zk, Value.bool zn, Value.string zf, Value.int IntKind.i64 zr, Value.int IntKind.i64 zt, Value.int IntKind.i64 zb, Value.slice ba kl bc] 24)) := (Below.refl _ _).alloc (Nat.le_refl _) _
  have hz : w.heap.size < (w.alloc (Obj.cells #[Value.string zk, Value.bool zn, Value.string zf, Value.int IntKind.i64 zr, Value.int IntKind.i64 zt, Value.int IntKind.i64 zb, Value.slice ba kl bc] 24)).heap.size := by simp
  have r7 : Row7 w.heap.size 0 ⟨zk, zn, zf, zr, zt, zb⟩ (.slice ba kl bc) (w.alloc (Obj.cells #[Value.string zk, Value.bool zn, Value.string zf, Value.int IntKind.i64 zr, Value.int IntKind.i64 zt, Value.int IntKind.i64 zb, Value.slice ba kl bc] 24)) := by refine ⟨?_, ?_, ?_, ?_, ?_, ?_, ?_⟩ <;> simp
  have hlt1 := hlt _ hB0
  clear hlt
  unfold ndV at hlt1 ⊢
  simp only at hlt1 ⊢
  go_enter Try.func4, Try.ntmps4
  cases LB with
  | false =>
    go_wp2_with fail
    refine hlt1.mono ?_
    rintro e w1 ⟨rfl, hb1⟩
    have haw := HAW.out w1
    go_wp2_with (go_at_call 10; refine haw.mono ?_; rintro e w2 ⟨rfl, hb2⟩)
    go_ret
    exact ⟨rfl, below_next (below_next hB0 hb1) hb2⟩
  | true =>
    go_wp2_with fail
    refine hlt1.mono ?_
    rintro e w1 ⟨rfl, hb1⟩
    have hBB1 : Below w.heap.size w w1 := below_next hB0 hb1
    have hcn : cntN t0 ≤ 5000 := of_decide_eq_true HLB.out.symm
    have HR : Hid (∀ W, Below w1.heap.size w1 W → Row7 w.heap.size 0 ⟨zk, zn, zf, zr, zt, zb⟩ (.slice ba kl bc) W) := fun W hb => (r7.but (D := fun _ => False) (But.of_next hb1) hz (fun h => h)).but (D := fun _ => False) (But.of_next hb) (Nat.lt_of_lt_of_le hz hb1.size) (fun h => h)
    obtain ⟨r0, r1, r2, r3, r4, r5, r6⟩ := HR.out w1 (Below.refl _ _)
    simp only [Nat.zero_add] at r1 r2 r3 r4 r5 r6
    have hfi := find_any n t0 _ pp pa pc w1 (HH.out w1 hBB1) hcn (HPP.out w1 hBB1) hpl
    have HRF : Hid (∀ W, Below w.heap.size w W → Calls Try.prog 25 #[ndV ⟨zk, zn, zf, zr, zt, zb⟩ (.slice ba kl bc), .slice pa pp.length pc] W fun e w' => (∃ m v', e = .returned (.tuple #[v', .bool (findN t0 pp).isSome]) ∧ TAt (fun _ => True) m ((findN t0 pp).getD zeroN) v' w') ∧ Below W.heap.size W w') := fun W hb => rfind_any n t0 _ pp pa pc W (HH.out W hb) hcn (HPP.out W hb) hpl
    have HCN : Hid (cntN t0 ≤ 5000) := hcn
    generalize (findN t0 pp).isSome = FB at *
    generalize (findN t0 pp).getD zeroN = y at *
    unfold ndV at hfi HRF
    simp only at hfi HRF
    clear hlt1 r7 HLB hz hcn HPP
    go_wp2_with fail
    refine hfi.mono ?_
    rintro e w2 ⟨⟨m2, v2, rfl, hT2⟩, hb2⟩
    obtain ⟨ua, uc, hv2, _⟩ := hT2.val
    subst hv2
    obtain ⟨⟨uk, un, uf, ur, ut, ub⟩, yk⟩ := y
    simp only [Nd.h, Nd.kids] at *
    generalize hul : yk.length = ul at *
    have hB12 := hb2
    have hbz : Below w2.heap.size w2 (w2.alloc (Obj.cells #[Value.string uk, Value.bool un, Value.string uf, Value.int IntKind.i64 ur, Value.int IntKind.i64 ut, Value.int IntKind.i64 ub, Value.slice ua ul uc] 24)) := (Below.refl _ _).alloc (Nat.le_refl _) _
    have k7 : Row7 w2.heap.size 0 ⟨uk, un, uf, ur, ut, ub⟩ (.slice ua ul uc) (w2.alloc (Obj.cells #[Value.string uk, Value.bool un, Value.string uf, Value.int IntKind.i64 ur, Value.int IntKind.i64 ut, Value.int IntKind.i64 ub, Value.slice ua ul uc] 24)) := by refine ⟨?_, ?_, ?_, ?_, ?_, ?_, ?_⟩ <;> simp
    have hkz : w2.heap.size < (w2.alloc (Obj.cells #[Value.string uk, Value.bool un, Value.string uf, Value.int IntKind.i64 ur, Value.int IntKind.i64 ut, Value.int IntKind.i64 ub, Value.slice ua ul uc] 24)).heap.size := by simp
    have hB13 : Below w1.heap.size w1 (w2.alloc (Obj.cells #[Value.string uk, Value.bool un, Value.string uf, Value.int IntKind.i64 ur, Value.int IntKind.i64 ut, Value.int IntKind.i64 ub, Value.slice ua ul uc] 24)) := hb2.trans (hbz.mono hb2.size)
    have hB03 : Below w.heap.size w (w2.alloc (Obj.cells #[Value.string uk, Value.bool un, Value.string uf, Value.int IntKind.i64 ur, Value.int IntKind.i64 ut, Value.int IntKind.i64 ub, Value.slice ua ul uc] 24)) := below_next hBB1 hB13
    have HT2 : Hid (TAt (fun k => w1.heap.size ≤ k) m2 (.mk ⟨uk, un, uf, ur, ut, ub⟩ yk) (ndV ⟨uk, un, uf, ur, ut, ub⟩ (.slice ua ul uc)) (w2.alloc (Obj.cells #[Value.string uk, Value.bool un, Value.string uf, Value.int IntKind.i64 ur, Value.int IntKind.i64 ut, Value.int IntKind.i64 ub, Value.slice ua ul uc] 24))) := hT2.next hbz
    obtain ⟨s0, s1, s2, s3, s4, s5, s6⟩ := HR.out _ hB13
    simp only [Nat.zero_add] at s1 s2 s3 s4 s5 s6
    have hrf := HRF.out _ hB03
    clear hfi hT2 r0 r1 r2 r3 r4 r5 r6 HRF hB12
    unfold ndV
    simp only
    go_wp2_with fail
    refine hrf.mono ?_
    generalize w2.alloc (Obj.cells #[Value.string uk, Value.bool un, Value.string uf, Value.int IntKind.i64 ur, Value.int IntKind.i64 ut, Value.int IntKind.i64 ub, Value.slice ua ul uc] 24) = w3 at *
    obtain ⟨K1, HK1⟩ : ∃ K1, Hid (w2.heap.size = K1) := ⟨_, rfl⟩
    rw [HK1.out] at k7 hkz ⊢
    rintro e w3b ⟨⟨m3, v3, rfl, hT3⟩, hb3⟩
    obtain ⟨va, vc, hv3, _⟩ := hT3.val
    simp only [Nd.h, Nd.kids] at hv3
    rw [hul] at hv3
    subst hv3
    have HT3 := hT3
    unfold ndV
    simp only
    clear hrf s0 s1 s2 s3 s4 s5 s6
    go_wp2_with fail
    obtain ⟨vl, hvl⟩ : ∃ vl : Nat, Hid (vl = ul) := ⟨_, rfl⟩
    have hby : Below w3b.heap.size w3b (w3b.alloc (Obj.cells #[Value.string uk, Value.bool un, Value.string uf, Value.int IntKind.i64 ur, Value.int IntKind.i64 ut, Value.int IntKind.i64 ub, Value.slice va ul vc] 24)) := (Below.refl _ _).alloc (Nat.le_refl _) _
    have l7 : Row7 w3b.heap.size 0 ⟨uk, un, uf, ur, ut, ub⟩ (.slice va ul vc) (w3b.alloc (Obj.cells #[Value.string uk, Value.bool un, Value.string uf, Value.int IntKind.i64 ur, Value.int IntKind.i64 ut, Value.int IntKind.i64 ub, Value.slice va ul vc] 24)) := by refine ⟨?_, ?_, ?_, ?_, ?_, ?_, ?_⟩ <;> simp
    have hlz : w3b.heap.size < (w3b.alloc (Obj.cells #[Value.string uk, Value.bool un, Value.string uf, Value.int IntKind.i64 ur, Value.int IntKind.i64 ut, Value.int IntKind.i64 ub, Value.slice va ul vc] 24)).heap.size := by simp
    have hB34 : Below w3.heap.size w3 (w3b.alloc (Obj.cells #[Value.string uk, Value.bool un, Value.string uf, Value.int IntKind.i64 ur, Value.int IntKind.i64 ut, Value.int IntKind.i64 ub, Value.slice va ul vc] 24)) := hb3.trans (hby.mono hb3.size)
    have hT3n := hT3.next hby
    generalize w3b.alloc (Obj.cells #[Value.string uk, Value.bool un, Value.string uf, Value.int IntKind.i64 ur, Value.int IntKind.i64 ut, Value.int IntKind.i64 ub, Value.slice va ul vc] 24) = w4 at *
    obtain ⟨K2, HK2⟩ : ∃ K2, Hid (w3b.heap.size = K2) := ⟨_, rfl⟩
    rw [HK2.out] at l7 hlz ⊢
    have hB14 : Below w1.heap.size w1 w4 := hB13.trans (hB34.mono hB13.size)
    have hB04 : Below w.heap.size w w4 := below_next hBB1 hB14
    have HS : Hid (∀ W, Below w4.heap.size w4 W → ((W.cell? ⟨w.heap.size, 0, none⟩ = some (.string zk) ∧ W.cell? ⟨w.heap.size, 1, none⟩ = some (.bool zn) ∧ W.cell? ⟨w.heap.size, 2, none⟩ = some (.string zf) ∧ W.cell? ⟨w.heap.size, 3, none⟩ = some (.int .i64 zr) ∧ W.cell? ⟨w.heap.size, 4, none⟩ = some (.int .i64 zt) ∧ W.cell? ⟨w.heap.size, 5, none⟩ = some (.int .i64 zb) ∧ W.cell? ⟨w.heap.size, 6, none⟩ = some (.slice ba kl bc)) ∧ (W.cell? ⟨K1, 0, none⟩ = some (.string uk) ∧ W.cell? ⟨K1, 1, none⟩ = some (.bool un) ∧ W.cell? ⟨K1, 2, none⟩ = some (.string uf) ∧ W.cell? ⟨K1, 3, none⟩ = some (.int .i64 ur) ∧ W.cell? ⟨K1, 4, none⟩ = some (.int .i64 ut) ∧ W.cell? ⟨K1, 5, none⟩ = some (.int .i64 ub) ∧ W.cell? ⟨K1, 6, none⟩ = some (.slice ua ul uc)) ∧ (W.cell? ⟨K2, 0, none⟩ = some (.string uk) ∧ W.cell? ⟨K2, 1, none⟩ = some (.bool un) ∧ W.cell? ⟨K2, 2, none⟩ = some (.string uf) ∧ W.cell? ⟨K2, 3, none⟩ = some (.int .i64 ur) ∧ W.cell? ⟨K2, 4, none⟩ = some (.int .i64 ut) ∧ W.cell? ⟨K2, 5, none⟩ = some (.int .i64 ub) ∧ W.cell? ⟨K2, 6, none⟩ = some (.slice va ul vc)))) := fun W hb => by
      obtain ⟨q0, q1, q2, q3, q4, q5, q6⟩ := HR.out W (hB14.trans (hb.mono hB14.size))
      obtain ⟨p0, p1, p2, p3, p4, p5, p6⟩ := k7.but (D := fun _ => False) (But.of_next (hB34.trans (hb.mono hB34.size))) hkz (fun h => h)
      obtain ⟨o0, o1, o2, o3, o4, o5, o6⟩ := l7.but (D := fun _ => False) (But.of_next hb) hlz (fun h => h)
      simp only [Nat.zero_add] at q1 q2 q3 q4 q5 q6 p1 p2 p3 p4 p5 p6 o1 o2 o3 o4 o5 o6
      exact ⟨⟨q0, q1, q2, q3, q4, q5, q6⟩, ⟨p0, p1, p2, p3, p4, p5, p6⟩, o0, o1, o2, o3, o4, o5, o6⟩
    have hcn := HCN.out
    have HB4 : Hid (∀ W, Below w4.heap.size w4 W → Below w.heap.size w W) := fun W hb => below_next hB04 hb
    have HAT : Hid (∀ W, Below w4.heap.size w4 W → Calls Try.prog 27 #[ndV ⟨zk, zn, zf, zr, zt, zb⟩ (.slice ba kl bc), .int .i64 f, .int .i64 t] W fun e w' => (∃ p pa2 pc2, e = .returned (.slice pa2 (List.length p) pc2) ∧ (RowI p pa2 w' ∧ p.length ≤ 5000 ∧ ((hasB t0.h f t = true ∧ AtP f t t0 p) ∨ (hasB t0.h f t = false ∧ p = [])))) ∧ Below W.heap.size W w') := fun W hb => (at_any n t0 _ f t W (HH.out W (HB4.out W hb)) hcn).mono fun e w' ⟨⟨p, pv, e1, e2, e3⟩, e4⟩ => by
      obtain ⟨ao, cap, e5, e6⟩ := RowI.of_own e2
      subst e5
      refine ⟨⟨p, ao, cap, e1, e6, ?_, e3⟩, e4⟩
      rcases e3 with ⟨_, e3⟩ | ⟨_, rfl⟩
      · have := atP_len e3; omega
      · simp
    have HRA : Hid (∀ W p, Below w4.heap.size w4 W → ((hasB t0.h f t = true ∧ AtP f t t0 p) ∨ (hasB t0.h f t = false ∧ p = [])) → Calls Try.prog 28 #[ndV ⟨zk, zn, zf, zr, zt, zb⟩ (.slice ba kl bc), .int .i64 f, .int .i64 t] W fun e w' => (∃ pa3 pc3, e = .returned (.slice pa3 (List.length p) pc3) ∧ RowI p pa3 w') ∧ Below W.heap.size W w') := fun W p hb hd => (rat_any n t0 _ f t W (HH.out W (HB4.out W hb)) hcn).mono fun e w' ⟨⟨q, pv, e1, e2, _, e3⟩, e4⟩ => by
      have hqp : q = p := by
        rcases e3 with ⟨e3, e5⟩ | ⟨e3, e5⟩
        · rcases hd with ⟨_, d2⟩ | ⟨d1, _⟩
          · exact e5.uniq d2
          · rw [e3] at d1; cases d1
        · rcases hd with ⟨d1, _⟩ | ⟨_, d2⟩
          · rw [e3] at d1; cases d1
          · rw [e5, d2]
      subst hqp
      obtain ⟨ao, cap, e5, e6⟩ := RowI.of_own e2
      subst e5
      exact ⟨⟨ao, cap, e1, e6⟩, e4⟩
    have HIN : Hid (∀ W p pa2 pa3 pc2 pc3, RowI p pa2 W → RowI p pa3 W → p.length ≤ 5000 → Calls Try.prog 26 #[.slice pa2 p.length pc2, .slice pa3 p.length pc3] W fun e w' => e = .returned (.bool true) ∧ Below W.heap.size W w') := fun W p pa2 pa3 pc2 pc3 h1 h2 h3 => by
      have := ints_any p p pa2 pa3 pc2 pc3 W h1 h2 (by omega) (by omega)
      rw [decide_eq_true rfl] at this
      exact this
    have HSM : Hid (∀ W, Below w4.heap.size w4 W → Calls Try.prog 16 #[ndV ⟨uk, un, uf, ur, ut, ub⟩ (.slice ua ul uc), ndV ⟨uk, un, uf, ur, ut, ub⟩ (.slice va ul vc)] W fun e w' => e = .returned (.bool true) ∧ Below W.heap.size W w') := fun W hb => by
      have := rsame_any m2 m3 (.mk ⟨uk, un, uf, ur, ut, ub⟩ yk) (.mk ⟨uk, un, uf, ur, ut, ub⟩ yk) _ _ W (HT2.out.next (hB34.trans (hb.mono hB34.size))) (hT3n.next hb)
      rw [eqN_refl] at this
      exact this
    have HMV : Hid (∀ W, Below w4.heap.size w4 W → Calls Try.prog 29 #[ndV ⟨zk, zn, zf, zr, zt, zb⟩ (.slice ba kl bc), .int .i64 d] W fun e w' => ∃ m v', e = .returned v' ∧ TAt (fun k => W.heap.size ≤ k) m (moveN t0 d) v' w' ∧ Below W.heap.size W w') := fun W hb => move_any n t0 _ d W (HH.out W (HB4.out W hb)) hcn
    have HRM : Hid (∀ W, Below w4.heap.size w4 W → Calls Try.prog 30 #[ndV ⟨zk, zn, zf, zr, zt, zb⟩ (.slice ba kl bc), .int .i64 d] W fun e w' => ∃ m v', e = .returned v' ∧ TAt (fun k => W.heap.size ≤ k) m (moveN t0 d) v' w' ∧ Below W.heap.size W w') := fun W hb => rmove_any n t0 _ d W (HH.out W (HB4.out W hb)) (by omega)
    have HSN : Hid (∀ W m5 m6 v5 v6 B5 B6, Below w4.heap.size w4 W → TAt (fun k => B5 ≤ k) m5 (moveN t0 d) v5 W → TAt (fun k => B6 ≤ k) m6 (moveN t0 d) v6 W → Calls Try.prog 16 #[v5, v6] W fun e w' => e = .returned (.bool true) ∧ Below W.heap.size W w') := fun W m5 m6 v5 v6 B5 B6 _ h1 h2 => by
      have := rsame_any m5 m6 (moveN t0 d) (moveN t0 d) v5 v6 W h1 h2
      rw [eqN_refl] at this
      exact this
    clear HR HCN hcn HB4 HH HT2 hT3n HT3 hT3 k7 l7 hkz hlz hby hbz hB34 hB13 hB03 hB14 hvl
    unfold ndV at HAT HRA HSM HMV HRM
    simp only at HAT HRA HSM HMV HRM
    go_wp2_with fail
    refine wp_region_L (fun W => (W.cell? ⟨w.heap.size, 0, none⟩ = some (.string zk) ∧ W.cell? ⟨w.heap.size, 1, none⟩ = some (.bool zn) ∧ W.cell? ⟨w.heap.size, 2, none⟩ = some (.string zf) ∧ W.cell? ⟨w.heap.size, 3, none⟩ = some (.int .i64 zr) ∧ W.cell? ⟨w.heap.size, 4, none⟩ = some (.int .i64 zt) ∧ W.cell? ⟨w.heap.size, 5, none⟩ = some (.int .i64 zb) ∧ W.cell? ⟨w.heap.size, 6, none⟩ = some (.slice ba kl bc)) ∧ (W.cell? ⟨K1, 0, none⟩ = some (.string uk) ∧ W.cell? ⟨K1, 1, none⟩ = some (.bool un) ∧ W.cell? ⟨K1, 2, none⟩ = some (.string uf) ∧ W.cell? ⟨K1, 3, none⟩ = some (.int .i64 ur) ∧ W.cell? ⟨K1, 4, none⟩ = some (.int .i64 ut) ∧ W.cell? ⟨K1, 5, none⟩ = some (.int .i64 ub) ∧ W.cell? ⟨K1, 6, none⟩ = some (.slice ua ul uc)) ∧ (W.cell? ⟨K2, 0, none⟩ = some (.string uk) ∧ W.cell? ⟨K2, 1, none⟩ = some (.bool un) ∧ W.cell? ⟨K2, 2, none⟩ = some (.string uf) ∧ W.cell? ⟨K2, 3, none⟩ = some (.int .i64 ur) ∧ W.cell? ⟨K2, 4, none⟩ = some (.int .i64 ut) ∧ W.cell? ⟨K2, 5, none⟩ = some (.int .i64 ub) ∧ W.cell? ⟨K2, 6, none⟩ = some (.slice va ul vc))) 32 (by kernel_rfl) 32 rfl ?_
    refine wpAnyL_take' (i := 0) (v := ?_) (oi := { dst := some 31, op := Op.load 24 (Operand.tmp 5), type := 24, pos := "law.go:39", after := #[], guard := none }) rfl (by kernel_rfl) (by kernel_rfl) (by kernel_rfl) (by kernel_rfl) rfl (fun _ _ _ h => h) (Or.inl ⟨by rfl, ?_⟩) (HS.out _ (Below.refl _ _).drew) ?_
    rotate_left
    · intro W hSW
      go_simp
      try with_reducible rfl
    simp only [Act.put, List.setIfInBounds_toArray, List.set_cons_zero, List.set_cons_succ]
    refine wpAnyL_take' (i := 1) (v := ?_) (oi := { dst := some 32, op := Op.move (Operand.tmp 1), type := 3, pos := "law.go:39", after := #[], guard := none }) rfl (by kernel_rfl) (by kernel_rfl) (by kernel_rfl) (by kernel_rfl) rfl (fun _ _ _ h => h) (Or.inl ⟨by rfl, ?_⟩) (HS.out _ (Below.refl _ _).drew) ?_
    rotate_left
    · intro W hSW
      go_simp
      try with_reducible rfl
    simp only [Act.put, List.setIfInBounds_toArray, List.set_cons_zero, List.set_cons_succ]
    refine wpAnyL_take' (i := 2) (v := ?_) (oi := { dst := some 33, op := Op.move (Operand.tmp 2), type := 3, pos := "law.go:39", after := #[], guard := none }) rfl (by kernel_rfl) (by kernel_rfl) (by kernel_rfl) (by kernel_rfl) rfl (fun _ _ _ h => h) (Or.inl ⟨by rfl, ?_⟩) (HS.out _ (Below.refl _ _).drew) ?_
    rotate_left
    · intro W hSW
      go_simp
      try with_reducible rfl
    simp only [Act.put, List.setIfInBounds_toArray, List.set_cons_zero, List.set_cons_succ]
    refine wpAnyL_take' (i := 4) (v := ?_) (oi := { dst := some 35, op := Op.load 24 (Operand.tmp 5), type := 24, pos := "law.go:39", after := #[], guard := none }) rfl (by kernel_rfl) (by kernel_rfl) (by kernel_rfl) (by kernel_rfl) rfl (fun _ _ _ h => h) (Or.inl ⟨by rfl, ?_⟩) (HS.out _ (Below.refl _ _).drew) ?_
    rotate_left
    · intro W hSW
      go_simp
      try with_reducible rfl
    simp only [Act.put, List.setIfInBounds_toArray, List.set_cons_zero, List.set_cons_succ]
    refine wpAnyL_take' (i := 5) (v := ?_) (oi := { dst := some 36, op := Op.move (Operand.tmp 1), type := 3, pos := "law.go:39", after := #[], guard := none }) rfl (by kernel_rfl) (by kernel_rfl) (by kernel_rfl) (by kernel_rfl) rfl (fun _ _ _ h => h) (Or.inl ⟨by rfl, ?_⟩) (HS.out _ (Below.refl _ _).drew) ?_
    rotate_left
    · intro W hSW
      go_simp
      try with_reducible rfl
    simp only [Act.put, List.setIfInBounds_toArray, List.set_cons_zero, List.set_cons_succ]
    refine wpAnyL_take' (i := 6) (v := ?_) (oi := { dst := some 37, op := Op.move (Operand.tmp 2), type := 3, pos := "law.go:39", after := #[], guard := none }) rfl (by kernel_rfl) (by kernel_rfl) (by kernel_rfl) (by kernel_rfl) rfl (fun _ _ _ h => h) (Or.inl ⟨by rfl, ?_⟩) (HS.out _ (Below.refl _ _).drew) ?_
    rotate_left
    · intro W hSW
      go_simp
      try with_reducible rfl
    simp only [Act.put, List.setIfInBounds_toArray, List.set_cons_zero, List.set_cons_succ]
    refine wpAnyL_one' (i := 3) (o := { dst := some 34, op := Op.call { callee := Callee.value (Operand.func 27), args := #[Operand.tmp 31, Operand.tmp 32, Operand.tmp 33], argTypes := #[24, 3, 3] }, type := 35, pos := "law.go:39", after := #[{ on := 0, ground := Ground.data }, { on := 1, ground := Ground.data }, { on := 2, ground := Ground.data }], guard := none }) (by kernel_rfl) rfl rfl (fun K hK => ?_)
    go_simp
    refine (HAT.out _ (Below.refl _ _).drew).mono ?_
    rintro e x1 ⟨⟨p, pa2, pc2, rfl, hp⟩, hb1⟩
    refine hK.out _ _ (fun _ => (HS.out _ ((Below.refl _ _).drew.trans hb1))) ?_
    clear hK
    have g1 : Below w4.heap.size w4 x1 := (Below.refl _ _).drew.trans hb1
    refine wpAnyL_one' (i := 7) (o := { dst := some 38, op := Op.call { callee := Callee.value (Operand.func 28), args := #[Operand.tmp 35, Operand.tmp 36, Operand.tmp 37], argTypes := #[24, 3, 3] }, type := 35, pos := "law.go:39", after := #[{ on := 4, ground := Ground.data }, { on := 5, ground := Ground.data }, { on := 6, ground := Ground.data }, { on := 3, ground := Ground.chain }], guard := none }) (by kernel_rfl) rfl rfl (fun K hK => ?_)
    go_simp
    refine (HRA.out _ p g1 hp.2.2).mono ?_
    rintro e x2 ⟨⟨pa3, pc3, rfl, hp3⟩, hb2⟩
    refine hK.out _ _ (fun _ => (HS.out _ (g1.trans (hb2.mono g1.size)))) ?_
    clear hK
    have g2 : Below w4.heap.size w4 x2 := g1.trans (hb2.mono g1.size)
    have hin := HIN.out x2 p pa2 pa3 pc2 pc3 (hp.1.next hb2) hp3 hp.2.1
    refine wpAnyL_one' (i := 8) (o := { dst := some 39, op := Op.call { callee := Callee.value (Operand.func 26), args := #[Operand.tmp 34, Operand.tmp 38], argTypes := #[35, 35] }, type := 4, pos := "law.go:39", after := #[{ on := 3, ground := Ground.data }, { on := 7, ground := Ground.data }, { on := 7, ground := Ground.chain }], guard := none }) (by kernel_rfl) rfl rfl (fun K hK => ?_)
    go_simp
    refine (hin).mono ?_
    rintro e x3 ⟨rfl, hb3⟩
    refine hK.out _ _ (fun _ => (HS.out _ (g2.trans (hb3.mono g2.size)))) ?_
    clear hK
    have g3 : Below w4.heap.size w4 x3 := g2.trans (hb3.mono g2.size)
    refine wpAnyL_take' (i := 9) (v := ?_) (oi := { dst := some 40, op := Op.move (Operand.tmp 39), type := 4, pos := "law.go:39", after := #[{ on := 8, ground := Ground.data }, { on := 8, ground := Ground.chain }], guard := none }) rfl (by kernel_rfl) (by kernel_rfl) (by kernel_rfl) (by kernel_rfl) rfl (fun _ _ _ h => h) (Or.inl ⟨by rfl, ?_⟩) (HS.out _ (g2.trans (hb3.mono g2.size))) ?_
    rotate_left
    · intro W hSW
      go_simp
      try with_reducible rfl
    simp only [Act.put, List.setIfInBounds_toArray, List.set_cons_zero, List.set_cons_succ]
    refine wpAnyL_take' (i := 10) (v := ?_) (oi := { dst := some 41, op := Op.load 24 (Operand.tmp 11), type := 24, pos := "law.go:39", after := #[{ on := 9, ground := Ground.guard }], guard := some (9, true) }) rfl (by kernel_rfl) (by kernel_rfl) (by kernel_rfl) (by kernel_rfl) rfl (fun _ _ _ h => h) (Or.inl ⟨by rfl, ?_⟩) (HS.out _ (g2.trans (hb3.mono g2.size))) ?_
    rotate_left
    · intro W hSW
      go_simp
      try with_reducible rfl
    simp only [Act.put, List.setIfInBounds_toArray, List.set_cons_zero, List.set_cons_succ]
    refine wpAnyL_take' (i := 11) (v := ?_) (oi := { dst := some 42, op := Op.load 24 (Operand.tmp 13), type := 24, pos := "law.go:39", after := #[{ on := 9, ground := Ground.guard }], guard := some (9, true) }) rfl (by kernel_rfl) (by kernel_rfl) (by kernel_rfl) (by kernel_rfl) rfl (fun _ _ _ h => h) (Or.inl ⟨by rfl, ?_⟩) (HS.out _ (g2.trans (hb3.mono g2.size))) ?_
    rotate_left
    · intro W hSW
      go_simp
      try with_reducible rfl
    simp only [Act.put, List.setIfInBounds_toArray, List.set_cons_zero, List.set_cons_succ]
    refine wpAnyL_one' (i := 12) (o := { dst := some 43, op := Op.call { callee := Callee.value (Operand.func 16), args := #[Operand.tmp 41, Operand.tmp 42], argTypes := #[24, 24] }, type := 4, pos := "law.go:39", after := #[{ on := 10, ground := Ground.data }, { on := 11, ground := Ground.data }, { on := 9, ground := Ground.chain }, { on := 9, ground := Ground.guard }], guard := some (9, true) }) (by kernel_rfl) rfl rfl (fun K hK => ?_)
    go_simp
    refine (HSM.out _ g3).mono ?_
    rintro e x4 ⟨rfl, hb4⟩
    refine hK.out _ _ (fun _ => (HS.out _ (g3.trans (hb4.mono g3.size)))) ?_
    clear hK
    have g4 : Below w4.heap.size w4 x4 := g3.trans (hb4.mono g3.size)
    refine wpAnyL_take' (i := 13) (v := ?_) (oi := { dst := some 44, op := Op.pick (Operand.tmp 40) (Operand.tmp 43) (Operand.const (Value.bool false)), type := 4, pos := "law.go:39", after := #[{ on := 9, ground := Ground.data }, { on := 12, ground := Ground.data }], guard := none }) rfl (by kernel_rfl) (by kernel_rfl) (by kernel_rfl) (by kernel_rfl) rfl (fun _ _ _ h => h) (Or.inl ⟨by rfl, ?_⟩) (HS.out _ (g3.trans (hb4.mono g3.size))) ?_
    rotate_left
    · intro W hSW
      go_simp
      try with_reducible rfl
    simp only [Act.put, List.setIfInBounds_toArray, List.set_cons_zero, List.set_cons_succ]
    refine wpAnyL_take' (i := 14) (v := ?_) (oi := { dst := some 45, op := Op.move (Operand.tmp 44), type := 4, pos := "law.go:39", after := #[{ on := 13, ground := Ground.data }, { on := 12, ground := Ground.chain }], guard := none }) rfl (by kernel_rfl) (by kernel_rfl) (by kernel_rfl) (by kernel_rfl) rfl (fun _ _ _ h => h) (Or.inl ⟨by rfl, ?_⟩) (HS.out _ (g3.trans (hb4.mono g3.size))) ?_
    rotate_left
    · intro W hSW
      go_simp
      try with_reducible rfl
    simp only [Act.put, List.setIfInBounds_toArray, List.set_cons_zero, List.set_cons_succ]
    refine wpAnyL_take' (i := 15) (v := ?_) (oi := { dst := some 46, op := Op.move (Operand.tmp 12), type := 4, pos := "law.go:39", after := #[{ on := 14, ground := Ground.guard }], guard := some (14, true) }) rfl (by kernel_rfl) (by kernel_rfl) (by kernel_rfl) (by kernel_rfl) rfl (fun _ _ _ h => h) (Or.inl ⟨by rfl, ?_⟩) (HS.out _ (g3.trans (hb4.mono g3.size))) ?_
    rotate_left
    · intro W hSW
      go_simp
      try with_reducible rfl
    simp only [Act.put, List.setIfInBounds_toArray, List.set_cons_zero, List.set_cons_succ]
    refine wpAnyL_take' (i := 16) (v := ?_) (oi := { dst := some 47, op := Op.move (Operand.tmp 14), type := 4, pos := "law.go:39", after := #[{ on := 14, ground := Ground.guard }], guard := some (14, true) }) rfl (by kernel_rfl) (by kernel_rfl) (by kernel_rfl) (by kernel_rfl) rfl (fun _ _ _ h => h) (Or.inl ⟨by rfl, ?_⟩) (HS.out _ (g3.trans (hb4.mono g3.size))) ?_
    rotate_left
    · intro W hSW
      go_simp
      try with_reducible rfl
    simp only [Act.put, List.setIfInBounds_toArray, List.set_cons_zero, List.set_cons_succ]
    refine wpAnyL_take' (i := 17) (v := ?_) (oi := { dst := some 48, op := Op.binOp BinOp.eql 4 (Operand.tmp 46) (Operand.tmp 47) 4, type := 4, pos := "law.go:39", after := #[{ on := 15, ground := Ground.data }, { on := 16, ground := Ground.data }, { on := 14, ground := Ground.guard }], guard := some (14, true) }) rfl (by kernel_rfl) (by kernel_rfl) (by kernel_rfl) (by kernel_rfl) rfl (fun _ _ _ h => h) (Or.inl ⟨by rfl, ?_⟩) (HS.out _ (g3.trans (hb4.mono g3.size))) ?_
    rotate_left
    · intro W hSW
      go_simp
      try with_reducible rfl
    simp only [Act.put, List.setIfInBounds_toArray, List.set_cons_zero, List.set_cons_succ]
    refine wpAnyL_take' (i := 18) (v := ?_) (oi := { dst := some 49, op := Op.pick (Operand.tmp 45) (Operand.tmp 48) (Operand.const (Value.bool false)), type := 4, pos := "law.go:39", after := #[{ on := 14, ground := Ground.data }, { on := 17, ground := Ground.data }], guard := none }) rfl (by kernel_rfl) (by kernel_rfl) (by kernel_rfl) (by kernel_rfl) rfl (fun _ _ _ h => h) (Or.inl ⟨by rfl, ?_⟩) (HS.out _ (g3.trans (hb4.mono g3.size))) ?_
    rotate_left
    · intro W hSW
      go_simp
      try with_reducible rfl
    simp only [Act.put, List.setIfInBounds_toArray, List.set_cons_zero, List.set_cons_succ]
    refine wpAnyL_take' (i := 19) (v := ?_) (oi := { dst := some 50, op := Op.move (Operand.tmp 49), type := 4, pos := "law.go:39", after := #[{ on := 18, ground := Ground.data }, { on := 14, ground := Ground.chain }], guard := none }) rfl (by kernel_rfl) (by kernel_rfl) (by kernel_rfl) (by kernel_rfl) rfl (fun _ _ _ h => h) (Or.inl ⟨by rfl, ?_⟩) (HS.out _ (g3.trans (hb4.mono g3.size))) ?_
    rotate_left
    · intro W hSW
      go_simp
      try with_reducible rfl
    simp only [Act.put, List.setIfInBounds_toArray, List.set_cons_zero, List.set_cons_succ]
    refine wpAnyL_take' (i := 20) (v := ?_) (oi := { dst := some 51, op := Op.load 24 (Operand.tmp 5), type := 24, pos := "law.go:39", after := #[{ on := 19, ground := Ground.guard }], guard := some (19, true) }) rfl (by kernel_rfl) (by kernel_rfl) (by kernel_rfl) (by kernel_rfl) rfl (fun _ _ _ h => h) (Or.inl ⟨by rfl, ?_⟩) (HS.out _ (g3.trans (hb4.mono g3.size))) ?_
    rotate_left
    · intro W hSW
      go_simp
      try with_reducible rfl
    simp only [Act.put, List.setIfInBounds_toArray, List.set_cons_zero, List.set_cons_succ]
    refine wpAnyL_take' (i := 21) (v := ?_) (oi := { dst := some 52, op := Op.move (Operand.tmp 4), type := 3, pos := "law.go:39", after := #[{ on := 19, ground := Ground.guard }], guard := some (19, true) }) rfl (by kernel_rfl) (by kernel_rfl) (by kernel_rfl) (by kernel_rfl) rfl (fun _ _ _ h => h) (Or.inl ⟨by rfl, ?_⟩) (HS.out _ (g3.trans (hb4.mono g3.size))) ?_
    rotate_left
    · intro W hSW
      go_simp
      try with_reducible rfl
    simp only [Act.put, List.setIfInBounds_toArray, List.set_cons_zero, List.set_cons_succ]
    refine wpAnyL_take' (i := 23) (v := ?_) (oi := { dst := some 54, op := Op.load 24 (Operand.tmp 5), type := 24, pos := "law.go:39", after := #[{ on := 19, ground := Ground.guard }], guard := some (19, true) }) rfl (by kernel_rfl) (by kernel_rfl) (by kernel_rfl) (by kernel_rfl) rfl (fun _ _ _ h => h) (Or.inl ⟨by rfl, ?_⟩) (HS.out _ (g3.trans (hb4.mono g3.size))) ?_
    rotate_left
    · intro W hSW
      go_simp
      try with_reducible rfl
    simp only [Act.put, List.setIfInBounds_toArray, List.set_cons_zero, List.set_cons_succ]
    refine wpAnyL_take' (i := 24) (v := ?_) (oi := { dst := some 55, op := Op.move (Operand.tmp 4), type := 3, pos := "law.go:39", after := #[{ on := 19, ground := Ground.guard }], guard := some (19, true) }) rfl (by kernel_rfl) (by kernel_rfl) (by kernel_rfl) (by kernel_rfl) rfl (fun _ _ _ h => h) (Or.inl ⟨by rfl, ?_⟩) (HS.out _ (g3.trans (hb4.mono g3.size))) ?_
    rotate_left
    · intro W hSW
      go_simp
      try with_reducible rfl
    simp only [Act.put, List.setIfInBounds_toArray, List.set_cons_zero, List.set_cons_succ]
    refine wpAnyL_one' (i := 22) (o := { dst := some 53, op := Op.call { callee := Callee.value (Operand.func 29), args := #[Operand.tmp 51, Operand.tmp 52], argTypes := #[24, 3] }, type := 24, pos := "law.go:39", after := #[{ on := 20, ground := Ground.data }, { on := 21, ground := Ground.data }, { on := 19, ground := Ground.chain }, { on := 19, ground := Ground.guard }], guard := some (19, true) }) (by kernel_rfl) rfl rfl (fun K hK => ?_)
    go_simp
    refine (HMV.out _ g4).mono ?_
    rintro e x5 ⟨m5, v5, rfl, hT5, hb5⟩
    refine hK.out _ _ (fun _ => (HS.out _ (g4.trans (hb5.mono g4.size)))) ?_
    clear hK
    have g5 : Below w4.heap.size w4 x5 := g4.trans (hb5.mono g4.size)
    refine wpAnyL_one' (i := 25) (o := { dst := some 56, op := Op.call { callee := Callee.value (Operand.func 30), args := #[Operand.tmp 54, Operand.tmp 55], argTypes := #[24, 3] }, type := 24, pos := "law.go:39", after := #[{ on := 23, ground := Ground.data }, { on := 24, ground := Ground.data }, { on := 22, ground := Ground.chain }, { on := 19, ground := Ground.guard }], guard := some (19, true) }) (by kernel_rfl) rfl rfl (fun K hK => ?_)
    go_simp
    refine (HRM.out _ g5).mono ?_
    rintro e x6 ⟨m6, v6, rfl, hT6, hb6⟩
    refine hK.out _ _ (fun _ => (HS.out _ (g5.trans (hb6.mono g5.size)))) ?_
    clear hK
    have g6 : Below w4.heap.size w4 x6 := g5.trans (hb6.mono g5.size)
    refine wpAnyL_one' (i := 26) (o := { dst := some 57, op := Op.call { callee := Callee.value (Operand.func 16), args := #[Operand.tmp 53, Operand.tmp 56], argTypes := #[24, 24] }, type := 4, pos := "law.go:39", after := #[{ on := 22, ground := Ground.data }, { on := 25, ground := Ground.data }, { on := 25, ground := Ground.chain }, { on := 19, ground := Ground.guard }], guard := some (19, true) }) (by kernel_rfl) rfl rfl (fun K hK => ?_)
    go_simp
    refine (HSN.out _ _ _ _ _ _ _ g6 (hT5.next hb6) hT6).mono ?_
    rintro e x7 ⟨rfl, hb7⟩
    refine hK.out _ _ (fun _ => (HS.out _ (g6.trans (hb7.mono g6.size)))) ?_
    clear hK
    have g7 : Below w4.heap.size w4 x7 := g6.trans (hb7.mono g6.size)
    refine wpAnyL_take' (i := 27) (v := ?_) (oi := { dst := some 58, op := Op.pick (Operand.tmp 50) (Operand.tmp 57) (Operand.const (Value.bool false)), type := 4, pos := "law.go:39", after := #[{ on := 19, ground := Ground.data }, { on := 26, ground := Ground.data }], guard := none }) rfl (by kernel_rfl) (by kernel_rfl) (by kernel_rfl) (by kernel_rfl) rfl (fun _ _ _ h => h) (Or.inl ⟨by rfl, ?_⟩) (HS.out _ (g6.trans (hb7.mono g6.size))) ?_
    rotate_left
    · intro W hSW
      go_simp
      try with_reducible rfl
    simp only [Act.put, List.setIfInBounds_toArray, List.set_cons_zero, List.set_cons_succ]
    refine wpAnyL_take' (i := 28) (v := ?_) (oi := { dst := some 59, op := Op.move (Operand.tmp 58), type := 4, pos := "law.go:39", after := #[{ on := 27, ground := Ground.data }, { on := 26, ground := Ground.chain }], guard := none }) rfl (by kernel_rfl) (by kernel_rfl) (by kernel_rfl) (by kernel_rfl) rfl (fun _ _ _ h => h) (Or.inl ⟨by rfl, ?_⟩) (HS.out _ (g6.trans (hb7.mono g6.size))) ?_
    rotate_left
    · intro W hSW
      go_simp
      try with_reducible rfl
    simp only [Act.put, List.setIfInBounds_toArray, List.set_cons_zero, List.set_cons_succ]
    refine wpAnyL_one' (i := 29) (o := { dst := some 60, op := Op.call { callee := Callee.value (Operand.func 10), args := #[], argTypes := #[] }, type := 4, pos := "law.go:39", after := #[{ on := 28, ground := Ground.chain }, { on := 28, ground := Ground.guard }], guard := some (28, true) }) (by kernel_rfl) rfl rfl (fun K hK => ?_)
    go_simp
    refine (HAW.out x7).mono ?_
    rintro e x8 ⟨rfl, hb8⟩
    refine hK.out _ _ (fun _ => (HS.out _ (g7.trans (hb8.mono g7.size)))) ?_
    clear hK
    refine wpAnyL_take' (i := 30) (v := ?_) (oi := { dst := some 61, op := Op.pick (Operand.tmp 59) (Operand.tmp 60) (Operand.const (Value.bool false)), type := 4, pos := "law.go:39", after := #[{ on := 28, ground := Ground.data }, { on := 29, ground := Ground.data }], guard := none }) rfl (by kernel_rfl) (by kernel_rfl) (by kernel_rfl) (by kernel_rfl) rfl (fun _ _ _ h => h) (Or.inl ⟨by rfl, ?_⟩) (HS.out _ (g7.trans (hb8.mono g7.size))) ?_
    rotate_left
    · intro W hSW
      go_simp
      try with_reducible rfl
    simp only [Act.put, List.setIfInBounds_toArray, List.set_cons_zero, List.set_cons_succ]
    refine wpAnyL_take' (i := 31) (v := ?_) (oi := { dst := some 10, op := Op.assign (Operand.tmp 61), type := 4, pos := "law.go:39", after := #[{ on := 30, ground := Ground.data }, { on := 29, ground := Ground.chain }, { on := 0, ground := Ground.phase }, { on := 1, ground := Ground.phase }, { on := 2, ground := Ground.phase }, { on := 3, ground := Ground.phase }, { on := 4, ground := Ground.phase }, { on := 5, ground := Ground.phase }, { on := 6, ground := Ground.phase }, { on := 7, ground := Ground.phase }, { on := 8, ground := Ground.phase }, { on := 9, ground := Ground.phase }, { on := 10, ground := Ground.phase }, { on := 11, ground := Ground.phase }, { on := 12, ground := Ground.phase }, { on := 13, ground := Ground.phase }, { on := 14, ground := Ground.phase }, { on := 15, ground := Ground.phase }, { on := 16, ground := Ground.phase }, { on := 17, ground := Ground.phase }, { on := 18, ground := Ground.phase }, { on := 19, ground := Ground.phase }, { on := 20, ground := Ground.phase }, { on := 21, ground := Ground.phase }, { on := 22, ground := Ground.phase }, { on := 23, ground := Ground.phase }, { on := 24, ground := Ground.phase }, { on := 25, ground := Ground.phase }, { on := 26, ground := Ground.phase }, { on := 27, ground := Ground.phase }, { on := 28, ground := Ground.phase }, { on := 29, ground := Ground.phase }, { on := 30, ground := Ground.phase }], guard := none }) rfl (by kernel_rfl) (by kernel_rfl) (by kernel_rfl) (by kernel_rfl) rfl (fun _ _ _ h => h) (Or.inl ⟨by rfl, ?_⟩) (HS.out _ (g7.trans (hb8.mono g7.size))) ?_
    rotate_left
    · intro W hSW
      go_simp
      try with_reducible rfl
    simp only [Act.put, List.setIfInBounds_toArray, List.set_cons_zero, List.set_cons_succ]
    refine wpAnyL_done (by kernel_rfl) ?_ _
    go_wp2_with fail
    go_ret
    exact ⟨rfl, below_next hB04 (g7.trans (hb8.mono g7.size))⟩
end Go.Proofs.Ytjcakejokkjnlaa
