/- Run of the document: one value with the program's. -/
import Derived.Test.YthcelkpjhkkogaaDoorSees
namespace Go.Proofs.YthcelkpjhkkogaaDoor
open Go.Shelf Go.RowKit Go.Lib Go.Proofs

theorem mod_form' (state : Int) : wrap64 ((IntKind.u64.wrap state).tmod 256) = state % 256 := by
  rw [IntKind.wrap_u64, Int.tmod_eq_emod_of_nonneg (Int.emod_nonneg _ (by decide)), Int.emod_emod_of_dvd state (by decide : (256 : Int) ∣ 18446744073709551616)]
  exact IntWalk.wrap64_in _ (by omega)
theorem runM_stop {p : List Ins} {t : List UInt8} {k : Nat} {m : M} (h : m.found = true ∨ m.next = p.length) : runM p t k m = m := by
  cases k with
  | zero => rfl
  | succ k => rw [runM, if_pos h]
theorem runM_step {p : List Ins} {t : List UInt8} {k : Nat} {m : M} (h : ¬ (m.found = true ∨ m.next = p.length)) (hk : 0 < k) : runM p t k m = runM p t (k - 1) (stepM p t m) := by
  cases k with
  | zero => omega
  | succ k => rw [runM, if_neg h]; rfl

theorem index_nat (s : ByteArray) (n : Nat) (h : n < s.size) (w : World) : (Instr.index 9 (.string s) (.int .i64 (n : Int))).run Tryd.prog w = .ok (.int .u8 s[n].toNat) w := by
  have h' : s[n]? = some s[n] := by simp [h]
  simp [Instr.index, run_underlying Tryd.underlying9, asIntOf, go_sem, h']
theorem index_at (s : ByteArray) (k tk : Nat) (h : k + tk < s.size) : ∀ w : World, (Instr.index 9 (.string s) (.int .i64 ((k : Int) + (tk : Int)))).run Tryd.prog w = .ok (.int .u8 s[k + tk].toNat) w := fun w =>
  index_nat s (k + tk) h w

set_option maxRecDepth 100000 in
set_option maxHeartbeats 8000000 in
theorem refRun_any (p : List Ins) (ao : Option Addr) (cap : Nat) (s : ByteArray) (a state : Int) (w : World) (hc : InsAt p ao w) (hf : fitP p = true) (hs : s.size ≤ 4611686018427387904) :
    Calls Tryd.prog 17 #[.slice ao p.length cap, .string s, .int .i64 a, .int .i64 state] w fun e w' => e = .returned (tup (runV p s.data.toList a state)) ∧ Below w.heap.size w w' := by
  have hlen := fitP_len hf
  by_cases hcond : 0 ≤ a ∧ a ≤ s.size
  · obtain ⟨h2, h3⟩ := hcond
    obtain ⟨k, rfl⟩ : ∃ k : Nat, a = k := ⟨a.toNat, by omega⟩
    have k1 : ¬ (k : Int) < 0 := by omega
    have k2 : ¬ (s.size : Int) < k := by omega
    obtain ⟨st, hst⟩ : ∃ st : Nat, state % 256 = st := ⟨(state % 256).toNat, by omega⟩
    have hst2 : st < 256 := by omega
    have HV : Hid (runV p s.data.toList k state = valM (runM p (s.data.toList.drop k) 10000 ⟨0, 0, 0, st, false⟩) state) := by
      show _ = _
      unfold runV endM
      rw [if_pos ⟨hf, h2, by simpa using h3⟩, hst]
      rfl
    have HS : Hid (state % 256 = st) := hst
    have hmf := mod_form' state
    rw [hst] at hmf
    have hfin : ∀ (m : M), runM p (s.data.toList.drop k) 10000 ⟨0, 0, 0, st, false⟩ = m → m.found = false → tup (runV p s.data.toList k state) = tup (-1, st, m.seen) := fun m h0 h1 => by
      rw [HV.out, h0, valM, if_neg (by rw [h1]; simp), HS.out]
    have hsl : (s.data.toList.drop k).length = s.size - k := by simp
    generalize hT : s.data.toList.drop k = t at *
    go_enter Tryd.func17, Tryd.ntmps17
    go_wp2_with fail
    go_loopw [12, 13, 14, 15, 16] (fun v12 v13 v14 v15 v16 wr => ∃ (j : Nat) (m : M), v16 = .int .i64 j ∧ v12 = .int .i64 m.state ∧ v13 = .int .i64 m.taken ∧ v14 = .int .i64 m.seen ∧ v15 = .int .i64 m.next ∧ j ≤ 10000 ∧ m.found = false ∧ Good p t m ∧ Bet m ∧ Below w.heap.size w wr ∧ Hid (runM p t 10000 ⟨0, 0, 0, st, false⟩ = runM p t (10000 - j) m)) (fun _ _ _ _ v16 _ => 10000 - (intOf v16).toNat)
    case atStart => exact ⟨0, ⟨0, 0, 0, st, false⟩, rfl, by simp, rfl, rfl, rfl, by omega, rfl, ⟨Nat.zero_le _, Nat.zero_le _, hst2, Nat.le_refl _, Nat.zero_le _⟩, bet0 _, Below.refl _ _, rfl⟩
    case round =>
      clear hmf
      obtain ⟨j, ⟨nx, tk, sn, ss, fd⟩, rfl, rfl, rfl, rfl, rfl, hj, hfd, hG, hBt, B1, HR⟩ := hrel
      simp only at hfd
      subst hfd
      by_cases hgo : j < 10000 ∧ nx < p.length
      · obtain ⟨b, off, rfl, hb, e0, e1, e2, e3⟩ := hc.at B1 hgo.2
        have hbr : b < wr.heap.size := Nat.lt_of_lt_of_le hb B1.size
        have q1 : (j : Int) < 10000 := by omega
        have q2 : (nx : Int) < p.length := by omega
        have hmem : p[nx] ∈ p := List.getElem_mem _
        have hfb := fitB_facts (fitP_mem hf hmem)
        have HR2 : Hid (runM p t 10000 ⟨0, 0, 0, st, false⟩ = runM p t (10000 - (j + 1)) (act p.length t p[nx] ⟨nx + 1, tk, sn, ss, false⟩)) := by
          show _ = _
          rw [HR.out, runM_step (by simp; omega) (by omega)]
          simp only [stepM]
          rw [List.getElem?_eq_getElem hgo.2]
          rfl
        have HG2 : Hid (Good p t (act p.length t p[nx] ⟨nx + 1, tk, sn, ss, false⟩)) := act_good (fitP_mem hf hmem) ⟨hgo.2, hG.tk, hG.st, hG.ts, hG.sn⟩
        have HB2 : Hid (Bet (act p.length t p[nx] ⟨nx + 1, tk, sn, ss, false⟩)) := (act_bet (m := ⟨nx + 1, tk, sn, ss, false⟩) hBt).1
        generalize p[nx] = i at *
        obtain ⟨o, x, y, z⟩ := i
        simp only at e0 e1 e2 e3 hfb
        obtain ⟨f0, f1, f2, f3⟩ := hfb
        obtain ⟨zn, rfl⟩ : ∃ zn : Nat, z = zn := ⟨z.toNat, by omega⟩
        obtain ⟨xn, rfl⟩ : ∃ xn : Nat, x = xn := ⟨x.toNat, by omega⟩
        have htk := hG.tk
        have hss := hG.st
        have hbt1 := hBt.1
        have hbt2 := hBt.2
        simp only at htk hss hbt1 hbt2
        have ho : o = 1 ∨ o = 2 ∨ o = 3 ∨ o = 4 ∨ o = 5 ∨ o = 6 ∨ o = 7 := by omega
        clear HR hG hBt hc hmem f0
        rcases ho with rfl | rfl | rfl | rfl | rfl | rfl | rfl
        · -- char
          have hmax : max (sn : Int) ((tk : Int) + 1) = (tk : Int) + 1 := by omega
          have HWR : Hid (IntKind.i64.wrap ((k : Int) + (tk : Int)) = (k : Int) + (tk : Int)) := IntWalk.i64_in _ (by omega)
          have HWR2 : Hid (wrap64 ((k : Int) + (tk : Int)) = (k : Int) + (tk : Int)) := IntWalk.wrap64_in _ (by omega)
          by_cases hend : k + tk < s.size
          · obtain ⟨bt, hbt⟩ : ∃ bt : Nat, (s[k + tk]'hend).toNat = bt := ⟨_, rfl⟩
            have hbt2 : bt < 256 := by rw [← hbt]; exact (s[k + tk]'hend).toNat_lt
            have hixx := index_at s k tk hend
            rw [hbt] at hixx
            have hgd : ((t.getD tk 0).toNat : Int) = bt := by
              rw [← hT, List.getD_eq_getElem?_getD, List.getElem?_drop, List.getElem?_eq_getElem (by simpa using hend), ← hbt]
              rfl
            have hlt : tk < t.length := by omega
            have d1 : decide ((k : Int) + tk < s.size) = true := decide_eq_true (by omega)
            have d1' : (k : Int) + tk < s.size := by omega
            by_cases hin : (xn : Int) ≤ bt ∧ (bt : Int) ≤ y
            · have HA : Hid (act p.length t ⟨1, (xn : Int), y, zn⟩ ⟨nx + 1, tk, sn, ss, false⟩ = ⟨nx + 1, tk + 1, tk + 1, ss, false⟩) := by
                show _ = _
                unfold act
                rw [if_pos rfl, if_pos ⟨hlt, by show (xn : Int) ≤ _; rw [hgd]; exact hin.1, by show _ ≤ y; rw [hgd]; exact hin.2⟩]
              obtain ⟨hin1, hin2⟩ := hin
              have d2 : decide ((xn : Int) ≤ (bt : Int)) = true := decide_eq_true hin1
              have d3 : decide ((bt : Int) ≤ y) = true := decide_eq_true hin2
              have d2n : decide (xn ≤ bt) = true := decide_eq_true (by omega)
              have d2m : xn ≤ bt := by omega
              have HWB : Hid (wrap64 (bt : Int) = bt) := IntWalk.wrap64_in _ (by omega)
              have ht1 : (tk : Int) + 1 ≤ 9223372036854775807 := by omega
              clear hfin hgd HV HS hT hsl hf h2 h3 hs hst hst2 f1 f2 f3 htk hss hbt1 hbt2 hgo hb hlt hbt hend k1 k2
              go_wp2_with fail
              have hwr := HWR.out
              have hwr2 := HWR2.out
              have hwb := HWB.out
              go_big_quiet (fail)
              clear hwr hwr2 hwb
              go_wp2_with fail
              refine ⟨⟨j + 1, ⟨nx + 1, tk + 1, tk + 1, ss, false⟩, by go_num, rfl, by go_num, by go_num, by go_num, by omega, rfl, by have := HG2.out; rwa [HA.out] at this, by have := HB2.out; rwa [HA.out] at this, below_drewN (B1.alloc B1.size _) _, by show _ = _; rw [HR2.out, HA.out]⟩, by simp [intOf]; omega⟩
            · have HA : Hid (act p.length t ⟨1, (xn : Int), y, zn⟩ ⟨nx + 1, tk, sn, ss, false⟩ = ⟨zn, tk, tk + 1, ss, false⟩) := by
                show _ = _
                unfold act
                rw [if_pos rfl, if_neg (by rintro ⟨_, q1, q2⟩; apply hin; rw [← hgd]; exact ⟨q1, q2⟩)]
                rfl
              have HWB : Hid (wrap64 (bt : Int) = bt) := IntWalk.wrap64_in _ (by omega)
              have ht1 : (tk : Int) + 1 ≤ 9223372036854775807 := by omega
              by_cases hin1 : xn ≤ bt
              · have d2n : decide (xn ≤ bt) = true := decide_eq_true hin1
                have d3 : decide ((bt : Int) ≤ y) = false := decide_eq_false (by omega)
                have hin2 : ¬ (bt : Int) ≤ y := by omega
                clear hfin hgd HV HS hT hsl hf hlen h2 h3 hs hst hst2 f1 f2 f3 htk hss hbt1 hbt2 hgo hb hlt hbt hend k1 k2 hin
                go_wp2_with fail
                have hwr := HWR.out
                have hwr2 := HWR2.out
                have hwb := HWB.out
                go_big_quiet (fail)
                clear hwr hwr2 hwb
                go_wp2_with fail
                refine ⟨⟨j + 1, ⟨zn, tk, tk + 1, ss, false⟩, by go_num, rfl, rfl, by go_num, rfl, by omega, rfl, by have := HG2.out; rwa [HA.out] at this, by have := HB2.out; rwa [HA.out] at this, below_drewN (B1.alloc B1.size _) _, by show _ = _; rw [HR2.out, HA.out]⟩, by simp [intOf]; omega⟩
              · have d2n : decide (xn ≤ bt) = false := decide_eq_false hin1
                clear hfin hgd HV HS hT hsl hf hlen h2 h3 hs hst hst2 f1 f2 f3 htk hss hbt1 hbt2 hgo hb hlt hbt hend k1 k2 hin
                go_wp2_with fail
                have hwr := HWR.out
                have hwr2 := HWR2.out
                have hwb := HWB.out
                go_big_quiet (fail)
                clear hwr hwr2 hwb
                go_wp2_with fail
                refine ⟨⟨j + 1, ⟨zn, tk, tk + 1, ss, false⟩, by go_num, rfl, rfl, by go_num, rfl, by omega, rfl, by have := HG2.out; rwa [HA.out] at this, by have := HB2.out; rwa [HA.out] at this, below_drewN (B1.alloc B1.size _) _, by show _ = _; rw [HR2.out, HA.out]⟩, by simp [intOf]; omega⟩
          · have HA : Hid (act p.length t ⟨1, (xn : Int), y, zn⟩ ⟨nx + 1, tk, sn, ss, false⟩ = ⟨zn, tk, tk + 1, ss, false⟩) := by
              show _ = _
              unfold act
              rw [if_pos rfl, if_neg (by rintro ⟨q0, _⟩; simp only at q0; omega)]
              rfl
            have d1 : decide ((k : Int) + tk < s.size) = false := decide_eq_false (by omega)
            have d1' : ¬ (k : Int) + tk < s.size := by omega
            have ht1 : (tk : Int) + 1 ≤ 9223372036854775807 := by omega
            clear hfin HV HS hT hsl hf hlen h2 h3 hs hst hst2 f1 f2 f3 htk hss hbt1 hbt2 hgo hb hend k1 k2
            go_wp2_with fail
            have hwr := HWR.out
            have hwr2 := HWR2.out
            go_big_quiet (fail)
            clear hwr hwr2
            go_wp2_with fail
            refine ⟨⟨j + 1, ⟨zn, tk, tk + 1, ss, false⟩, by go_num, rfl, rfl, by go_num, rfl, by omega, rfl, by have := HG2.out; rwa [HA.out] at this, by have := HB2.out; rwa [HA.out] at this, below_drewN (B1.alloc B1.size _) _, by show _ = _; rw [HR2.out, HA.out]⟩, by simp [intOf]; omega⟩
        · -- is
          by_cases hx : ss = xn
          · subst hx
            have HA : Hid (act p.length t ⟨2, (ss : Int), y, zn⟩ ⟨nx + 1, tk, sn, ss, false⟩ = ⟨nx + 1, tk, sn, ss, false⟩) := by show _ = _; simp [act]
            clear hfin
            go_wp2_with fail
            refine ⟨⟨j + 1, ⟨nx + 1, tk, sn, ss, false⟩, by go_num, rfl, rfl, rfl, by go_num, by omega, rfl, by have := HG2.out; rwa [HA.out] at this, by have := HB2.out; rwa [HA.out] at this, B1.alloc B1.size _, by show _ = _; rw [HR2.out, HA.out]⟩, by simp [intOf]; omega⟩
          · have HA : Hid (act p.length t ⟨2, (xn : Int), y, zn⟩ ⟨nx + 1, tk, sn, ss, false⟩ = ⟨zn, tk, sn, ss, false⟩) := by
              show _ = _
              simp [act]
              omega
            have hx' : ((ss : Int) == (xn : Int)) = false := beq_eq_false_iff_ne.2 (by omega)
            clear hfin
            go_wp2_with fail
            refine ⟨⟨j + 1, ⟨zn, tk, sn, ss, false⟩, by go_num, rfl, rfl, rfl, rfl, by omega, rfl, by have := HG2.out; rwa [HA.out] at this, by have := HB2.out; rwa [HA.out] at this, B1.alloc B1.size _, by show _ = _; rw [HR2.out, HA.out]⟩, by simp [intOf]; omega⟩
        · -- set
          have HA : Hid (act p.length t ⟨3, (xn : Int), y, zn⟩ ⟨nx + 1, tk, sn, ss, false⟩ = ⟨nx + 1, tk, sn, xn, false⟩) := by show _ = _; simp [act]
          clear hfin
          go_wp2_with fail
          refine ⟨⟨j + 1, ⟨nx + 1, tk, sn, xn, false⟩, by go_num, rfl, rfl, rfl, by go_num, by omega, rfl, by have := HG2.out; rwa [HA.out] at this, by have := HB2.out; rwa [HA.out] at this, B1.alloc B1.size _, by show _ = _; rw [HR2.out, HA.out]⟩, by simp [intOf]; omega⟩
        · -- add
          have HA : Hid (act p.length t ⟨4, (xn : Int), y, zn⟩ ⟨nx + 1, tk, sn, ss, false⟩ = ⟨nx + 1, tk, sn, (ss + xn) % 256, false⟩) := by show _ = _; simp [act]
          have htm : ((ss : Int) + xn).tmod 256 = ((ss + xn) % 256 : Nat) := by
            rw [Int.tmod_eq_emod_of_nonneg (by omega)]
            omega
          clear hfin
          go_wp2_with fail
          refine ⟨⟨j + 1, ⟨nx + 1, tk, sn, (ss + xn) % 256, false⟩, by go_num, by first | rfl | simp [htm], rfl, rfl, by go_num, by omega, rfl, by have := HG2.out; rwa [HA.out] at this, by have := HB2.out; rwa [HA.out] at this, B1.alloc B1.size _, by show _ = _; rw [HR2.out, HA.out]⟩, by simp [intOf]; omega⟩
        · -- goto
          have HA : Hid (act p.length t ⟨5, (xn : Int), y, zn⟩ ⟨nx + 1, tk, sn, ss, false⟩ = ⟨zn, tk, sn, ss, false⟩) := by show _ = _; simp [act]
          clear hfin
          go_wp2_with fail
          refine ⟨⟨j + 1, ⟨zn, tk, sn, ss, false⟩, by go_num, rfl, rfl, rfl, rfl, by omega, rfl, by have := HG2.out; rwa [HA.out] at this, by have := HB2.out; rwa [HA.out] at this, B1.alloc B1.size _, by show _ = _; rw [HR2.out, HA.out]⟩, by simp [intOf]; omega⟩
        · -- yes
          have HA : act p.length t ⟨6, (xn : Int), y, zn⟩ ⟨nx + 1, tk, sn, ss, false⟩ = ⟨nx + 1, tk, sn, ss, true⟩ := by simp [act]
          have HE0 : Hid (runV p s.data.toList k state = valM ⟨nx + 1, tk, sn, ss, true⟩ state) := by
            show _ = _
            rw [HV.out, HR2.out, HA, runM_stop (.inl rfl)]
          clear hfin HG2 HB2 HR2
          by_cases h0 : tk = 0
          · subst h0
            have HE : Hid (tup (runV p s.data.toList k state) = tup (-1, st, sn)) := by
              show _ = _
              rw [HE0.out, valM, if_neg (by simp), HS.out]
            clear HE0 HA
            go_wp2_with fail
            refine bodyPost_ret (v := tup (-1, st, sn)) (by simp [results, Tryd.f17, go_sem]) rfl ⟨?_, B1.alloc B1.size _⟩
            rw [HE.out]
          · have HE : Hid (tup (runV p s.data.toList k state) = tup ((tk : Int), (ss : Int), (sn : Int))) := by
              show _ = _
              rw [HE0.out, valM, if_pos ⟨rfl, h0⟩]
            have h0' : ((tk : Int) == 0) = false := beq_eq_false_iff_ne.2 (by omega)
            clear HE0 HA
            go_wp2_with fail
            refine bodyPost_ret (v := tup ((tk : Int), (ss : Int), (sn : Int))) (by simp [results, Tryd.f17, go_sem]) rfl ⟨?_, B1.alloc B1.size _⟩
            rw [HE.out]
        · -- no
          have HA : act p.length t ⟨7, (xn : Int), y, zn⟩ ⟨nx + 1, tk, sn, ss, false⟩ = ⟨p.length, tk, sn, ss, false⟩ := by simp [act]
          have HE : Hid (tup (runV p s.data.toList k state) = tup (-1, st, sn)) := by
            refine hfin ⟨p.length, tk, sn, ss, false⟩ ?_ rfl
            rw [HR2.out, HA, runM_stop (.inr rfl)]
          clear hfin HG2 HB2 HR2 HA
          go_wp2_with fail
          refine bodyPost_ret (v := tup (-1, st, sn)) (by simp [results, Tryd.f17, go_sem]) rfl ⟨?_, B1.alloc B1.size _⟩
          rw [HE.out]
      · have HE : Hid (tup (runV p s.data.toList k state) = tup (-1, st, sn)) := by
          refine hfin ⟨nx, tk, sn, ss, false⟩ ?_ rfl
          rw [HR.out]
          by_cases hj2 : j < 10000
          · exact runM_stop (.inr (by have := hG.nx; simp only at this ⊢; omega))
          · rw [show 10000 - j = 0 by omega]
            rfl
        have hgo2 : ((j : Int) < 10000 ∧ ¬ (nx : Int) < p.length) ∨ ¬ (j : Int) < 10000 := by omega
        clear hfin HR HV hG hBt hc
        rcases hgo2 with ⟨q1, q2⟩ | q1
        all_goals
          go_wp2_with fail
        all_goals
          refine bodyPost_ret (v := tup (-1, st, sn)) (by simp [results, Tryd.f17, go_sem]) rfl ⟨?_, B1⟩
          rw [HE.out]
  · have e : runV p s.data.toList a state = (-1, 0, 0) := by
      unfold runV
      rw [if_neg (by intro h; exact hcond ⟨h.2.1, by simpa using h.2.2⟩)]
    rw [e]
    have hk : a < 0 ∨ (¬ a < 0 ∧ (s.size : Int) < a) := by omega
    clear hcond
    rcases hk with k1 | ⟨k1, k2⟩
    all_goals
      go_enter Tryd.func17, Tryd.ntmps17
      go_wp2_with fail
    all_goals
      refine bodyPost_ret (v := tup (-1, 0, 0)) (by simp [results, Tryd.f17, go_sem]) rfl ⟨rfl, Below.refl _ _⟩
end Go.Proofs.YthcelkpjhkkogaaDoor
