/- The law NodeLeaves. -/
import Derived.Test.YthmpnhjlblcgdaaLAwake
import Derived.Test.YthmpnhjlblcgdaaRLeaves
import Derived.Test.YthmpnhjlblcgdaaRiseMath
import Derived.OwnWalk
namespace Go.Proofs.Ythmpnhjlblcgdaa
open Go.RowKit

/-- What Leaves tells, as a row of kids. -/
theorem leaves_row {A : Nat → Prop} (n : Nat) (t : Nd) (v : Value) (w : World) (h : TAt A n t v w) (hc : cntN t ≤ 5000) :
    Calls Try.prog 20 #[v] w fun e w' => ∃ l u, e = .returned u ∧ w'.ownsRow w.heap.size 24 7 u l.length (rowC l) ∧ l.map (·.1) = leavesN t ∧ AllLeaf l ∧ Below w.heap.size w w' :=
  (leaves_any n t v w h hc).mono fun e w' ⟨u, h1, h2, h3, h4⟩ => by
    refine ⟨(leavesN t).map fun t => (t, leafV), u, h1, by rw [List.length_map]; exact h2, by rw [List.map_map]; exact List.map_id _, fun x hx => ?_, h4⟩
    obtain ⟨y, hy, rfl⟩ := List.mem_map.1 hx
    exact leaf_ok (leaves_leaf hy) (h3 y hy)
set_option maxRecDepth 100000 in
set_option maxHeartbeats 8000000 in
theorem nleaves_any {A : Nat → Prop} (n : Nat) (t0 : Nd) (v : Value) (size : Int) (w : World) (h : TAt A n t0 v w) :
    Calls Try.prog 5 #[v, .int .i64 size] w fun e w' => e = .returned (.bool true) ∧ Below w.heap.size w w' := by
  have hlt := fun W (hb : Below w.heap.size w W) => light_any n t0 v W (h.next hb)
  have HAW : Hid (∀ W, Calls Try.prog 10 #[] W fun e w' => e = .returned (.bool true) ∧ Below W.heap.size W w') := awake_any
  have HLV : Hid (cntN t0 ≤ 5000 → ∀ W, Below w.heap.size w W → Calls Try.prog 20 #[v] W fun e w' => ∃ l u, e = .returned u ∧ w'.ownsRow W.heap.size 24 7 u l.length (rowC l) ∧ l.map (·.1) = leavesN t0 ∧ AllLeaf l ∧ Below W.heap.size W w') := fun hc W hb => leaves_row n t0 v W (h.next hb) hc
  have HFT : Hid (∀ W, Below w.heap.size w W → Calls Try.prog 14 #[v, .int .i64 size] W fun e w' => e = .returned (.bool (lightB t0 && fitB t0 size)) ∧ Below W.heap.size W w') := fun W hb => rFit_any n t0 v size W (h.next hb)
  obtain ⟨ba, bc, rfl, _⟩ := h.val
  have HKD : Hid (cntN t0 ≤ 5000 → ∀ (j : Nat) (hj : j < t0.kids.length) W, Below w.heap.size w W → ∃ b off ka kc kn kh, ba = some ⟨b, off, none⟩ ∧ b < w.heap.size ∧ Row7 b (off + j * 7) kh (.slice ka kn kc) W ∧ ∀ W', Below W.heap.size W W' → Calls Try.prog 20 #[ndV kh (.slice ka kn kc)] W' fun e w' => ∃ l u, e = .returned u ∧ w'.ownsRow W'.heap.size 24 7 u l.length (rowC l) ∧ l.map (·.1) = leavesN t0.kids[j] ∧ AllLeaf l ∧ Below W'.heap.size W' w') := fun hc j hj W hb => by
    cases n with
    | zero => exact h.elim
    | succ n =>
      obtain ⟨ba2, bc2, e0, _, _, _, _, hk⟩ := h
      have : ba2 = ba := by
        unfold ndV at e0
        injection e0 with e0
        have := congrArg (fun a : Array Value => a[6]?) e0
        simp at this
        exact this.1.symm
      subst this
      have hk' : KidsAt A n t0.kids ba2 w := hk
      obtain ⟨b, off, ka, kc, e1, _, e2, e3, e4⟩ := hk'.at hb hj
      refine ⟨b, off, ka, kc, _, _, e1, ?_, e3, fun W' hb' => ?_⟩
      · obtain ⟨b', off', ka', kc', e1', _, e2', _⟩ := hk' j _ (List.getElem?_eq_getElem hj)
        rw [e1] at e1'
        cases e1'
        exact e2'
      · exact leaves_row n _ _ W' (e4.next hb') (by have := cntL_at hj; have := cntN_mk t0; omega)
  have HRS : Hid (fitB t0 size = true → Rise 0 (leavesN t0) size) := rise_fit
  have HLM : Hid (leavesN t0 = if isLeaf t0 then [t0] else t0.kids.flatMap leavesN) := leavesN_mk t0
  have HLE : Hid (isLeaf t0 = t0.kids.isEmpty) := rfl
  have hkl : t0.kids.length ≤ 140737488351232 := by
    cases n with
    | zero => exact h.elim
    | succ n => obtain ⟨_, _, _, _, _, _, h5, _⟩ := h; exact h5
  have HCL : Hid (cntN t0 = cntL t0.kids + 1) := cntN_mk t0
  have HLL : Hid ((leavesN t0).length ≤ cntN t0) := leaves_len t0
  clear h
  have HLB : Hid (lightB t0 = decide (cntN t0 ≤ 5000)) := rfl
  generalize lightB t0 = LB at *
  generalize t0.kids = subs at *
  generalize t0.h = hd at *
  obtain ⟨zk, zn, zf, zr, zt, zb⟩ := hd
  unfold ndV at hlt HLV HFT ⊢
  simp only at *
  have hB0 : Below w.heap.size w (w.alloc (Obj.cells #[Value.string zk, Value.bool zn, Value.string zf, Value.int IntKind.i64 zr, Value.int IntKind.i64 zt, Value.int IntKind.i64 zb, Value.slice ba subs.length bc] 24)) := (Below.refl _ _).alloc (Nat.le_refl _) _
  have hz : w.heap.size < (w.alloc (Obj.cells #[Value.string zk, Value.bool zn, Value.string zf, Value.int IntKind.i64 zr, Value.int IntKind.i64 zt, Value.int IntKind.i64 zb, Value.slice ba subs.length bc] 24)).heap.size := by simp
  have r7 : Row7 w.heap.size 0 ⟨zk, zn, zf, zr, zt, zb⟩ (.slice ba subs.length bc) (w.alloc (Obj.cells #[Value.string zk, Value.bool zn, Value.string zf, Value.int IntKind.i64 zr, Value.int IntKind.i64 zt, Value.int IntKind.i64 zb, Value.slice ba subs.length bc] 24)) := by refine ⟨?_, ?_, ?_, ?_, ?_, ?_, ?_⟩ <;> simp
  have hlt1 := hlt _ hB0
  clear hlt
  go_enter Try.func5, Try.ntmps5
  cases LB with
  | false =>
    go_wp2_with fail
    refine hlt1.mono ?_
    rintro e w1 ⟨rfl, hb1⟩
    have haw := HAW.out w1
    go_wp2_with (go_at_call 10; refine haw.mono ?_; rintro e w2 ⟨rfl, hb2⟩)
    go_ret
    exact ⟨rfl, below_next (below_next hB0 hb1) hb2⟩
  | true =>
    go_wp2_with fail
    refine hlt1.mono ?_
    rintro e w1 ⟨rfl, hb1⟩
    have hBB1 : Below w.heap.size w w1 := below_next hB0 hb1
    have hc : cntN t0 ≤ 5000 := of_decide_eq_true HLB.out.symm
    have HR : Hid (∀ W, Below w1.heap.size w1 W → Row7 w.heap.size 0 ⟨zk, zn, zf, zr, zt, zb⟩ (.slice ba subs.length bc) W) := fun W hb => (r7.but (D := fun _ => False) (But.of_next hb1) hz (fun h => h)).but (D := fun _ => False) (But.of_next hb) (Nat.lt_of_lt_of_le hz hb1.size) (fun h => h)
    have HBW : Hid (∀ W, Below w1.heap.size w1 W → Below w.heap.size w W) := fun W hb => below_next hBB1 hb
    have HKD2 : Hid _ := HKD.out hc
    have HLV2 : Hid _ := HLV.out hc
    have hz1 : w.heap.size < w1.heap.size := Nat.lt_of_lt_of_le hz hb1.size
    have hft := HFT.out w1 hBB1
    clear HKD HLV HFT hlt1 r7 HLB hz hb1 hB0
    have rr := HR.out w1 (Below.refl _ _)
    obtain ⟨r0, r1, r2, r3, r4, r5, r6⟩ := rr
    simp only [Nat.zero_add] at r1 r2 r3 r4 r5 r6
    simp only [Bool.true_and] at hft
    generalize hFB : fitB t0 size = FB at *
    go_wp2_with fail
    refine hft.mono ?_
    rintro e w2 ⟨rfl, hb2⟩
    cases FB with
    | false =>
      have haw := HAW.out w2
      clear hft HKD2 HLV2
      go_wp2_with (go_at_call 10; refine haw.mono ?_; rintro e w3 ⟨rfl, hb3⟩)
      go_ret
      exact ⟨rfl, below_next (HBW.out _ hb2) hb3⟩
    | true =>
      have HRS2 : Hid (Rise 0 (leavesN t0) size) := HRS.out rfl
      have rr := HR.out w2 hb2
      obtain ⟨r0, r1, r2, r3, r4, r5, r6⟩ := rr
      simp only [Nat.zero_add] at r1 r2 r3 r4 r5 r6
      have hlv := HLV2.out w2 (HBW.out _ hb2)
      clear hft HLV2 hFB HRS
      go_wp2_with fail
      refine hlv.mono ?_
      rintro e w3 ⟨l, u, rfl, hol, hml, hal, hb3⟩
      obtain ⟨la, lc, N1, rfl, _, _, hkids⟩ := (OwnN.of_leaves hol hal).kids
      have HKS : Hid (∀ W, Below w3.heap.size w3 W → KidsAt (fun k => w2.heap.size ≤ k) N1 (leavesN t0) la W) := fun W hb => by rw [← hml]; exact hkids.next hb
      have hlen : l.length ≤ 5000 := by
        have h1 := congrArg List.length hml
        rw [List.length_map] at h1
        have := HLL.out
        omega
      have HLN : Hid (l.length = (leavesN t0).length) := by show _ = _; rw [← hml, List.length_map]
      have HLZ : Hid (∀ x ∈ leavesN t0, x.kids = []) := fun x hx => leaves_leaf hx
      have hB3 : Below w1.heap.size w1 w3 := below_next hb2 hb3
      clear hlv hol hal hkids hml hb3 hb2
      generalize hll : l.length = ll at *
      clear hll l
      go_wp2_with fail
      go_loopw [6, 26] (fun q c wr => ∃ (j : Nat) (at0 : Int), c = .int .i64 j ∧ q = .int .i64 at0 ∧ j ≤ ll ∧ Below w3.heap.size w3 wr ∧ Hid (Rise at0 ((leavesN t0).drop j) size)) (fun _ c _ => ll - (intOf c).toNat)
      case atStart => exact ⟨0, 0, rfl, rfl, Nat.zero_le _, Below.refl _ _, HRS2.out⟩
      case round =>
        obtain ⟨j, at0, rfl, rfl, hj, hB, HRJ⟩ := hrel
        by_cases hlt : j < ll
        · have k1 : (j : Int) < ll := by omega
          have hjl : j < (leavesN t0).length := by have := HLN.out; omega
          obtain ⟨b, off, ka, kc, rfl, _, hb, hr7, _⟩ := (HKS.out wr hB).at (Below.refl _ _) hjl
          have HRJ2 := HRJ.out
          rw [List.drop_eq_getElem_cons hjl] at HRJ2
          obtain ⟨g1, g2, g3, g4⟩ := HRJ2
          have hkz : (leavesN t0)[j].kids.length = 0 := by rw [HLZ.out _ (List.getElem_mem hjl)]; rfl
          have HG4 : Hid (Rise (leavesN t0)[j].h.to ((leavesN t0).drop (j + 1)) size) := g4
          rw [hkz] at hr7
          generalize (leavesN t0)[j].h = sh at *
          obtain ⟨xk, xn, xf, xr, xt, xb⟩ := sh
          obtain ⟨e0, e1, e2, e3, e4, e5, e6⟩ := hr7
          simp only at *
          have c1 : ¬ xr < at0 := by omega
          have c2 : ¬ xt < xr := by omega
          have c3 : ¬ size < xt := by omega
          clear HRJ HKS HKD2 hkz g4 HRS2 HLM
          go_wp2_with fail
          exact ⟨⟨j + 1, xt, by go_num, rfl, by omega, hB.trans (((Below.refl _ _).alloc (Nat.le_refl _) _).mono hB.size), HG4.out⟩, by simp [intOf]; omega⟩
        have k1 : ¬ (j : Int) < ll := by omega
        have hBr : Below w1.heap.size w1 wr := below_next hB3 hB
        have rr := HR.out wr hBr
        obtain ⟨r0, r1, r2, r3, r4, r5, r6⟩ := rr
        simp only [Nat.zero_add] at r1 r2 r3 r4 r5 r6
        obtain ⟨i0, hi, hz0, hz1x, hz2⟩ := info_parts infoNd
        clear HRJ HRS2
        go_wp2_with fail
        generalize wr = w4 at *
        go_loopw [9, 59] (fun q c wr => ∃ (j : Nat) (lq : List (Nd × Value)), c = .int .i64 j ∧ j ≤ subs.length ∧ wr.ownsRow w4.heap.size 24 7 q lq.length (rowC lq) ∧ Hid (lq.map (·.1) = (subs.take j).flatMap leavesN) ∧ Hid (AllLeaf lq) ∧ Below w4.heap.size w4 wr) (fun _ c _ => subs.length - (intOf c).toNat)
        case atStart => exact ⟨0, [], rfl, Nat.zero_le _, World.ownsRow_nil _ _ _ _, rfl, (fun x hx => nomatch hx), Below.refl _ _⟩
        case round =>
          obtain ⟨i, lq, rfl, hi2, hown, HM, HK, hBs⟩ := hrel
          have hBS : Below w1.heap.size w1 wr := below_next hBr hBs
          have hll : lq.length ≤ 5000 := by
            have h1 := congrArg List.length HM.out
            rw [List.length_map] at h1
            have h2 := flat_len (subs.take i)
            have h3 := cntL_le subs i
            have h4 := HCL.out
            omega
          obtain ⟨qa, qc, rfl, hqc, _⟩ := own_form hown
          by_cases hlt2 : i < subs.length
          · have k2 : (i : Int) < subs.length := by omega
            obtain ⟨b, off, ka, kc, kn, kh, rfl, hbl, ⟨e0, e1, e2, e3, e4, e5, e6⟩, hcl⟩ := HKD2.out i hlt2 wr (HBW.out _ hBS)
            have HM2 : Hid (∀ l2 : List (Nd × Value), l2.map (·.1) = leavesN subs[i] → (lq ++ l2).map (·.1) = (subs.take (i + 1)).flatMap leavesN) := fun l2 h => by
              rw [List.take_succ_eq_append_getElem hlt2, List.flatMap_append, List.map_append, HM.out, h]
              simp
            have HL2 : Hid (∀ l2 : List (Nd × Value), l2.map (·.1) = leavesN subs[i] → l2.length ≤ 5000) := fun l2 h => by
              have h1 := congrArg List.length h
              rw [List.length_map] at h1
              have := leaves_len subs[i]
              have := cntL_at hlt2
              have := HCL.out
              omega
            generalize leavesN subs[i] = lj at *
            obtain ⟨xk, xn, xf, xr, xt, xb⟩ := kh
            unfold ndV at hcl
            simp only at e0 e1 e2 e3 e4 e5 e6 hcl
            have hcl1 := hcl (wr.alloc (Obj.cells #[Value.string xk, Value.bool xn, Value.string xf, Value.int IntKind.i64 xr, Value.int IntKind.i64 xt, Value.int IntKind.i64 xb, Value.slice ka kn kc] 24)) ((Below.refl _ _).alloc (Nat.le_refl _) _)
            have hBk : Below wr.heap.size wr (wr.alloc (Obj.cells #[Value.string xk, Value.bool xn, Value.string xf, Value.int IntKind.i64 xr, Value.int IntKind.i64 xt, Value.int IntKind.i64 xb, Value.slice ka kn kc] 24)) := (Below.refl _ _).alloc (Nat.le_refl _) _
            clear hcl HM HKS HKD2 HLM
            go_wp2_with fail
            refine hcl1.mono ?_
            rintro e w5 ⟨l2, u2, rfl, ho2, hm2, hk2, hb5⟩
            have hb35 : Below wr.heap.size wr w5 := below_next hBk hb5
            have hown2 := ownsRow_next hown hb35
            have hl2 := HL2.out l2 hm2
            have HM4 : Hid _ := HM2.out l2 hm2
            have HK3 : Hid (AllLeaf (lq ++ l2)) := fun x hx => (List.mem_append.1 hx).elim (HK.out x) (hk2 x)
            obtain ⟨ua, uc, rfl, _, _⟩ := own_form ho2
            have HO2 : Hid _ := ho2
            have HK2 : Hid _ := hk2
            have hB2 : Below w4.heap.size w4 w5 := below_next hBs hb35
            have hs2 := hB2.size
            clear hcl1 hown HM2 HL2 HK hm2 hk2 ho2 e0 e1 e2 e3 e4 e5 e6
            go_wp2_with (at_builtin; refine wpList_append_any rfl _ _ 22 rfl w4.heap.size 24 i0 _ 7 88 Try.underlying22 hi hz0 hz1x hz2 rfl (by decide) _ _ _ rfl hown2 ua l2.length uc (rowC l2) rfl (own_none HO2.out) (rowC_len l2) (fun ad ea q u hq => ?_) (fun u hu => rowC_one' hu HK2.out) (by unfold maxLen; omega) (by omega) hs2 ?_)
            · subst ea
              exact own_cell HO2.out hq
            · intro v' w6 ho hg
              have hB6 : Below w4.heap.size w4 w6 := hB2.trans ((but_grown hg).below hs2 (fun k _ h' => by have := (World.ownsRow.lt hown2 k h').1; omega))
              have HO4 : Hid (w6.ownsRow w4.heap.size 24 7 v' (lq ++ l2).length (rowC (lq ++ l2))) := by
                show World.ownsRow _ _ _ _ _ _ _
                rw [List.length_append, rowC_app]
                exact ho
              clear ho hg hown2 HO2 HK2
              go_wp2_with fail
              exact ⟨⟨i + 1, lq ++ l2, by go_num, by omega, HO4.out, HM4, HK3, hB6⟩, by simp [intOf]; omega⟩
          · have k2 : ¬ (i : Int) < subs.length := by omega
            have HM2 : Hid (lq.map (·.1) = subs.flatMap leavesN) := by
              have := HM.out
              rwa [List.take_of_length_le (by omega)] at this
            have rr := HR.out wr hBS
            obtain ⟨r0, r1, r2, r3, r4, r5, r6⟩ := rr
            simp only [Nat.zero_add] at r1 r2 r3 r4 r5 r6
            by_cases hs0 : subs = []
            · have k3 : ((ll : Int) == 1) = true := by
                have h1 := HLN.out
                rw [HLM.out, HLE.out, hs0] at h1
                simp at h1
                simp [h1]
              subst hs0
              have haw := HAW.out wr
              clear HKS HKD2 HLM HM HM2
              simp only [List.length_nil] at *
              go_wp2_with (go_at_call 10; refine haw.mono ?_; rintro e w7 ⟨rfl, hb7⟩)
              go_ret
              exact ⟨rfl, below_next (HBW.out _ hBS) hb7⟩
            · have k3 : ((subs.length : Int) == 0) = false := by
                have : subs.length ≠ 0 := fun h => hs0 (List.eq_nil_of_length_eq_zero h)
                simp; omega
              obtain ⟨qa2, qc2, N2, hq, _, _, hkids2⟩ := (OwnN.of_leaves hown HK.out).kids
              cases hq
              rw [HM2.out] at hkids2
              have HEQ : Hid (leavesN t0 = subs.flatMap leavesN) := by
                show _ = _
                rw [HLM.out, HLE.out]
                cases subs with
                | nil => exact absurd rfl hs0
                | cons a l => rfl
              have hnd := rnodes_any N1 N2 (leavesN t0) (subs.flatMap leavesN) la qa lc qc wr (HKS.out wr (below_next hB hBs)) hkids2 (by have := HLN.out; omega)
              rw [eqNL_true.2 HEQ.out, ← HLN.out, show (subs.flatMap leavesN).length = lq.length by rw [← HM2.out, List.length_map]] at hnd
              clear HKS HKD2 HLM HM HM2 hkids2 HEQ hs0
              go_wp2_with fail
              refine hnd.mono ?_
              rintro e w7 ⟨rfl, hb7⟩
              have haw := HAW.out w7
              clear hnd
              go_wp2_with (go_at_call 10; refine haw.mono ?_; rintro e w8 ⟨rfl, hb8⟩)
              go_ret
              exact ⟨rfl, below_next (HBW.out _ (below_next hBS hb7)) hb8⟩
end Go.Proofs.Ythmpnhjlblcgdaa
