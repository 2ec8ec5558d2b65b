/- The law NodeWider. -/
import Derived.Test.YtjcakejokkjnlaaLAwake
import Derived.Test.YtjcakejokkjnlaaWMath
import Derived.OwnWalk
namespace Go.Proofs.Ytjcakejokkjnlaa
open Go.RowKit

set_option maxRecDepth 100000 in
set_option maxHeartbeats 8000000 in
theorem wider_any {A : Nat → Prop} (n : Nat) (t0 : Nd) (v : Value) (size more : Int) (w : World) (h : TAt A n t0 v w) (hm : 0 ≤ more ∧ more ≤ 65535) (hs : i64B size) :
    Calls Try.prog 8 #[v, .int .i64 size, .int .u16 more] w fun e w' => e = .returned (.bool true) ∧ Below w.heap.size w w' := by
  have hlt := fun W (hb : Below w.heap.size w W) => light_any n t0 v W (h.next hb)
  have HAW : Hid (∀ W, Calls Try.prog 10 #[] W fun e w' => e = .returned (.bool true) ∧ Below W.heap.size W w') := awake_any
  have HCT : Hid (cntN t0 ≤ 5000 → ∀ W, Below w.heap.size w W → Calls Try.prog 11 #[v] W fun e w' => ∃ cn dn : Int, (0 ≤ cn ∧ cn = cntN t0 ∧ dn ≤ cn) ∧ e = .returned (.tuple #[.int .i64 cn, .int .i64 dn]) ∧ Below W.heap.size W w') := fun hc W hb => (count_any n t0 v W (h.next hb) hc).mono fun e w' ⟨xs, h1, h2, h3⟩ => ⟨_, _, ⟨by omega, by rw [(deep_len h1).1], by have := deep_len h1; omega⟩, h2, h3⟩
  have HLV : Hid (cntN t0 ≤ 5000 → ∀ W, Below w.heap.size w W → Calls Try.prog 20 #[v] W fun e w' => ∃ la ln lc, (ln ≤ cntN t0) ∧ e = .returned (.slice la ln lc) ∧ Below W.heap.size W w') := fun hc W hb => (leaves_any n t0 v W (h.next hb) hc).mono fun e w' ⟨u, h1, h2, h3, h4⟩ => by
    obtain ⟨la, lc, rfl, _⟩ := own_form h2
    exact ⟨la, _, lc, leaves_len t0, h1, h4⟩
  have HFT : Hid (cntN t0 ≤ 5000 → ∀ (sz : Int) W, Below w.heap.size w W → Calls Try.prog 13 #[v, .int .i64 sz] W fun e w' => e = .returned (.bool (fitB t0 sz)) ∧ Below W.heap.size W w') := fun hc sz W hb => fit_any n t0 v sz W (h.next hb) hc
  obtain ⟨ba, bc, rfl, _⟩ := h.val
  have HKD : Hid (cntN t0 ≤ 5000 → fitB t0 size = true → ∀ (j : Nat) (hj : j < t0.kids.length) W, Below w.heap.size w W → ∃ b off ka kc kn kh, ba = some ⟨b, off, none⟩ ∧ b < w.heap.size ∧ Row7 b (off + j * 7) kh (.slice ka kn kc) W ∧ ∀ W', Below W.heap.size W W' → Calls Try.prog 13 #[ndV kh (.slice ka kn kc), .int .i64 size] W' fun e w' => e = .returned (.bool true) ∧ Below W'.heap.size W' w') := fun hc hf j hj W hb => by
    cases n with
    | zero => exact h.elim
    | succ n =>
      obtain ⟨ba2, bc2, e0, _, _, _, _, hk⟩ := h
      have : ba2 = ba := by
        unfold ndV at e0
        injection e0 with e0
        have := congrArg (fun a : Array Value => a[6]?) e0
        simp at this
        exact this.1.symm
      subst this
      have hk' : KidsAt A n t0.kids ba2 w := hk
      obtain ⟨b, off, ka, kc, e1, _, e2, e3, e4⟩ := hk'.at hb hj
      refine ⟨b, off, ka, kc, _, _, e1, ?_, e3, fun W' hb' => ?_⟩
      · obtain ⟨b', off', ka', kc', e1', _, e2', _⟩ := hk' j _ (List.getElem?_eq_getElem hj)
        rw [e1] at e1'
        cases e1'
        exact e2'
      · have hm := fitB_kid hf (List.getElem_mem hj)
        have := fit_any n _ _ size W' (e4.next hb') (by have := cntL_at hj; have := cntN_mk t0; omega)
        rw [hm] at this
        exact this
  have HWD : Hid (fitB t0 size = true → fitB t0 (size + more) = true) := fun hf => fitB_wider hf hm.1
  have hkl : t0.kids.length ≤ 140737488351232 := by
    cases n with
    | zero => exact h.elim
    | succ n => obtain ⟨_, _, _, _, _, _, h5, _⟩ := h; exact h5
  clear h
  have HLB : Hid (lightB t0 = decide (cntN t0 ≤ 5000)) := rfl
  generalize lightB t0 = LB at *
  generalize t0.kids.length = kl at *
  generalize t0.h = hd at *
  obtain ⟨zk, zn, zf, zr, zt, zb⟩ := hd
  obtain ⟨NN, hNN⟩ : ∃ NN, ndV ⟨zk, zn, zf, zr, zt, zb⟩ (.slice ba kl bc) = NN := ⟨_, rfl⟩
  unfold ndV at hlt HCT HLV HFT ⊢
  clear hNN NN
  simp only at *
  have hB0 : Below w.heap.size w (w.alloc (Obj.cells #[Value.string zk, Value.bool zn, Value.string zf, Value.int IntKind.i64 zr, Value.int IntKind.i64 zt, Value.int IntKind.i64 zb, Value.slice ba kl bc] 24)) := (Below.refl _ _).alloc (Nat.le_refl _) _
  have hz : w.heap.size < (w.alloc (Obj.cells #[Value.string zk, Value.bool zn, Value.string zf, Value.int IntKind.i64 zr, Value.int IntKind.i64 zt, Value.int IntKind.i64 zb, Value.slice ba kl bc] 24)).heap.size := by simp
  have r7 : Row7 w.heap.size 0 ⟨zk, zn, zf, zr, zt, zb⟩ (.slice ba kl bc) (w.alloc (Obj.cells #[Value.string zk, Value.bool zn, Value.string zf, Value.int IntKind.i64 zr, Value.int IntKind.i64 zt, Value.int IntKind.i64 zb, Value.slice ba kl bc] 24)) := by refine ⟨?_, ?_, ?_, ?_, ?_, ?_, ?_⟩ <;> simp
  have hlt1 := hlt _ hB0
  clear hlt
  have HM : Hid (0 ≤ more ∧ more ≤ 65535) := hm
  have HSZ : Hid (i64B size) := hs
  clear hm hs
  go_enter Try.func8, Try.ntmps8
  cases LB with
  | false =>
    go_wp2_with fail
    refine hlt1.mono ?_
    rintro e w1 ⟨rfl, hb1⟩
    have haw := HAW.out w1
    go_wp2_with (go_at_call 10; refine haw.mono ?_; rintro e w2 ⟨rfl, hb2⟩)
    go_ret
    exact ⟨rfl, below_next (below_next hB0 hb1) hb2⟩
  | true =>
    go_wp2_with fail
    refine hlt1.mono ?_
    rintro e w1 ⟨rfl, hb1⟩
    have hBB1 : Below w.heap.size w w1 := below_next hB0 hb1
    have hc : cntN t0 ≤ 5000 := of_decide_eq_true HLB.out.symm
    have HR : Hid (∀ W, Below w1.heap.size w1 W → Row7 w.heap.size 0 ⟨zk, zn, zf, zr, zt, zb⟩ (.slice ba kl bc) W) := fun W hb => (r7.but (D := fun _ => False) (But.of_next hb1) hz (fun h => h)).but (D := fun _ => False) (But.of_next hb) (Nat.lt_of_lt_of_le hz hb1.size) (fun h => h)
    have HBW : Hid (∀ W, Below w1.heap.size w1 W → Below w.heap.size w W) := fun W hb => below_next hBB1 hb
    have HKD2 := HKD.out hc
    have HCT2 : Hid _ := HCT.out hc
    have HLV2 : Hid _ := HLV.out hc
    have HFT2 : Hid _ := HFT.out hc
    have HKD3 : Hid _ := HKD2
    have hz1 : w.heap.size < w1.heap.size := Nat.lt_of_lt_of_le hz hb1.size
    clear HKD2 HKD HCT HLV HFT hlt1 r7 HLB hz hb1 hB0
    by_cases g0 : 1099511627776 < size
    case pos =>
      have haw := HAW.out w1
      clear HKD3 HCT2 HLV2 HFT2
      go_wp2_with (go_at_call 10; refine haw.mono ?_; rintro e w2 ⟨rfl, hb2⟩)
      go_ret
      exact ⟨rfl, below_next hBB1 hb2⟩
    have rr := HR.out w1 (Below.refl _ _)
    obtain ⟨r0, r1, r2, r3, r4, r5, r6⟩ := rr
    simp only [Nat.zero_add] at r1 r2 r3 r4 r5 r6
    have hct := HCT2.out w1 hBB1
    clear HCT2
    go_wp2_with fail
    refine hct.mono ?_
    rintro e w2 ⟨cn, dn, hcd0, rfl, hb2⟩
    have HCD : Hid (0 ≤ cn ∧ cn = cntN t0 ∧ dn ≤ cn) := hcd0
    clear hcd0
    have rr := HR.out w2 hb2
    obtain ⟨r0, r1, r2, r3, r4, r5, r6⟩ := rr
    simp only [Nat.zero_add] at r1 r2 r3 r4 r5 r6
    have hlv := HLV2.out w2 (HBW.out _ hb2)
    clear hct HLV2
    go_wp2_with fail
    refine hlv.mono ?_
    rintro e w3 ⟨la, ln, lc, hln, rfl, hb3⟩
    have hB3 : Below w1.heap.size w1 w3 := below_next hb2 hb3
    have k1 : ¬ cn < (ln : Int) := by have := HCD.out; omega
    have k2 : ¬ cn < dn := by have := HCD.out; omega
    have rr := HR.out w3 hB3
    obtain ⟨r0, r1, r2, r3, r4, r5, r6⟩ := rr
    simp only [Nat.zero_add] at r1 r2 r3 r4 r5 r6
    have hft := HFT2.out size w3 (HBW.out _ hB3)
    clear hlv hln hb2 hb3 HCD
    go_wp2_with fail
    refine hft.mono ?_
    rintro e w4 ⟨rfl, hb4⟩
    have hB4 : Below w1.heap.size w1 w4 := below_next hB3 hb4
    have rr := HR.out w4 hB4
    obtain ⟨r0, r1, r2, r3, r4, r5, r6⟩ := rr
    simp only [Nat.zero_add] at r1 r2 r3 r4 r5 r6
    have haw := HAW.out w4
    have HFE : Hid (fitB t0 size = fitB t0 size) := rfl
    generalize hFB : fitB t0 size = FB at *
    clear hft hb4 hB3 HFE
    cases FB with
    | false =>
      go_wp2_with (go_at_call 10; refine haw.mono ?_; rintro e w5 ⟨rfl, hb5⟩)
      go_ret
      exact ⟨rfl, below_next (HBW.out _ hB4) hb5⟩
    | true =>
      have HFB : Hid (fitB t0 size = true) := hFB
      have HKD4 : Hid _ := HKD3.out rfl
      have HWD2 : Hid _ := HWD.out rfl
      clear haw hFB HKD3 HWD
      go_wp2_with fail
      go_loopw [42] (fun c wr => ∃ j : Nat, c = .int .i64 j ∧ j ≤ kl ∧ Below w4.heap.size w4 wr) (fun c _ => kl - (intOf c).toNat)
      case atStart => exact ⟨0, rfl, Nat.zero_le _, Below.refl _ _⟩
      case round =>
        obtain ⟨j, rfl, hj, hB⟩ := hrel
        have hBr : Below w1.heap.size w1 wr := below_next hB4 hB
        by_cases hlt : j < kl
        · have k3 : (j : Int) < kl := by omega
          obtain ⟨b, off, ka, kc, kn, kh, rfl, hbl, ⟨e0, e1, e2, e3, e4, e5, e6⟩, hcl⟩ := HKD4.out j hlt wr (HBW.out _ hBr)
          obtain ⟨xk, xn, xf, xr, xt, xb⟩ := kh
          unfold ndV at hcl
          simp only at e0 e1 e2 e3 e4 e5 e6 hcl
          have hcl1 := hcl (wr.alloc (Obj.cells #[Value.string xk, Value.bool xn, Value.string xf, Value.int IntKind.i64 xr, Value.int IntKind.i64 xt, Value.int IntKind.i64 xb, Value.slice ka kn kc] 24)) ((Below.refl _ _).alloc (Nat.le_refl _) _)
          have hBk : Below wr.heap.size wr (wr.alloc (Obj.cells #[Value.string xk, Value.bool xn, Value.string xf, Value.int IntKind.i64 xr, Value.int IntKind.i64 xt, Value.int IntKind.i64 xb, Value.slice ka kn kc] 24)) := (Below.refl _ _).alloc (Nat.le_refl _) _
          clear hcl
          go_wp2_with fail
          refine hcl1.mono ?_
          rintro e w5 ⟨rfl, hb5⟩
          have hB5 : Below w4.heap.size w4 w5 := below_next (below_next hB hBk) hb5
          clear hcl1 e0 e1 e2 e3 e4 e5 e6 hb5 hBk
          go_wp2_with fail
          exact ⟨⟨j + 1, by go_num, by omega, hB5⟩, by simp [intOf]; omega⟩
        · have k3 : ¬ (j : Int) < kl := by omega
          have rr := HR.out wr hBr
          obtain ⟨r0, r1, r2, r3, r4, r5, r6⟩ := rr
          simp only [Nat.zero_add] at r1 r2 r3 r4 r5 r6
          have hft := HFT2.out (size + more) wr (HBW.out _ hBr)
          rw [HWD2.out] at hft
          have hs := HSZ.out
          have hm := HM.out
          unfold i64B at hs
          have e1 : IntKind.i64.wrap more = more := IntWalk.i64_in _ (by omega)
          have e2 : IntKind.i64.wrap (size + more) = size + more := IntWalk.i64_in _ (by omega)
          clear HKD4 HFT2 HR
          go_wp2_with fail
          refine hft.mono ?_
          rintro e w6 ⟨rfl, hb6⟩
          have haw := HAW.out w6
          have hB6 : Below w.heap.size w w6 := HBW.out _ (below_next hBr hb6)
          clear hft HAW r0 r1 r2 r3 r4 r5 r6
          go_wp2_with (go_at_call 10; refine haw.mono ?_; rintro e w7 ⟨rfl, hb7⟩)
          go_ret
          exact ⟨rfl, below_next hB6 hb7⟩
end Go.Proofs.Ytjcakejokkjnlaa
