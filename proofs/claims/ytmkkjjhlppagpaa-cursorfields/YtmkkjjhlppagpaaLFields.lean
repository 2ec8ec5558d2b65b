/- CursorFields: the law, for every tree, path and name. -/
import Derived.Test.YtmkkjjhlppagpaaLInts2
import Derived.Test.YtmkkjjhlppagpaaRAside
namespace Go.Proofs.Ytmkkjjhlppagpaa
open Go.RowKit

theorem up_of_kid {t x : Nd} {p : List Int} {i : Nat} (hx : findN t p = some x) (hi : i < x.kids.length) : upN t (p ++ [(i : Int)]) = some p := by
  have h1 : (findN t (p ++ [(i : Int)])).isSome = true := by
    rw [findN_snoc_some, hx]
    exact hasI_iff.2 ⟨by omega, by omega⟩
  unfold upN
  rw [if_pos ⟨h1, by simp⟩, List.dropLast_concat]

set_option maxRecDepth 100000 in
set_option maxHeartbeats 8000000 in
theorem lfields_any {A : Nat → Prop} (n : Nat) (t : Nd) (v : Value) (p : List Int) (pv : Value) (nm : ByteArray) (w : World) (h : TAt A n t v w) (hp : SlP p pv w) (hpl : p.length ≤ 140737488351232) :
    Calls Try.prog 7 #[v, pv, .string nm] w fun e w' => e = .returned (.bool true) ∧ Below w.heap.size w w' := by
  obtain ⟨ba, bc, rfl, _⟩ := h.val
  obtain ⟨W0, hW0⟩ : ∃ W0, W0 = w.alloc (Obj.cells #[.string t.h.kind, .bool t.h.named, .string t.h.field, .int .i64 t.h.frm, .int .i64 t.h.to, .int .i64 t.h.bad, .slice ba t.kids.length bc] 24) := ⟨_, rfl⟩
  have hB0 : Below w.heap.size w W0 := by rw [hW0]; exact (Below.refl _ _).alloc (Nat.le_refl _) _
  have hb0 : W0.heap[w.heap.size]? = some (.cells #[.string t.h.kind, .bool t.h.named, .string t.h.field, .int .i64 t.h.frm, .int .i64 t.h.to, .int .i64 t.h.bad, .slice ba t.kids.length bc] 24 (0, 0)) := by rw [hW0]; exact World.alloc_heap_new w _
  have hsz : w.heap.size < W0.heap.size := by rw [hW0]; simp
  have HB : Hid (Below w.heap.size w W0) := hB0
  have HT : Hid (∀ W, Below W0.heap.size W0 W → TAt A n t (ndV t.h (.slice ba t.kids.length bc)) W) := fun W hW => (h.next hB0).next hW
  have HR : Hid (∀ W, Below W0.heap.size W0 W → W.heap[w.heap.size]? = some (.cells #[.string t.h.kind, .bool t.h.named, .string t.h.field, .int .i64 t.h.frm, .int .i64 t.h.to, .int .i64 t.h.bad, .slice ba t.kids.length bc] 24 (0, 0))) := fun W hW => (hW.block _ hsz).trans hb0
  have hsm := small_any n t _ 800 W0 (h.next hB0) (by decide) (by decide)
  by_cases hc : cntN t ≤ 800
  case neg =>
    have hv : smallV (cntN t) 800 = -1 := by unfold smallV; rw [if_neg (by omega)]
    rw [hv] at hsm
    have HA : Hid (∀ W, _) := awake_any
    obtain ⟨pa, pc, rfl, _⟩ := hp
    clear h hB0 hb0 hsz HT HR
    rw [hW0] at hsm
    unfold ndV at *
    go_enter Try.func7, Try.ntmps7
    go_wp2_with fail
    refine hsm.mono ?_
    rw [← hW0]
    rintro e w1 ⟨rfl, hb1⟩
    have hA := HA.out w1
    have HB1 : Hid (Below w.heap.size w w1) := below_next HB.out hb1
    clear hsm hW0 hb1
    go_wp2_with fail
    refine hA.mono ?_
    rintro e w2 ⟨rfl, hb2⟩
    have HB2 : Hid (Below w.heap.size w w2) := below_next HB1.out hb2
    clear hA hb2 HB1
    go_wp2_with fail
    go_ret
    exact ⟨rfl, HB2.out⟩
  have hv : smallV (cntN t) 800 = 800 - (cntN t : Int) := by unfold smallV; rw [if_pos (by omega)]
  rw [hv] at hsm
  obtain ⟨lf, hlf⟩ : ∃ lf : Int, 800 - (cntN t : Int) = lf := ⟨_, rfl⟩
  have hlf0 : ¬ lf < 0 := by omega
  rw [hlf] at hsm
  have hc5 : cntN t ≤ 5000 := by omega
  have HP : Hid (∀ W, Below W0.heap.size W0 W → SlP p pv W) := fun W hW => (hp.next hB0).next hW
  have HFI : Hid (∀ W, Below W0.heap.size W0 W → Calls Try.prog 21 #[ndV t.h (.slice ba t.kids.length bc), pv, .string nm] W fun e w' => GivesP W.heap.size (fieldN t p nm) e w' ∧ Below W.heap.size W w') := fun W hW => field_any n t _ p pv nm W (HT.out W hW) hc5 (HP.out W hW) hpl
  have HFD : Hid (∀ W, Below W0.heap.size W0 W → Calls Try.prog 28 #[ndV t.h (.slice ba t.kids.length bc), pv] W fun e w' => (∃ hd ka kl kc, e = .returned (.tuple #[ndV hd (.slice ka kl kc), .bool (findN t p).isSome]) ∧ hd = ((findN t p).getD zeroN).h ∧ kl = ((findN t p).getD zeroN).kids.length ∧ kl ≤ 140737488351232 ∧ (∃ m, TAt (fun _ => True) m ((findN t p).getD zeroN) (ndV hd (.slice ka kl kc)) w')) ∧ Below W.heap.size W w') := fun W hW => rfind_call n t _ p pv W (HT.out W hW) hc5 (HP.out W hW) hpl
  have HUP : Hid (∀ (i : Nat) (qv : Value) W, Below W0.heap.size W0 W → SlP (p ++ [(i : Int)]) qv W → p.length ≤ 5000 → Calls Try.prog 13 #[ndV t.h (.slice ba t.kids.length bc), qv] W fun e w' => GivesP W.heap.size (upN t (p ++ [(i : Int)])) e w' ∧ Below W.heap.size W w') := fun i qv W hW hq hl => up_any n t _ _ qv W (HT.out W hW) hc5 hq (by simp; omega)
  have HL5 : Hid (∀ x, findN t p = some x → p.length ≤ 5000) := fun x hx => by have := findN_len p t x hx; omega
  have HKC : Hid (∀ x i, findN t p = some x → i < x.kids.length → upN t (p ++ [(i : Int)]) = some p) := fun x i => up_of_kid
  have HD : Hid (fieldN t p nm = match findN t p with
    | none => none
    | some x => (fieldI x nm).map (fun (i : Nat) => p ++ [(i : Int)])) := rfl
  generalize fieldN t p nm = D at *
  have HA : Hid (∀ W, _) := awake_any
  obtain ⟨pa, pc, rfl, _⟩ := hp
  clear h hB0 hb0 hsz HT hc hc5 hlf hv
  generalize hth : t.h = hd at *
  generalize htk : t.kids.length = kl0 at *
  clear hth htk
  obtain ⟨zk, zn, zf, zr, zt, zb⟩ := hd
  rw [hW0] at hsm
  unfold ndV at *
  simp only at *
  go_enter Try.func7, Try.ntmps7
  go_wp2_with fail
  refine hsm.mono ?_
  rw [← hW0]
  rintro e w1 ⟨rfl, hb1⟩
  clear hsm hW0
  have HW : Hid (Below W0.heap.size W0 w1) := hb1
  clear hb1
  obtain ⟨v0, v1, v2, v3, v4, v5, v6⟩ := cells7_at (HR.out w1 HW.out)
  have hx := HFD.out w1 HW.out
  go_wp2_with fail
  refine hx.mono ?_
  rintro e wf ⟨⟨hd1, ka, kl, kc, rfl, hh, hkl, hk, m, hT⟩, hbf⟩
  have HWf : Hid (Below W0.heap.size W0 wf) := below_next HW.out hbf
  clear hx v0 v1 v2 v3 v4 v5 v6 HW hbf HFD
  generalize hF : findN t p = F at *
  cases F with
  | none =>
    have HE : Hid (D = none) := HD.out
    obtain rfl : kl = 0 := hkl
    obtain ⟨uk, un, uf, ur, ut, ub⟩ := hd1
    clear hh hT HD
    have HWx : Hid (Below W0.heap.size W0 (wf.alloc (Obj.cells #[.string uk, .bool un, .string uf, .int .i64 ur, .int .i64 ut, .int .i64 ub, .slice ka 0 kc] 24))) := below_next HWf.out ((Below.refl _ _).alloc (Nat.le_refl _) _)
    have hbx := World.alloc_heap_new wf (Obj.cells #[.string uk, .bool un, .string uf, .int .i64 ur, .int .i64 ut, .int .i64 ub, .slice ka 0 kc] 24)
    have hlx : wf.heap.size < (wf.alloc (Obj.cells #[.string uk, .bool un, .string uf, .int .i64 ur, .int .i64 ut, .int .i64 ub, .slice ka 0 kc] 24)).heap.size := by simp
    obtain ⟨v0, v1, v2, v3, v4, v5, v6⟩ := cells7_at (HR.out (wf.alloc (Obj.cells #[.string uk, .bool un, .string uf, .int .i64 ur, .int .i64 ut, .int .i64 ub, .slice ka 0 kc] 24)) HWx.out)
    have hx := HFI.out _ HWx.out
    clear HFI HWf
    go_wp2_with fail
    generalize wf.alloc (Obj.cells #[.string uk, .bool un, .string uf, .int .i64 ur, .int .i64 ut, .int .i64 ub, .slice ka 0 kc] 24) = Wx at *
    generalize wf.heap.size = PX at *
    refine hx.mono ?_
    rintro e wc ⟨hg, hb⟩
    obtain ⟨kv, rfl, hks⟩ := hg.sl
    have HWc : Hid (Below W0.heap.size W0 wc) := below_next HWx.out hb
    have HBX : Hid (wc.heap[PX]? = some (.cells #[.string uk, .bool un, .string uf, .int .i64 ur, .int .i64 ut, .int .i64 ub, .slice ka 0 kc] 24 (0, 0))) := (hb.block _ hlx).trans hbx
    have HXC : Hid (Below Wx.heap.size Wx wc) := hb
    clear hx hg hb v0 v1 v2 v3 v4 v5 v6 HWx hbx hlx
    have HDE := HE.out
    rw [HDE]
    simp only [Option.isSome_none]
    obtain ⟨v0, v1, v2, v3, v4, v5, v6⟩ := cells7_at HBX.out
    clear hks HDE
    go_wp2_with fail
    go_loopw [39] (fun c wr => c = .int .i64 0 ∧ wr = wc) (fun _ _ => 0)
    case atStart => exact ⟨rfl, rfl⟩
    case round =>
      obtain ⟨rfl, hwr⟩ := hrel
      obtain rfl : wc = wr := hwr.symm
      clear hwr
      have hA := HA.out wc
      go_wp2_with fail
      refine hA.mono ?_
      rintro e w9 ⟨rfl, hb⟩
      have HW9 : Hid (Below w.heap.size w w9) := HB.out.trans ((below_next HWc.out hb).mono HB.out.size)
      clear hA hb
      go_wp2_with fail
      go_ret
      exact ⟨rfl, HW9.out⟩
  | some x =>
    have hpl5 := HL5.out x rfl
    simp only [Option.getD_some] at hh hkl hT
    subst hh hkl
    obtain ⟨m2, q1, q2, q3, _, hxl, hKx⟩ := TAt.succ hT
    have HK : Hid (∀ W, Below wf.heap.size wf W → KidsAt (fun _ => True) m2 x.kids ka W) := fun W hb => KidsAt.next hKx hb
    have HDX : Hid (D = (fieldI x nm).map (fun (i : Nat) => p ++ [(i : Int)])) := HD.out
    have HNO : Hid (fieldI x nm = none → ∀ j (hj : j < x.kids.length), decide (x.kids[j].h.field = nm) = false) := fun h j hj => by
      have := List.findIdx?_eq_none_iff.1 h _ (List.getElem_mem hj)
      simpa using this
    have HYES : Hid (∀ i, fieldI x nm = some i → ∃ hi : i < x.kids.length, decide (x.kids[i].h.field = nm) = true ∧ ∀ j (hj : j < x.kids.length), j < i → decide (x.kids[j].h.field = nm) = false) := fun i h => by
      obtain ⟨h1, h2, h3⟩ := List.findIdx?_eq_some_iff_getElem.1 h
      refine ⟨h1, h2, fun j hj hji => ?_⟩
      have := h3 j hji
      simpa using this
    have HUX : Hid (∀ i, i < x.kids.length → upN t (p ++ [(i : Int)]) = some p) := fun i hi => HKC.out x i rfl hi
    generalize fieldI x nm = J at *
    generalize x.kids = subs at *
    generalize x.h = xh at *
    obtain ⟨uk, un, uf, ur, ut, ub⟩ := xh
    clear hT hKx q1 q2 HD HL5 HKC
    simp only at *
    have HWA : Hid (Below wf.heap.size wf (wf.alloc (Obj.cells #[.string uk, .bool un, .string uf, .int .i64 ur, .int .i64 ut, .int .i64 ub, .slice ka subs.length kc] 24))) := (Below.refl _ _).alloc (Nat.le_refl _) _
    have HZA : Hid (wf.heap.size ≤ (wf.alloc (Obj.cells #[.string uk, .bool un, .string uf, .int .i64 ur, .int .i64 ut, .int .i64 ub, .slice ka subs.length kc] 24)).heap.size) := HWA.out.size
    have HK2 : Hid (∀ W, Below (wf.alloc (Obj.cells #[.string uk, .bool un, .string uf, .int .i64 ur, .int .i64 ut, .int .i64 ub, .slice ka subs.length kc] 24)).heap.size (wf.alloc (Obj.cells #[.string uk, .bool un, .string uf, .int .i64 ur, .int .i64 ut, .int .i64 ub, .slice ka subs.length kc] 24)) W → KidsAt (fun _ => True) m2 subs ka W) := fun W hb => HK.out W (HWA.out.trans (hb.mono HZA.out))
    clear HWA HZA HK
    have HWx : Hid (Below W0.heap.size W0 (wf.alloc (Obj.cells #[.string uk, .bool un, .string uf, .int .i64 ur, .int .i64 ut, .int .i64 ub, .slice ka subs.length kc] 24))) := below_next HWf.out ((Below.refl _ _).alloc (Nat.le_refl _) _)
    have hbx := World.alloc_heap_new wf (Obj.cells #[.string uk, .bool un, .string uf, .int .i64 ur, .int .i64 ut, .int .i64 ub, .slice ka subs.length kc] 24)
    have hlx : wf.heap.size < (wf.alloc (Obj.cells #[.string uk, .bool un, .string uf, .int .i64 ur, .int .i64 ut, .int .i64 ub, .slice ka subs.length kc] 24)).heap.size := by simp
    obtain ⟨v0, v1, v2, v3, v4, v5, v6⟩ := cells7_at (HR.out (wf.alloc (Obj.cells #[.string uk, .bool un, .string uf, .int .i64 ur, .int .i64 ut, .int .i64 ub, .slice ka subs.length kc] 24)) HWx.out)
    have hx := HFI.out _ HWx.out
    clear HFI HWf
    go_wp2_with fail
    generalize wf.alloc (Obj.cells #[.string uk, .bool un, .string uf, .int .i64 ur, .int .i64 ut, .int .i64 ub, .slice ka subs.length kc] 24) = Wx at *
    generalize wf.heap.size = PX at *
    refine hx.mono ?_
    rintro e wc ⟨hg, hb⟩
    obtain ⟨kv, rfl, hks⟩ := hg.sl
    have HWc : Hid (Below W0.heap.size W0 wc) := below_next HWx.out hb
    have HBX : Hid (wc.heap[PX]? = some (.cells #[.string uk, .bool un, .string uf, .int .i64 ur, .int .i64 ut, .int .i64 ub, .slice ka subs.length kc] 24 (0, 0))) := (hb.block _ hlx).trans hbx
    have HXC : Hid (Below Wx.heap.size Wx wc) := hb
    clear hx hg hb v0 v1 v2 v3 v4 v5 v6 HWx hbx hlx
    have HK3 : Hid (∀ W, Below wc.heap.size wc W → KidsAt (fun _ => True) m2 subs ka W) := fun W hb => HK2.out W (below_next HXC.out hb)
    have HBC : Hid (∀ W, Below wc.heap.size wc W → W.heap[PX]? = some (.cells #[.string uk, .bool un, .string uf, .int .i64 ur, .int .i64 ut, .int .i64 ub, .slice ka subs.length kc] 24 (0, 0))) := fun W hb => (hb.block _ (Array.getElem?_eq_some_iff.1 HBX.out).1).trans HBX.out
    clear HK2 HXC
    obtain ⟨v0, v1, v2, v3, v4, v5, v6⟩ := cells7_at HBX.out
    cases J with
    | none =>
      have HE : Hid (D = none) := HDX.out
      have hno := HNO.out rfl
      have HDE := HE.out
      rw [HDE]
      simp only [Option.isSome_none]
      have HNN : Hid (∀ j (hj : j < subs.length), decide (subs[j].h.field = nm) = false) := hno
      clear HDE hno HNO HYES HDX hks
      go_wp2_with fail
      go_loopw [39] (fun c wr => ∃ j : Nat, c = .int .i64 j ∧ j ≤ subs.length ∧ Below wc.heap.size wc wr) (fun c _ => subs.length - (intOf c).toNat)
      case atStart => exact ⟨0, rfl, Nat.zero_le _, Below.refl _ _⟩
      case round =>
        obtain ⟨j, rfl, hj, hBj⟩ := hrel
        by_cases hlt : j < subs.length
        · have k1 : (j : Int) < subs.length := by omega
          obtain ⟨b, off, ka2, kc2, rfl, _, hb, ⟨e0, e1, e2, e3, e4, e5, e6⟩, _⟩ := (HK3.out wr hBj) j subs[j] (by simp [hlt])
          have hbq := bytes_beq subs[j].h.field nm
          rw [HNN.out j hlt] at hbq
          have hBk := fun o => hBj.alloc (o := o) hBj.size
          have HBk : Hid _ := hBk
          generalize subs[j].h = sh at *
          generalize subs[j].kids.length = sk at *
          obtain ⟨yk, yn, yf, yr, yt, yb⟩ := sh
          simp only at *
          clear hBk v0 v1 v2 v3 v4 v5 v6
          go_wp2_with fail
          exact ⟨⟨j + 1, by go_num, by omega, HBk.out _⟩, by simp [intOf]; omega⟩
        · have k1 : ¬ (j : Int) < subs.length := by omega
          have HWe : Hid (Below W0.heap.size W0 wr) := below_next HWc.out hBj
          have hA := HA.out wr
          go_wp2_with fail
          refine hA.mono ?_
          rintro e w9 ⟨rfl, hb⟩
          have HW9 : Hid (Below w.heap.size w w9) := HB.out.trans ((below_next HWe.out hb).mono HB.out.size)
          clear hA hb
          go_wp2_with fail
          go_ret
          exact ⟨rfl, HW9.out⟩
    | some i =>
      obtain ⟨hi, hfi, hfj⟩ := HYES.out i rfl
      have HE : Hid (D = some (p ++ [(i : Int)])) := HDX.out
      have HDE := HE.out
      rw [HDE] at hks
      rw [HDE]
      simp only [Option.isSome_some, Option.getD_some] at hks ⊢
      have HKS : Hid (SlP (p ++ [(i : Int)]) kv wc) := hks
      obtain ⟨qa, qc, rfl, hqr, hqn, hqc⟩ := hks
      obtain ⟨b2, off2, rfl, hb2, qcell⟩ := hqr p.length (i : Int) (by simp)
      have hql : (p ++ [(i : Int)]).length = p.length + 1 := by simp
      obtain ⟨pl1, hpl1⟩ : ∃ pl1, p.length + 1 = pl1 := ⟨_, rfl⟩
      rw [hql, hpl1] at HKS ⊢
      have HNN : Hid (∀ j (hj : j < subs.length), j < i → decide (subs[j].h.field = nm) = false) := hfj
      obtain ⟨b, off, ka2, kc2, rfl, _, hb, ⟨e0, e1, e2, e3, e4, e5, e6⟩, _⟩ := (HK3.out wc (Below.refl _ _)) i subs[i] (by simp [hi])
      have hbq := bytes_beq subs[i].h.field nm
      rw [hfi] at hbq
      have hup := HUX.out i hi
      have HU1 : Hid (upN t (p ++ [(i : Int)]) = some p) := hup
      have HII : Hid (i < subs.length) := hi
      generalize subs[i].h = sh at *
      generalize subs[i].kids.length = sk at *
      obtain ⟨yk, yn, yf, yr, yt, yb⟩ := sh
      simp only at *
      have k1 : ¬ ((subs.length : Int) ≤ (i : Int)) := by omega
      have k2 : (i : Int) < (subs.length : Int) := by omega
      have k3 : IntKind.i64.wrap ((p.length : Int) + 1) = (pl1 : Int) := by rw [IntWalk.i64_in _ (by omega)]; omega
      have k4 : ((pl1 : Int) != (pl1 : Int)) = false := by simp
      have k5 : (p.length : Int) < (pl1 : Int) := by omega
      have HPL1 : Hid (p.length + 1 = pl1) := hpl1
      clear hpl1
      clear HNO HYES HDX HDE hqr hqn hql hup hfi hfj
      have k6 : ¬ (kc : Int) < (i : Int) := by omega
      have hbn : (yf.toList != nm.toList) = false := by simpa using hbq
      go_wp2_with fail
      go_quiet (fail)
      generalize nq = nq0 at *
      go_wp2_with fail
      go_quiet (fail)
      go_wp2_with fail
      have HW2 : Hid (Below wc.heap.size wc ((wc.drewN nq0).drewN nq)) := below_drewN (below_drewN (Below.refl _ _) _) _
      generalize (wc.drewN nq0).drewN nq = wz at *
      clear qcell v0 v1 v2 v3 v4 v5 v6 e0 e1 e2 e3 e4 e5 e6 hbq hbn
      go_loopw [96] (fun c wr => ∃ j : Nat, c = .int .i64 j ∧ j ≤ i ∧ Below wc.heap.size wc wr) (fun c _ => i - (intOf c).toNat)
      case atStart => exact ⟨0, rfl, Nat.zero_le _, HW2.out⟩
      case round =>
        obtain ⟨j, rfl, hj, hBj⟩ := hrel
        by_cases hlt : j < i
        · have l1 : (j : Int) < (i : Int) := by omega
          have hjs : j < subs.length := by have := HII.out; omega
          obtain ⟨b5, off5, ka5, kc5, hbe, _, hb5, ⟨e0, e1, e2, e3, e4, e5, e6⟩, _⟩ := (HK3.out wr hBj) j subs[j] (by simp [hjs])
          injection hbe with hbe
          injection hbe with hbe1 hbe2
          subst hbe1 hbe2
          have hbq := bytes_beq subs[j].h.field nm
          rw [HNN.out j hjs hlt] at hbq
          have hBk := fun o => hBj.alloc (o := o) hBj.size
          have HBk : Hid _ := hBk
          generalize subs[j].h = sh at *
          generalize subs[j].kids.length = sk5 at *
          obtain ⟨wk, wn, wf5, wr5, wt, wb⟩ := sh
          simp only at *
          clear hBk
          go_wp2_with fail
          exact ⟨⟨j + 1, by go_num, by omega, HBk.out _⟩, by simp [intOf]; omega⟩
        · have l1 : ¬ (j : Int) < (i : Int) := by omega
          have HWe : Hid (Below W0.heap.size W0 wr ∧ Below wc.heap.size wc wr) := ⟨below_next HWc.out hBj, hBj⟩
          obtain ⟨v0, v1, v2, v3, v4, v5, v6⟩ := cells7_at (HR.out wr HWe.out.1)
          have hx := HUP.out i _ wr HWe.out.1 (HKS.out.next hBj) hpl5
          rw [HU1.out] at hx
          clear hBj
          go_wp2_with fail
          refine hx.mono ?_
          rintro e wu ⟨⟨uv, rfl, huo⟩, hb⟩
          have HWu : Hid (Below W0.heap.size W0 wu) := below_next HWe.out.1 hb
          have hin := ints_is p p uv _ wu (SlP.of_own huo) (HP.out wu HWu.out)
          rw [decide_eq_true rfl] at hin
          clear hx huo hb v0 v1 v2 v3 v4 v5 v6
          simp only [Option.isSome_some]
          go_wp2_with fail
          refine hin.mono ?_
          rintro e wv ⟨rfl, hb⟩
          have HWv : Hid (Below W0.heap.size W0 wv) := below_next HWu.out hb
          clear hin hb
          have hA := HA.out wv
          go_wp2_with fail
          refine hA.mono ?_
          rintro e w9 ⟨rfl, hb⟩
          have HW9 : Hid (Below w.heap.size w w9) := HB.out.trans ((below_next HWv.out hb).mono HB.out.size)
          clear hA hb
          go_wp2_with fail
          go_ret
          exact ⟨rfl, HW9.out⟩
end Go.Proofs.Ytmkkjjhlppagpaa
