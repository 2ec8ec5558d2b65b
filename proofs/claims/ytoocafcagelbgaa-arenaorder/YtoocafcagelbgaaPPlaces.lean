/- placesOf, Fit. -/
import Derived.Test.YtoocafcagelbgaaPFramed
import Derived.Test.YtoocafcagelbgaaMHeld
namespace Go.Proofs.Ytoocafcagelbgaa
open Go.RowKit

/-- What live slots hold, up to some place: where it is, and how many keys there are. -/
def plF (l : List Sl) : Nat → (HK → Option Nat) × Nat
  | 0 => (fun _ => none, 0)
  | j + 1 => match l[j]? with
    | none => plF l j
    | some s => if 0 < s.refs then (updF (plF l j).1 (keyH s.nd.h s.kids) (some j), if ((plF l j).1 (keyH s.nd.h s.kids)).isSome then (plF l j).2 else (plF l j).2 + 1) else plF l j
theorem plF_le (l : List Sl) : ∀ j, (plF l j).2 ≤ j
  | 0 => Nat.le_refl _
  | j + 1 => by
    have := plF_le l j
    unfold plF
    split
    · omega
    · split
      · simp only; split <;> omega
      · omega
def fitAB (a : Ar) (most : Nat) : Bool := framedB a most && decide ((plF a.slots a.slots.length).2 = liveN a.slots)
theorem okK_of {s : Sl} (h : SlOk s) (hk : s.kids.length ≤ 1000000) : okK (keyH s.nd.h s.kids) :=
  ⟨h.hd.kind, h.hd.field, h.hd.frm, h.hd.til, h.hd.bad, by
    show (textK s.kids).size ≤ _
    have : (textK s.kids).size = (textB s.kids).length := rfl
    rw [this, textB_len]; omega⟩

theorem run_makeMapH (n : Int) (W : World) : (Instr.makeMap 61 (some (.int .i64 n))).run Try.prog W = .ok (.map (some W.heap.size)) (W.alloc (.map #[] 0)) := by
  simp [Instr.makeMap, run_underlying Try.underlying61, asInt, go_sem, Result.andThen]
set_option maxRecDepth 100000 in
set_option maxHeartbeats 4000000 in
theorem placesOf_any (a : Ar) (v : Value) (most : Nat) (w : World) (h : ArV a v w) (hkl : ∀ s ∈ a.slots, s.kids.length ≤ 1000000) (hm1 : 1 ≤ most) (hm2 : most ≤ 1048576) :
    Calls Try.prog 29 #[v, .int .i64 (most : Int)] w fun e w' => (∃ m, e = .returned (.tuple #[m, .bool (fitAB a most)]) ∧ (framedB a most = true → ∃ b, m = .map (some b) ∧ MapF b (plF a.slots a.slots.length).1 (plF a.slots a.slots.length).2 w' ∧ w.heap.size ≤ b)) ∧ Below w.heap.size w w' := by
  have HFR := framed_any a v most
  have HLV : Hid (∀ W, Below w.heap.size w W → Calls Try.prog 19 #[v] W fun e w' => e = .returned (.int .i64 (liveN a.slots)) ∧ Below W.heap.size W w') := fun W hb => live_any a v W (h.next hb)
  have HF1 : Hid (∀ W, Below w.heap.size w W → Calls Try.prog 38 #[v, .int .i64 (most : Int)] W fun e w' => e = .returned (.bool (framedB a most)) ∧ Below W.heap.size W w') := fun W hb => HFR W (h.next hb) hkl hm1 hm2
  have HLEN : Hid (framedB a most = true → a.slots.length ≤ 4096) := fun h => by
    unfold framedB at h
    simp only [Bool.and_eq_true, decide_eq_true_eq] at h
    exact h.1
  have HFV : Hid (fitAB a most = (framedB a most && decide ((plF a.slots a.slots.length).2 = liveN a.slots))) := rfl
  obtain ⟨sv, rv, rfl, ⟨ao, cap, rfl, hs, _, _, hlb⟩, hr, hfi, hrl⟩ := h
  obtain ⟨ra, rc, rfl, _⟩ := hr
  clear HFR
  have HKL : Hid (∀ s ∈ a.slots, s.kids.length ≤ 1000000) := hkl
  have hlv : liveN a.slots ≤ a.slots.length := List.countP_le_length
  generalize fitAB a most = FT at *
  generalize framedB a most = FR at *
  generalize liveN a.slots = lv at *
  generalize a.slots = l at *
  generalize a.roots.length = rl at *
  generalize a.free = fr at *
  have B0 : Below w.heap.size w (w.alloc (Obj.cells #[.slice ao l.length cap, .int .i64 fr, .slice ra rl rc] 25)) := (Below.refl _ _).alloc (Nat.le_refl _) _
  have b0 : ArBox w.heap.size ao l.length cap fr (.slice ra rl rc) (w.alloc (Obj.cells #[.slice ao l.length cap, .int .i64 fr, .slice ra rl rc] 25)) := ⟨by simp, by simp, by simp⟩
  have hc := HF1.out _ B0
  have HS : Hid (∀ W, Below w.heap.size w W → SlotsAt l ao W) := fun W hb => hs.next hb
  clear hs HF1 hkl
  go_enter Try.func29, Try.ntmps29
  go_wp2_with fail
  generalize w.alloc (Obj.cells #[.slice ao l.length cap, .int .i64 fr, .slice ra rl rc] 25) = w0 at *
  refine hc.mono ?_
  rintro e w1 ⟨rfl, hb1⟩
  have HBX : Hid (∀ W, Below w1.heap.size w1 W → ArBox w.heap.size ao l.length cap fr (.slice ra rl rc) W ∧ Below w.heap.size w W) := fun W hb => ⟨(b0.next hb1).next hb, below_next (below_next B0 hb1) hb⟩
  clear hc
  cases FR with
  | false =>
    have HV : Hid (FT = false) := by rw [HFV.out]; exact rfl
    clear HLV HS HFV HLEN
    go_wp2_with fail
    refine bodyPost_ret (results_tmp2 rfl _ _ _) rfl ?_
    exact ⟨⟨_, by rw [HV.out]; rfl, fun h => by cases h⟩, (HBX.out w1 (Below.refl _ _)).2⟩
  | true =>
  have hlen := HLEN.out rfl
  obtain ⟨c0, c1, c2⟩ := (HBX.out w1 (Below.refl _ _)).1
  have HV : Hid (FT = decide ((plF l l.length).2 = lv)) := by rw [HFV.out]; show _ = _; simp
  clear HFV HLEN b0 B0 hb1
  have hmk := run_makeMapH l.length w1
  have BM : Below w1.heap.size w1 (w1.alloc (.map #[] 0)) := (Below.refl _ _).alloc (Nat.le_refl _) _
  have HM0 : Hid (MapF w1.heap.size (plF l 0).1 (plF l 0).2 (w1.alloc (.map #[] 0))) := MapF.made w1
  obtain ⟨c0, c1, c2⟩ := (HBX.out _ BM).1
  obtain ⟨mb, HMB⟩ : ∃ mb, Hid (mb = w1.heap.size) := ⟨_, rfl⟩
  have HBM : Hid (Below mb w1 (w1.alloc (.map #[] 0))) := by rw [HMB.out]; exact BM
  rw [← HMB.out] at HM0 hmk
  clear BM
  go_wp2_with fail
  generalize w1.alloc (.map #[] 0) = w2 at *
  go_loopw [20] (fun iv wr => ∃ (i : Nat), iv = .int .i64 i ∧ i ≤ l.length ∧ Hid (MapF mb (plF l i).1 (plF l i).2 wr ∧ Below mb w1 wr)) (fun i _ => l.length - (intOf i).toNat)
  case atStart => exact ⟨0, rfl, Nat.zero_le _, HM0.out, HBM.out⟩
  case round =>
  obtain ⟨i, rfl, hi, HF⟩ := hrel
  have HBW : Hid (ArBox w.heap.size ao l.length cap fr (.slice ra rl rc) wr ∧ Below w.heap.size w wr) := HBX.out wr (by rw [← HMB.out]; exact HF.out.2)
  obtain ⟨c0, c1, c2⟩ := HBW.out.1
  have hmb : mb < wr.heap.size := HF.out.1.lt
  have hpl := plF_le l i
  by_cases hlt : i < l.length
  case neg =>
    obtain rfl : i = l.length := by omega
    have HLC := HLV.out wr HBW.out.2
    have hlen2 := fun W (hb : Below wr.heap.size wr W) (ty : TypeId) => (HF.out.1.next hb).len ty
    have HM : Hid (MapF mb (plF l l.length).1 (plF l l.length).2 wr ∧ Below w.heap.size w wr ∧ w.heap.size ≤ mb) := ⟨HF.out.1, HBW.out.2, by rw [HMB.out]; exact (HBX.out w1 (Below.refl _ _)).2.size⟩
    obtain ⟨np, HNP⟩ : ∃ np, Hid ((plF l l.length).2 = np) := ⟨_, rfl⟩
    rw [HNP.out] at hlen2 HV hpl
    obtain ⟨BB, HBB⟩ : ∃ BB : Bool, Hid (BB = decide (np = lv) ∧ ((np : Int) == (lv : Int)) = BB) := ⟨decide (np = lv), rfl, by rw [Bool.eq_iff_iff]; simp; omega⟩
    have hbb := HBB.out.2
    have hlen3 := hlen2 wr (Below.refl _ _)
    clear HF HLV HS hlen2
    go_wp2_with fail
    refine HLC.mono ?_
    rintro e w3 ⟨rfl, hb3⟩
    clear HLC
    go_wp2_with fail
    refine bodyPost_ret (results_tmp2 rfl _ _ _) rfl ?_
    exact ⟨⟨.map (some mb), by rw [HV.out, ← HBB.out.1]; rfl, ⟨mb, rfl, HM.out.1.next hb3, HM.out.2.2⟩⟩, below_next HM.out.2.1 hb3⟩
  obtain ⟨b, off, ka, kc, gv, rfl, hb, hrow, _, hks, hok⟩ := (HS.out wr HBW.out.2).at (Below.refl _ _) hlt
  have hkl := HKL.out l[i] (List.getElem_mem hlt)
  have hsi : l[i]? = some l[i] := List.getElem?_eq_getElem hlt
  have HPL : Hid (∀ K', keyH l[i].nd.h l[i].kids = K' → plF l (i + 1) = if 0 < l[i].refs then (updF (plF l i).1 K' (some i), if ((plF l i).1 K').isSome then (plF l i).2 else (plF l i).2 + 1) else plF l i) := by
    rintro _ rfl
    conv => lhs; unfold plF
    rw [hsi]
  have hkok := okK_of hok hkl
  generalize l[i] = s at *
  have HKS : Hid (∀ W, Below wr.heap.size wr W → SlI s.kids gv W) := fun W hb => hks.next hb
  obtain ⟨ga, gc, rfl, _⟩ := hks
  have HHO : Hid (∀ W, Below wr.heap.size wr W → Calls Try.prog 54 #[ndV s.nd.h (.slice ka s.nd.kids.length kc), .slice ga s.kids.length gc] W fun e w' => e = .returned (hkV (keyH s.nd.h s.kids)) ∧ Below W.heap.size W w') := fun W hb => heldOf_any _ _ _ _ W (HKS.out W hb) hkl
  obtain ⟨⟨⟨nk, nn, nf, nr, nt, nb⟩, nks⟩, ks, rf, nx⟩ := s
  obtain ⟨⟨e0, e1, e2, e3, e4, e5, e6⟩, e7, e8, e9⟩ := hrow
  simp only [Nd.h, Nd.kids, ndV] at e0 e1 e2 e3 e4 e5 e6 e7 e8 e9 HHO HPL hkok
  obtain ⟨K, HK⟩ : ∃ K, Hid (keyH ⟨nk, nn, nf, nr, nt, nb⟩ ks = K) := ⟨_, rfl⟩
  have HPL := HPL.out K HK.out
  rw [HK.out] at HHO hkok
  clear HKS hok
  generalize nks.length = nl at *
  generalize ks.length = kl at *
  have HB1 : Below wr.heap.size wr (wr.alloc (Obj.cells #[.string nk, .bool nn, .string nf, .int .i64 nr, .int .i64 nt, .int .i64 nb, .slice ka nl kc, .slice ga kl gc, .int .i64 rf, .int .i64 nx] 60)) := (Below.refl _ _).alloc (Nat.le_refl _) _
  have HHO1 := HHO.out _ HB1
  clear HHO hsi
  by_cases hr : 0 < rf
  case neg =>
    have d1 : decide (rf > 0) = false := decide_eq_false hr
    have HE : Hid (MapF mb (plF l (i + 1)).1 (plF l (i + 1)).2 (wr.alloc (Obj.cells #[.string nk, .bool nn, .string nf, .int .i64 nr, .int .i64 nt, .int .i64 nb, .slice ka nl kc, .slice ga kl gc, .int .i64 rf, .int .i64 nx] 60)) ∧ Below mb w1 (wr.alloc (Obj.cells #[.string nk, .bool nn, .string nf, .int .i64 nr, .int .i64 nt, .int .i64 nb, .slice ka nl kc, .slice ga kl gc, .int .i64 rf, .int .i64 nx] 60))) := by
      rw [HPL, if_neg hr]
      exact ⟨HF.out.1.next HB1, HF.out.2.trans (HB1.mono (by omega))⟩
    clear HF HPL HHO1 HLV HS HB1 hkok
    go_wp2_with fail
    exact ⟨⟨i + 1, by go_num, by omega, HE.out⟩, by simp [intOf]; omega⟩
  have d1 : decide (rf > 0) = true := decide_eq_true hr
  have HPL2 : Hid (plF l (i + 1) = (updF (plF l i).1 K (some i), if ((plF l i).1 K).isSome then (plF l i).2 else (plF l i).2 + 1)) := by rw [HPL, if_pos hr]; exact rfl
  have HFM : Hid (MapF mb (plF l i).1 (plF l i).2 wr ∧ Below mb w1 wr ∧ (plF l i).2 < 1000000000000 ∧ okK K) := ⟨HF.out.1, HF.out.2, by omega, hkok⟩
  clear HF HPL HLV HS hkok hpl
  go_wp2_with fail
  refine HHO1.mono ?_
  rintro e w4 ⟨rfl, hb4⟩
  have hb5 := below_next HB1 hb4
  obtain ⟨w5, hst, hM5, hB5, hz5⟩ := (HFM.out.1.next hb5).store HFM.out.2.2.1 HFM.out.2.2.2 i
  have HE : Hid (MapF mb (plF l (i + 1)).1 (plF l (i + 1)).2 w5 ∧ Below mb w1 w5) := by
    rw [HPL2.out]
    have := HFM.out.1.lt
    exact ⟨hM5, (HFM.out.2.1.trans (hb5.mono (by omega))).trans (hB5.below (by have := hb5.size; omega) (fun k hk => by omega))⟩
  clear HHO1 hb4 hb5 HB1 HFM HPL2 hM5 hB5
  go_wp2_with fail
  exact ⟨⟨i + 1, by go_num, by omega, HE.out⟩, by simp [intOf]; omega⟩
end Go.Proofs.Ytoocafcagelbgaa
