/- Texts joined: RFit, RFit2, FitMath. -/
import Derived.Test.YtdalomibilicfaaDSmall
/- Machines in one state: the document's Fit. -/
namespace Go.Proofs.Ytdalomibilicfaa
open Go.RowKit

def arcOk (n : Int) (x : Ar) : Bool := decide (0 ≤ x.lo) && decide (x.hi ≤ 255) && decide (x.lo ≤ x.hi) && decide (0 ≤ x.tg) && decide (x.tg < n)

set_option maxRecDepth 100000 in
set_option maxHeartbeats 1600000 in
theorem rarcs_any (l : List Ar) (v : Value) (n : Int) (w : World) (hl : SlA l v w) :
    Calls Try.prog 22 #[v, .int .i64 n] w fun e w' => e = .returned (.bool (l.all (arcOk n))) ∧ Below w.heap.size w w' := by
  have HL : Hid (∀ W, Below w.heap.size w W → SlA l v W) := fun W hb => hl.next hb
  obtain ⟨la, lc, rfl, _, _, _, hlb⟩ := hl
  go_enter Try.func22, Try.ntmps22
  go_wp2_with fail
  go_loopw [5] (fun iv wr => ∃ (j : Nat), iv = .int .i64 j ∧ j ≤ l.length ∧ Hid (l.all (arcOk n) = (l.drop j).all (arcOk n)) ∧ Below w.heap.size w wr) (fun i _ => l.length - (intOf i).toNat)
  case atStart => exact ⟨0, rfl, Nat.zero_le _, by show _ = _; simp, Below.refl _ _⟩
  case round =>
  obtain ⟨j, rfl, hj, HF, hW⟩ := hrel
  by_cases hlt : j < l.length
  case neg =>
    obtain rfl : j = l.length := by omega
    have HV : Hid (l.all (arcOk n) = true) := by show _ = _; rw [HF.out, List.drop_of_length_le (Nat.le_refl _)]; rfl
    clear HL HF
    go_wp2_with fail
    go_ret
    exact ⟨by rw [HV.out]; rfl, hW⟩
  obtain ⟨_, _, e0, hal, _⟩ := HL.out _ hW
  cases e0
  obtain ⟨b2, o2, rfl, hb2, q0, q1, q2, _⟩ := hal.at (Below.refl _ _) hlt
  have HF2 : Hid (l.all (arcOk n) = (arcOk n l[j] && (l.drop (j + 1)).all (arcOk n))) := by show _ = _; rw [HF.out, List.drop_eq_getElem_cons hlt, List.all_cons]
  have HW2 : Hid (Below w.heap.size w (wr.alloc (Obj.cells #[.int .i64 l[j].lo, .int .i64 l[j].hi, .int .i64 l[j].tg] 39))) := hW.alloc hW.size _
  generalize l[j] = x at *
  obtain ⟨lo, hi, tg⟩ := x
  simp only at *
  clear HF hal HL hW
  have key : ∀ b : Bool, arcOk n ⟨lo, hi, tg⟩ = b → (b = false → l.all (arcOk n) = false) ∧ (b = true → l.all (arcOk n) = (l.drop (j + 1)).all (arcOk n)) := fun b hb => ⟨fun h => by rw [HF2.out, hb, h]; rfl, fun h => by rw [HF2.out, hb, h]; rfl⟩
  have HK : Hid (∀ b : Bool, arcOk n ⟨lo, hi, tg⟩ = b → (b = false → l.all (arcOk n) = false) ∧ (b = true → l.all (arcOk n) = (l.drop (j + 1)).all (arcOk n))) := key
  clear key HF2
  by_cases h1 : lo < 0
  · have d1 : decide (lo < 0) = true := decide_eq_true h1
    have HV : Hid (l.all (arcOk n) = false) := (HK.out false (by unfold arcOk; simp; omega)).1 rfl
    clear HK
    go_wp2_with fail
    go_ret
    exact ⟨by rw [HV.out]; rfl, HW2.out⟩
  have d1 : decide (lo < 0) = false := decide_eq_false h1
  by_cases h2 : hi > 255
  · have d2 : decide (hi > 255) = true := decide_eq_true h2
    have HV : Hid (l.all (arcOk n) = false) := (HK.out false (by unfold arcOk; simp; omega)).1 rfl
    clear HK
    go_wp2_with fail
    go_ret
    exact ⟨by rw [HV.out]; rfl, HW2.out⟩
  have d2 : decide (hi > 255) = false := decide_eq_false h2
  by_cases h3 : lo > hi
  · have d3 : decide (lo > hi) = true := decide_eq_true h3
    have HV : Hid (l.all (arcOk n) = false) := (HK.out false (by unfold arcOk; simp; omega)).1 rfl
    clear HK
    go_wp2_with fail
    go_ret
    exact ⟨by rw [HV.out]; rfl, HW2.out⟩
  have d3 : decide (lo > hi) = false := decide_eq_false h3
  by_cases h4 : tg < 0
  · have d4 : decide (tg < 0) = true := decide_eq_true h4
    have HV : Hid (l.all (arcOk n) = false) := (HK.out false (by unfold arcOk; simp; omega)).1 rfl
    clear HK
    go_wp2_with fail
    go_ret
    exact ⟨by rw [HV.out]; rfl, HW2.out⟩
  have d4 : decide (tg < 0) = false := decide_eq_false h4
  by_cases h5 : tg ≥ n
  · have d5 : decide (tg ≥ n) = true := decide_eq_true h5
    have HV : Hid (l.all (arcOk n) = false) := (HK.out false (by unfold arcOk; simp; omega)).1 rfl
    clear HK
    go_wp2_with fail
    go_ret
    exact ⟨by rw [HV.out]; rfl, HW2.out⟩
  have d5 : decide (tg ≥ n) = false := decide_eq_false h5
  have HV : Hid (l.all (arcOk n) = (l.drop (j + 1)).all (arcOk n)) := (HK.out true (by unfold arcOk; simp; omega)).2 rfl
  clear HK
  go_wp2_with fail
  exact ⟨⟨j + 1, by go_num, by omega, HV, HW2.out⟩, by simp [intOf]; omega⟩
end Go.Proofs.Ytdalomibilicfaa
/- Machines in one state: the document's Fit, whole. -/
namespace Go.Proofs.Ytdalomibilicfaa
open Go.RowKit

def riseB : List Ar → Bool
  | [] => true
  | [_] => true
  | x :: y :: l => decide (x.hi < y.lo) && riseB (y :: l)
def stOk (n : Int) (x : Ds) : Bool := decide (-1 ≤ x.acc) && (x.arcs.all (arcOk n) && riseB x.arcs)
def fitB (d : List Ds) : Bool := decide (1 ≤ d.length) && (decide (d.length ≤ 600) && d.all (stOk d.length))
theorem riseB_end : ∀ {l : List Ar} {k : Nat}, l.length ≤ k + 1 → riseB (l.drop k) = true
  | l, k, h => by
    have h2 : (l.drop k).length ≤ 1 := by simp; omega
    match l.drop k, h2 with
    | [], _ => rfl
    | [_], _ => rfl
theorem riseB_step {l : List Ar} {k : Nat} (h : k + 1 < l.length) : riseB (l.drop k) = (decide ((l[k]'(by omega)).hi < l[k + 1].lo) && riseB (l.drop (k + 1))) := by
  rw [List.drop_eq_getElem_cons (show k < l.length by omega), List.drop_eq_getElem_cons h, riseB]

set_option maxRecDepth 100000 in
set_option maxHeartbeats 3200000 in
theorem rfit_any (d : List Ds) (v : Value) (w : World) (hl : SlD d v w) :
    Calls Try.prog 7 #[.agg #[v]] w fun e w' => e = .returned (.bool (fitB d)) ∧ Below w.heap.size w w' := by
  have HL : Hid (∀ W, Below w.heap.size w W → SlD d v W) := fun W hb => hl.next hb
  obtain ⟨la, lc, rfl, _, _, _, hlb⟩ := hl
  have B0 := below_box w (.slice la d.length lc) 24
  have b0 : (w.alloc (Obj.cells #[.slice la d.length lc] 24)).heap[w.heap.size]? = some (Obj.cells #[.slice la d.length lc] 24) := heap_alloc_new _ _
  have c0 : (w.alloc (Obj.cells #[.slice la d.length lc] 24)).cell? ⟨w.heap.size, 0, none⟩ = some (.slice la d.length lc) := by simp
  go_enter Try.func7, Try.ntmps7
  go_wp2_with fail
  generalize (w.alloc (Obj.cells #[.slice la d.length lc] 24)) = w0 at *
  have hz := blk_lt b0
  have HT : Hid (∀ W, Below w0.heap.size w0 W → W.cell? ⟨w.heap.size, 0, none⟩ = some (.slice la d.length lc) ∧ SlD d (.slice la d.length lc) W ∧ Below w.heap.size w W) := fun W hW => ⟨(hW.cell (p := ⟨w.heap.size, 0, none⟩) hz).trans (by rw [Lib.cell_of_heap b0]; rfl), HL.out W (B0.trans (hW.mono B0.size)), B0.trans (hW.mono B0.size)⟩
  clear B0 b0 c0 HL
  go_loopw [4] (fun iv wr => ∃ (i : Nat), iv = .int .i64 i ∧ i ≤ d.length ∧ Hid (d.all (stOk d.length) = (d.drop i).all (stOk d.length)) ∧ Below w0.heap.size w0 wr) (fun i _ => d.length - (intOf i).toNat)
  case atStart => exact ⟨0, rfl, Nat.zero_le _, by show _ = _; simp, Below.refl _ _⟩
  case round =>
  obtain ⟨i, rfl, hi, HF, BR⟩ := hrel
  by_cases h6 : d.length ≤ 600
  case neg =>
    have HE : Hid (fitB d = false) := by show _ = _; unfold fitB; simp [h6]
    have QB := (HT.out wr BR).2.2
    have h7 : decide ((d.length : Int) ≤ 600) = false := decide_eq_false (by omega)
    have h8 : decide ((d.length : Int) ≥ 1) = true := decide_eq_true (by omega)
    clear HF HT
    by_cases hlt : i < d.length
    · have d1 : decide ((i : Int) < d.length) = true := decide_eq_true (by omega)
      go_wp2_with fail
      go_ret
      exact ⟨by rw [HE.out]; rfl, QB⟩
    · have d1 : decide ((i : Int) < d.length) = false := decide_eq_false (by omega)
      go_wp2_with fail
      go_ret
      exact ⟨by rw [HE.out]; rfl, QB⟩
  have h7 : decide ((d.length : Int) ≤ 600) = true := decide_eq_true (by omega)
  by_cases hlt : i < d.length
  case neg =>
    obtain rfl : i = d.length := by omega
    have HE : Hid (fitB d = decide ((d.length : Int) ≥ 1)) := by
      show _ = _
      unfold fitB
      rw [HF.out, List.drop_of_length_le (Nat.le_refl _)]
      simp [h6]
      omega
    have QB := (HT.out wr BR).2.2
    have d1 : decide ((d.length : Int) < d.length) = false := decide_eq_false (by omega)
    clear HF HT
    by_cases h8 : (d.length : Int) ≥ 1
    · have d8 : decide ((d.length : Int) ≥ 1) = true := decide_eq_true h8
      rw [d8] at HE
      go_wp2_with fail
      go_ret
      exact ⟨by rw [HE.out]; rfl, QB⟩
    · have d8 : decide ((d.length : Int) ≥ 1) = false := decide_eq_false h8
      rw [d8] at HE
      go_wp2_with fail
      go_ret
      exact ⟨by rw [HE.out]; rfl, QB⟩
  have d1 : decide ((i : Int) < d.length) = true := decide_eq_true (by omega)
  obtain ⟨d0, ⟨_, _, e0, hal, _⟩, _⟩ := HT.out wr BR
  cases e0
  obtain ⟨b2, o2, u, rfl, hb2, q0, q1, hsx, _⟩ := hal.at (Below.refl _ _) hlt
  have HNN : Hid (stOk d.length d[i] = false → fitB d = false) := fun h => by
    have : d.all (stOk d.length) = false := by rw [HF.out, List.drop_eq_getElem_cons hlt, List.all_cons, h]; rfl
    unfold fitB; rw [this]; simp
  have HYY : Hid (stOk d.length d[i] = true → d.all (stOk d.length) = (d.drop (i + 1)).all (stOk d.length)) := fun h => by rw [HF.out, List.drop_eq_getElem_cons hlt, List.all_cons, h]; rfl
  generalize d[i] = x at *
  obtain ⟨arcs, ac⟩ := x
  simp only at *
  have HX : Hid (∀ W, Below wr.heap.size wr W → SlA arcs u W) := fun W hb => hsx.next hb
  obtain ⟨xa, xc, rfl, _, _, _, hxl⟩ := hsx
  have bx : Below wr.heap.size wr (wr.alloc (Obj.cells #[.slice xa arcs.length xc, .int .i64 ac] 37)) := (Below.refl _ _).alloc (Nat.le_refl _) _
  have x0 : (wr.alloc (Obj.cells #[.slice xa arcs.length xc, .int .i64 ac] 37)).cell? ⟨wr.heap.size, 0, none⟩ = some (.slice xa arcs.length xc) := by simp
  have x1 : (wr.alloc (Obj.cells #[.slice xa arcs.length xc, .int .i64 ac] 37)).cell? ⟨wr.heap.size, 1, none⟩ = some (.int .i64 ac) := by simp
  have xl : wr.heap.size < (wr.alloc (Obj.cells #[.slice xa arcs.length xc, .int .i64 ac] 37)).heap.size := by simp
  have HC := rarcs_any arcs (.slice xa arcs.length xc) d.length _ (HX.out _ bx)
  by_cases ha : ac < -1
  · have d2 : decide (ac < -1) = true := decide_eq_true ha
    have HE : Hid (fitB d = false) := HNN.out (by unfold stOk; simp; omega)
    have QB : Hid (Below w.heap.size w (wr.alloc (Obj.cells #[.slice xa arcs.length xc, .int .i64 ac] 37))) := (HT.out _ (BR.trans (bx.mono BR.size))).2.2
    clear HF HT HNN HYY HX hal HC x0 x1 xl
    go_wp2_with fail
    go_ret
    exact ⟨by rw [HE.out]; rfl, QB.out⟩
  have d2 : decide (ac < -1) = false := decide_eq_false ha
  have HS : Hid (stOk d.length ⟨arcs, ac⟩ = (arcs.all (arcOk d.length) && riseB arcs)) := by show _ = _; unfold stOk; rw [decide_eq_true (show -1 ≤ ac by omega)]; rfl
  obtain ⟨rb, hrb⟩ : ∃ rb, wr.heap.size = rb := ⟨_, rfl⟩
  have HB : Hid (Below w0.heap.size w0 (wr.alloc (Obj.cells #[.slice xa arcs.length xc, .int .i64 ac] 37))) := BR.trans (bx.mono BR.size)
  have HX2 : Hid (∀ W, Below (wr.alloc (Obj.cells #[.slice xa arcs.length xc, .int .i64 ac] 37)).heap.size (wr.alloc (Obj.cells #[.slice xa arcs.length xc, .int .i64 ac] 37)) W → W.cell? ⟨wr.heap.size, 0, none⟩ = some (.slice xa arcs.length xc) ∧ SlA arcs (.slice xa arcs.length xc) W ∧ Below w0.heap.size w0 W) := fun W hW => ⟨(hW.cell (p := ⟨wr.heap.size, 0, none⟩) xl).trans x0, HX.out W (bx.trans (hW.mono bx.size)), HB.out.trans (hW.mono HB.out.size)⟩
  clear HF HX hal bx HB
  go_wp2_with fail
  generalize wr.alloc (Obj.cells #[.slice xa arcs.length xc, .int .i64 ac] 37) = wx at *
  refine HC.mono ?_
  rintro e w1 ⟨rfl, hb1⟩
  obtain ⟨y0, _, y2⟩ := HX2.out w1 hb1
  have HX3 : Hid (∀ W, Below w1.heap.size w1 W → W.cell? ⟨rb, 0, none⟩ = some (.slice xa arcs.length xc) ∧ SlA arcs (.slice xa arcs.length xc) W ∧ Below w0.heap.size w0 W) := fun W hW => by rw [← hrb]; exact HX2.out W (hb1.trans (hW.mono hb1.size))
  clear HC HX2 x0 x1 xl
  cases hA : arcs.all (arcOk d.length) with
  | false =>
    have HE : Hid (fitB d = false) := HNN.out (by rw [HS.out, hA]; rfl)
    have QB : Hid (Below w.heap.size w w1) := (HT.out _ y2).2.2
    clear HT HNN HYY HS hb1 HX3 y0 y2
    go_wp2_with fail
    go_ret
    exact ⟨by rw [HE.out]; rfl, QB.out⟩
  | true =>
    have HS2 : Hid (stOk d.length ⟨arcs, ac⟩ = riseB arcs) := by show _ = _; rw [HS.out, hA]; rfl
    clear HS hb1 y0 y2 hA
    go_wp2_with fail
    go_loopw [6] (fun kv wq => ∃ (k : Nat), kv = .int .i64 ((k : Int) + 1) ∧ (k = 0 ∨ k + 1 ≤ arcs.length) ∧ Hid (riseB arcs = riseB (arcs.drop k)) ∧ Below w1.heap.size w1 wq) (fun i _ => arcs.length - (intOf i).toNat)
    case atStart => exact ⟨0, rfl, .inl rfl, by show _ = _; simp, Below.refl _ _⟩
    case round =>
    obtain ⟨k, rfl, hk, HR, BQ⟩ := hrel
    obtain ⟨y0, ⟨_, _, e1, hal, _⟩, y2⟩ := HX3.out _ BQ
    cases e1
    by_cases hkl : k + 1 < arcs.length
    case neg =>
      have HE : Hid (d.all (stOk d.length) = (d.drop (i + 1)).all (stOk d.length)) := HYY.out (by rw [HS2.out, HR.out]; exact riseB_end (by omega))
      have d3 : decide ((k : Int) + 1 < arcs.length) = false := decide_eq_false (by omega)
      clear HT HNN HYY HS2 HX3 hal HR
      go_wp2_with fail
      exact ⟨⟨i + 1, by go_num, by omega, HE, y2⟩, by simp [intOf]; omega⟩
    have d3 : decide ((k : Int) + 1 < arcs.length) = true := decide_eq_true (by omega)
    obtain ⟨b3, o3, rfl, hb3, r0, r1, r2, _⟩ := hal.at (Below.refl _ _) hkl
    obtain ⟨_, _, e2, _, s0, s1, s2, _⟩ := hal.at (Below.refl _ _) (show k < arcs.length by omega)
    cases e2
    have HR2 : Hid (riseB arcs = (decide ((arcs[k]'(by omega)).hi < arcs[k + 1].lo) && riseB (arcs.drop (k + 1)))) := by show _ = _; rw [HR.out, riseB_step hkl]
    have hw1 : IntKind.i64.wrap ((k : Int) + 1 - 1) = (k : Int) := by rw [IntKind.wrap_i64]; omega
    have hk2 : k < arcs.length := by omega
    generalize arcs[k + 1] = y at *
    generalize arcs[k]'(by omega) = x at *
    have QB : Hid (Below w.heap.size w wr) := (HT.out _ y2).2.2
    have HNF : Hid (¬ x.hi < y.lo → fitB d = false) := fun h => HNN.out (by rw [HS2.out, HR2.out, decide_eq_false h]; rfl)
    have HRY : Hid (x.hi < y.lo → riseB arcs = riseB (arcs.drop (k + 1))) := fun h => by rw [HR2.out, decide_eq_true h]; rfl
    have HHT := HT
    clear HR HR2 hal y2 HT HNN
    by_cases hc : y.lo ≤ x.hi
    · have d4 : decide (y.lo ≤ x.hi) = true := decide_eq_true hc
      have HE : Hid (fitB d = false) := HNF.out (by omega)
      clear HNF HRY HYY HS2 HX3 HHT
      go_wp2
      go_quiet (fail)
      go_wp2
      go_ret
      exact ⟨by rw [HE.out]; rfl, (by first | exact below_drewN QB.out _ | exact QB.out)⟩
    · have d4 : decide (y.lo ≤ x.hi) = false := decide_eq_false hc
      have HE : Hid (riseB arcs = riseB (arcs.drop (k + 1))) := HRY.out (by omega)
      clear HNF HRY
      have HB : Hid (Below w1.heap.size w1 wr) := BQ
      clear BQ QB HYY HS2 HX3 HHT
      go_wp2
      go_quiet (fail)
      go_wp2
      exact ⟨⟨k + 1, by go_num, .inr (by omega), HE, (by first | exact below_drewN HB.out _ | exact HB.out)⟩, by simp [intOf]; omega⟩
end Go.Proofs.Ytdalomibilicfaa
/- Machines in one state: what fit says. -/
namespace Go.Proofs.Ytdalomibilicfaa
open Go.RowKit

theorem upA_of {n : Int} : ∀ {l : List Ar} {a : Int}, l.all (arcOk n) = true → riseB l = true → (∀ x, l[0]? = some x → a ≤ x.lo) → upA l a
  | [], _, _, _, _ => trivial
  | [x], a, h, _, h0 => by
    have := h0 x rfl
    simp [arcOk] at h
    exact ⟨this, by omega, by omega, trivial⟩
  | x :: y :: l, a, h, hr, h0 => by
    have := h0 x rfl
    rw [List.all_cons, Bool.and_eq_true] at h
    rw [riseB, Bool.and_eq_true, decide_eq_true_eq] at hr
    have h1 := h.1
    simp [arcOk] at h1
    refine ⟨this, by omega, by omega, upA_of h.2 hr.2 (fun z hz => ?_)⟩
    simp at hz; subst hz; omega
theorem fitB_fit {d : List Ds} (h : fitB d = true) : fitD d ∧ d.length ≤ 600 := by
  unfold fitB at h
  simp only [Bool.and_eq_true, decide_eq_true_eq] at h
  refine ⟨⟨fun e => by rw [e] at h; simp at h, fun s hs => ?_, fun s hs => ?_⟩, h.2.1⟩
  · have := List.all_eq_true.1 h.2.2 s hs
    unfold stOk at this
    simp only [Bool.and_eq_true, decide_eq_true_eq] at this
    refine ⟨upA_of this.2.1 this.2.2 (fun x hx => ?_), fun x hx => ?_⟩
    · have := List.all_eq_true.1 this.2.1 x (List.mem_of_getElem? hx)
      simp [arcOk] at this; omega
    · have := List.all_eq_true.1 this.2.1 x hx
      simp [arcOk] at this; omega
  · have := List.all_eq_true.1 h.2.2 s hs
    unfold stOk at this
    simp only [Bool.and_eq_true, decide_eq_true_eq] at this
    exact this.1
/-- A fit machine of few states and arcs, as led, along, Run and Seen ask it. -/
theorem fit_up {d : List Ds} (h : fitB d = true) (hs : smallD d = true) : ∀ x ∈ d, upA x.arcs 0 ∧ x.arcs.length ≤ 1000000 := fun x hx => by
  refine ⟨((fitB_fit h).1.arcs x hx).1, ?_⟩
  unfold smallD at hs
  simp only [Bool.and_eq_true, decide_eq_true_eq] at hs
  have := smallF_len d 3000 hs.1 x hx
  omega
end Go.Proofs.Ytdalomibilicfaa
