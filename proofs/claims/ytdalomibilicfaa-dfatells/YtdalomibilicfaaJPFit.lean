/- Texts joined: PFit, PFit2. -/
import Derived.Test.YtdalomibilicfaaJRFit
/- Machines in one state: the program's fitState. -/
namespace Go.Proofs.Ytdalomibilicfaa
open Go.RowKit

def badP (n a : Int) (x : Ar) : Prop := x.lo ≤ a ∨ x.lo > x.hi ∨ ¬ (0 ≤ x.tg ∧ x.tg < n)
instance (n a : Int) (x : Ar) : Decidable (badP n a x) := by unfold badP; infer_instance
/-- Where the last arc ends; none: an arc can't be. -/
def fstL (n : Int) : List Ar → Int → Option Int
  | [], a => some a
  | x :: l, a => if badP n a x then none else fstL n l x.hi
def fstB (n : Int) (x : Ds) : Bool := match fstL n x.arcs (-1) with
  | some a => decide (a < 256) && decide (x.acc ≥ -1)
  | none => false
theorem fstL_ge (n : Int) : ∀ {l : List Ar} {a b : Int}, fstL n l a = some b → a ≤ b
  | [], a, b, h => by simp [fstL] at h; omega
  | x :: l, a, b, h => by
    unfold fstL at h
    split at h
    · cases h
    · rename_i hb
      unfold badP at hb
      have := fstL_ge n h
      omega
theorem fstL_iff (n : Int) : ∀ (l : List Ar) (a : Int), -1 ≤ a → ((∃ b, fstL n l a = some b ∧ b < 256) ↔ (a < 256 ∧ l.all (arcOk n) = true ∧ riseB l = true ∧ ∀ x, l[0]? = some x → a < x.lo))
  | [], a, _ => by simp [fstL, riseB]
  | x :: l, a, ha => by
    unfold fstL
    by_cases hb : badP n a x
    · rw [if_pos hb]
      constructor
      · rintro ⟨b, h, _⟩; cases h
      · rintro ⟨_, h2, h3, h4⟩
        have := h4 x rfl
        rw [List.all_cons, Bool.and_eq_true] at h2
        have h1 := h2.1
        simp [arcOk] at h1
        unfold badP at hb
        omega
    · rw [if_neg hb]
      unfold badP at hb
      rw [fstL_iff n l x.hi (by omega)]
      constructor
      · rintro ⟨h1, h2, h3, h4⟩
        refine ⟨by omega, ?_, ?_, fun y hy => ?_⟩
        · rw [List.all_cons, h2]
          simp [arcOk]; omega
        · cases l with
          | nil => rfl
          | cons y l => rw [riseB, h3, decide_eq_true (h4 y rfl)]; rfl
        · simp at hy; subst hy; omega
      · rintro ⟨h1, h2, h3, h4⟩
        rw [List.all_cons, Bool.and_eq_true] at h2
        have h5 := h2.1
        simp [arcOk] at h5
        refine ⟨by omega, h2.2, ?_, fun y hy => ?_⟩
        · cases l with
          | nil => rfl
          | cons y l => rw [riseB, Bool.and_eq_true] at h3; exact h3.2
        · cases l with
          | nil => simp at hy
          | cons z l =>
            simp at hy; subst hy
            rw [riseB, Bool.and_eq_true, decide_eq_true_eq] at h3; exact h3.1
theorem fstB_eq (n : Int) (x : Ds) : fstB n x = stOk n x := by
  have h := fstL_iff n x.arcs (-1) (by omega)
  unfold fstB stOk
  rw [Bool.eq_iff_iff]
  cases hf : fstL n x.arcs (-1) with
  | none =>
    simp only [Bool.and_eq_true, decide_eq_true_eq]
    constructor
    · intro h; cases h
    · rintro ⟨h1, h2, h3⟩
      rw [hf] at h
      obtain ⟨b, hb, _⟩ := h.2 ⟨by omega, h2, h3, fun y hy => by
        have := List.all_eq_true.1 h2 y (List.mem_of_getElem? hy)
        simp [arcOk] at this; omega⟩
      cases hb
  | some b =>
    rw [hf] at h
    simp only [Bool.and_eq_true, decide_eq_true_eq]
    constructor
    · rintro ⟨h1, h2⟩
      have := h.1 ⟨b, rfl, h1⟩
      exact ⟨by omega, this.2.1, this.2.2.1⟩
    · rintro ⟨h1, h2, h3⟩
      obtain ⟨c, hc, h4⟩ := h.2 ⟨by omega, h2, h3, fun y hy => by
        have := List.all_eq_true.1 h2 y (List.mem_of_getElem? hy)
        simp [arcOk] at this; omega⟩
      cases hc
      exact ⟨h4, by omega⟩

set_option maxRecDepth 100000 in
set_option maxHeartbeats 1600000 in
theorem fitState_any (la : Option Addr) (m lc : Nat) (l : List Ar) (v : Value) (ac : Int) (w : World) (hl : SlA l v w) :
    Calls Try.prog 20 #[.agg #[.slice la m lc], .agg #[v, .int .i64 ac]] w fun e w' => e = .returned (.bool (stOk m ⟨l, ac⟩)) ∧ Below w.heap.size w w' := by
  have HQ : Hid (stOk m ⟨l, ac⟩ = fstB m ⟨l, ac⟩) := (fstB_eq m ⟨l, ac⟩).symm
  have HL : Hid (∀ W, Below w.heap.size w W → SlA l v W) := fun W hb => hl.next hb
  obtain ⟨xa, xc, rfl, _, _, _, hlb⟩ := hl
  have B0 : Below w.heap.size w ((w.alloc (Obj.cells #[.slice la m lc] 24)).alloc (Obj.cells #[.slice xa l.length xc, .int .i64 ac] 37)) := ((Below.refl _ _).alloc (Nat.le_refl _) _).alloc (by simp) _
  have b0 : ((w.alloc (Obj.cells #[.slice la m lc] 24)).alloc (Obj.cells #[.slice xa l.length xc, .int .i64 ac] 37)).heap[w.heap.size]? = some (Obj.cells #[.slice la m lc] 24) := (((Below.refl _ (w.alloc (Obj.cells #[.slice la m lc] 24))).alloc (Nat.le_refl _) _).block _ (by simp)).trans (heap_alloc_new _ _)
  have b1 : ((w.alloc (Obj.cells #[.slice la m lc] 24)).alloc (Obj.cells #[.slice xa l.length xc, .int .i64 ac] 37)).heap[w.heap.size + 1]? = some (Obj.cells #[.slice xa l.length xc, .int .i64 ac] 37) := by
    have := heap_alloc_new (w.alloc (Obj.cells #[.slice la m lc] 24)) (Obj.cells #[.slice xa l.length xc, .int .i64 ac] 37)
    simpa using this
  rw [HQ.out]
  go_enter Try.func20, Try.ntmps20
  go_wp2_with fail
  generalize ((w.alloc (Obj.cells #[.slice la m lc] 24)).alloc (Obj.cells #[.slice xa l.length xc, .int .i64 ac] 37)) = w0 at *
  have hz := blk_lt b0
  have hz1 := blk_lt b1
  have HT : Hid (∀ W, Below w0.heap.size w0 W → W.cell? ⟨w.heap.size, 0, none⟩ = some (.slice la m lc) ∧ W.cell? ⟨w.heap.size + 1, 1, none⟩ = some (.int .i64 ac) ∧ SlA l (.slice xa l.length xc) W ∧ Below w.heap.size w W) := fun W hW => ⟨(hW.cell (p := ⟨w.heap.size, 0, none⟩) hz).trans (by rw [Lib.cell_of_heap b0]; rfl), (hW.cell (p := ⟨w.heap.size + 1, 1, none⟩) hz1).trans (by rw [Lib.cell_of_heap b1]; rfl), HL.out W (B0.trans (hW.mono B0.size)), B0.trans (hW.mono B0.size)⟩
  clear B0 b0 b1 HL HQ
  go_loopw [5, 11] (fun av iv wr => ∃ (j : Nat) (a : Int), iv = .int .i64 j ∧ av = .int .i64 a ∧ j ≤ l.length ∧ Hid (fstL m l (-1) = fstL m (l.drop j) a) ∧ Below w0.heap.size w0 wr) (fun _ i _ => l.length - (intOf i).toNat)
  case atStart => exact ⟨0, -1, rfl, rfl, Nat.zero_le _, by show _ = _; simp, Below.refl _ _⟩
  case round =>
  obtain ⟨j, a, rfl, rfl, hj, HF, BR⟩ := hrel
  obtain ⟨c0, c1, ⟨_, _, e0, hal, _⟩, QB⟩ := HT.out wr BR
  cases e0
  by_cases hlt : j < l.length
  case neg =>
    obtain rfl : j = l.length := by omega
    have HV : Hid (fstB m ⟨l, ac⟩ = (decide (a < 256) && decide (ac ≥ -1))) := by
      show _ = _
      unfold fstB
      rw [HF.out, List.drop_of_length_le (Nat.le_refl _)]
      rfl
    have d0 : decide ((l.length : Int) < l.length) = false := decide_eq_false (by omega)
    clear HF HT hal
    by_cases h1 : a < 256
    · have d1 : decide (a < 256) = true := decide_eq_true h1
      rw [d1] at HV
      go_wp2_with fail
      go_ret
      exact ⟨by rw [HV.out]; rfl, QB⟩
    · have d1 : decide (a < 256) = false := decide_eq_false h1
      rw [d1] at HV
      go_wp2_with fail
      go_ret
      exact ⟨by rw [HV.out]; rfl, QB⟩
  have d0 : decide ((j : Int) < l.length) = true := decide_eq_true (by omega)
  obtain ⟨b2, o2, rfl, hb2, q0, q1, q2, _⟩ := hal.at (Below.refl _ _) hlt
  have HBD : Hid (badP m a l[j] → fstB m ⟨l, ac⟩ = false) := fun h => by
    unfold fstB
    rw [HF.out, List.drop_eq_getElem_cons hlt, fstL, if_pos h]
  have HGO : Hid (¬ badP m a l[j] → fstL m l (-1) = fstL m (l.drop (j + 1)) l[j].hi) := fun h => by rw [HF.out, List.drop_eq_getElem_cons hlt, fstL, if_neg h]
  have HC := isState_any la m lc l[j].tg (wr.alloc (Obj.cells #[.int .i64 l[j].lo, .int .i64 l[j].hi, .int .i64 l[j].tg] 39))
  have HW2 : Hid (Below w0.heap.size w0 (wr.alloc (Obj.cells #[.int .i64 l[j].lo, .int .i64 l[j].hi, .int .i64 l[j].tg] 39))) := BR.alloc BR.size _
  have HW3 : Hid (Below w.heap.size w (wr.alloc (Obj.cells #[.int .i64 l[j].lo, .int .i64 l[j].hi, .int .i64 l[j].tg] 39))) := (HT.out _ HW2.out).2.2.2
  have c2 := (HT.out _ HW2.out).1
  generalize l[j] = x at *
  obtain ⟨lo, hi, tg⟩ := x
  simp only at *
  clear HF HT hal BR QB
  by_cases h1 : lo ≤ a
  · have d1 : decide (lo ≤ a) = true := decide_eq_true h1
    have HV : Hid (fstB m ⟨l, ac⟩ = false) := HBD.out (.inl h1)
    clear HBD HGO HC
    go_wp2_with fail
    go_ret
    exact ⟨by rw [HV.out]; rfl, HW3.out⟩
  have d1 : decide (lo ≤ a) = false := decide_eq_false h1
  by_cases h2 : lo > hi
  · have d2 : decide (lo > hi) = true := decide_eq_true h2
    have HV : Hid (fstB m ⟨l, ac⟩ = false) := HBD.out (.inr (.inl h2))
    clear HBD HGO HC
    go_wp2_with fail
    go_ret
    exact ⟨by rw [HV.out]; rfl, HW3.out⟩
  have d2 : decide (lo > hi) = false := decide_eq_false h2
  by_cases h3 : 0 ≤ tg ∧ tg < m
  · rw [decide_eq_true h3] at HC
    have HV : Hid (fstL m l (-1) = fstL m (l.drop (j + 1)) hi) := HGO.out (by unfold badP; simp only; omega)
    clear HBD HGO
    go_wp2_with fail
    refine HC.mono ?_
    rintro e w1 ⟨rfl, rfl⟩
    clear HC
    go_wp2_with fail
    exact ⟨⟨j + 1, hi, by go_num, rfl, by omega, HV, HW2.out⟩, by simp [intOf]; omega⟩
  · rw [decide_eq_false h3] at HC
    have HV : Hid (fstB m ⟨l, ac⟩ = false) := HBD.out (.inr (.inr h3))
    clear HBD HGO
    go_wp2_with fail
    refine HC.mono ?_
    rintro e w1 ⟨rfl, rfl⟩
    clear HC
    go_wp2_with fail
    go_ret
    exact ⟨by rw [HV.out]; rfl, HW3.out⟩
end Go.Proofs.Ytdalomibilicfaa
/- Machines in one state: the program's Fit. -/
namespace Go.Proofs.Ytdalomibilicfaa
open Go.RowKit

theorem below_box2 (w : World) (v u : Value) (t : TypeId) : Below w.heap.size w (w.alloc (Obj.cells #[v, u] t)) := (Below.refl _ _).alloc (Nat.le_refl _) _
def unfitAt (m : Int) : List Ds → Nat → Int
  | [], _ => -1
  | x :: l, k => if stOk m x = true then unfitAt m l (k + 1) else k
theorem unfitAt_ge (m : Int) : ∀ (l : List Ds) (k : Nat), decide (unfitAt m l k ≥ 0) = !(l.all (stOk m))
  | [], _ => by unfold unfitAt; simp
  | x :: l, k => by
    unfold unfitAt
    rw [List.all_cons]
    cases h : stOk m x with
    | true => rw [if_pos rfl, unfitAt_ge m l (k + 1)]; rfl
    | false => rw [if_neg (by simp)]; simp

set_option maxRecDepth 100000 in
set_option maxHeartbeats 1600000 in
theorem unfit_any (Bd : Nat) (la : Option Addr) (m lc : Nat) (l : List Ar) (v : Value) (ac : Int) (w : World) (hl : SlA l v w) (hb : w.cell? ⟨Bd, 0, none⟩ = some (.slice la m lc)) :
    Calls Try.prog 19 #[.agg #[v, .int .i64 ac], .pointer (some ⟨Bd, 0, none⟩)] w fun e w' => e = .returned (.bool (!(stOk m ⟨l, ac⟩))) ∧ Below w.heap.size w w' := by
  have B0 := below_box2 w v (.int .i64 ac) 37
  have HC := fitState_any la m lc l v ac _ (hl.next B0)
  have hb2 := (B0.cell (p := ⟨Bd, 0, none⟩) (World.block_lt_of_cell? _ _ hb)).trans hb
  obtain ⟨xa, xc, rfl, _⟩ := hl
  generalize stOk m ⟨l, ac⟩ = R at *
  go_enter Try.func19, Try.ntmps19
  go_wp2_with fail
  refine HC.mono ?_
  rintro e w1 ⟨rfl, hb1⟩
  have HE : Hid (Below w.heap.size w w1) := B0.trans (hb1.mono B0.size)
  clear HC hb1 B0
  go_wp2_with fail
  go_ret
  exact ⟨rfl, HE.out⟩

set_option maxRecDepth 100000 in
set_option maxHeartbeats 1600000 in
theorem idxUnfit_any (Bd : Nat) (la : Option Addr) (m lc : Nat) (d : List Ds) (v : Value) (w : World) (hl : SlD d v w) (hb : w.cell? ⟨Bd, 0, none⟩ = some (.slice la m lc)) :
    Calls Try.prog 39 #[v, .func (.func 19) #[] #[.pointer (some ⟨Bd, 0, none⟩)]] w fun e w' => e = .returned (.int .i64 (unfitAt m d 0)) ∧ Below w.heap.size w w' := by
  have HL : Hid (∀ W, Below w.heap.size w W → SlD d v W ∧ W.cell? ⟨Bd, 0, none⟩ = some (.slice la m lc)) := fun W hW => ⟨hl.next hW, (hW.cell (p := ⟨Bd, 0, none⟩) (World.block_lt_of_cell? _ _ hb)).trans hb⟩
  obtain ⟨da, dc, rfl, _, _, _, hlb⟩ := hl
  clear hb
  go_enter Try.func39, Try.ntmps39
  go_wp2_with fail
  go_loopw [8] (fun iv wr => ∃ (j : Nat), iv = .int .i64 j ∧ j ≤ d.length ∧ Hid (unfitAt m d 0 = unfitAt m (d.drop j) j) ∧ Below w.heap.size w wr) (fun i _ => d.length - (intOf i).toNat)
  case atStart => exact ⟨0, rfl, Nat.zero_le _, by show _ = _; simp, Below.refl _ _⟩
  case round =>
  obtain ⟨j, rfl, hj, HF, BR⟩ := hrel
  by_cases hlt : j < d.length
  case neg =>
    obtain rfl : j = d.length := by omega
    have HV : Hid (unfitAt m d 0 = -1) := by show _ = _; rw [HF.out, List.drop_of_length_le (Nat.le_refl _)]; rfl
    have d0 : decide ((d.length : Int) < d.length) = false := decide_eq_false (by omega)
    clear HL HF
    go_wp2_with fail
    go_ret
    exact ⟨by rw [HV.out]; rfl, BR⟩
  have d0 : decide ((j : Int) < d.length) = true := decide_eq_true (by omega)
  obtain ⟨⟨_, _, e0, hal, _⟩, hbd⟩ := HL.out wr BR
  cases e0
  obtain ⟨b2, o2, u, rfl, hb2, q0, q1, hsx, _⟩ := hal.at (Below.refl _ _) hlt
  have HF2 : Hid (unfitAt m d 0 = if stOk m d[j] = true then unfitAt m (d.drop (j + 1)) (j + 1) else (j : Int)) := by show _ = _; rw [HF.out, List.drop_eq_getElem_cons hlt, unfitAt]
  generalize d[j] = x at *
  obtain ⟨arcs, ac⟩ := x
  simp only at *
  have HC := unfit_any Bd la m lc arcs u ac wr hsx hbd
  obtain ⟨xa, xc, rfl, _⟩ := hsx
  have HB : Hid (Below w.heap.size w wr) := BR
  clear HF hal hbd HL BR
  generalize stOk m ⟨arcs, ac⟩ = R at *
  go_wp2_with fail
  refine HC.mono ?_
  rintro e w1 ⟨rfl, hb1⟩
  have HE : Hid (Below w.heap.size w w1) := HB.out.trans (hb1.mono HB.out.size)
  clear HC hb1 HB
  cases R with
  | true =>
    have HV : Hid (unfitAt m d 0 = unfitAt m (d.drop (j + 1)) (j + 1)) := by show _ = _; rw [HF2.out, if_pos rfl]
    clear HF2
    go_wp2_with fail
    exact ⟨⟨j + 1, by go_num, by omega, HV, HE.out⟩, by simp [intOf]; omega⟩
  | false =>
    have HV : Hid (unfitAt m d 0 = j) := by show _ = _; rw [HF2.out, if_neg (by simp)]
    clear HF2
    go_wp2_with fail
    go_ret
    exact ⟨by rw [HV.out]; rfl, HE.out⟩

set_option maxRecDepth 100000 in
set_option maxHeartbeats 1600000 in
theorem hasUnfit_any (Bd : Nat) (la : Option Addr) (m lc : Nat) (d : List Ds) (v : Value) (w : World) (hl : SlD d v w) (hb : w.cell? ⟨Bd, 0, none⟩ = some (.slice la m lc)) :
    Calls Try.prog 21 #[v, .func (.func 19) #[] #[.pointer (some ⟨Bd, 0, none⟩)]] w fun e w' => e = .returned (.bool (!(d.all (stOk m)))) ∧ Below w.heap.size w w' := by
  have HC := idxUnfit_any Bd la m lc d v w hl hb
  have HV : Hid (decide (unfitAt m d 0 ≥ 0) = !(d.all (stOk m))) := unfitAt_ge m d 0
  obtain ⟨da, dc, rfl, _⟩ := hl
  rw [← HV.out]
  clear HV
  generalize unfitAt m d 0 = k at *
  go_enter Try.func21, Try.ntmps21
  go_wp2_with fail
  refine HC.mono ?_
  rintro e w1 ⟨rfl, hb1⟩
  clear HC
  go_wp2_with fail
  go_ret
  exact ⟨rfl, hb1⟩

set_option maxRecDepth 100000 in
set_option maxHeartbeats 1600000 in
theorem fit_any (d : List Ds) (v : Value) (w : World) (hl : SlD d v w) :
    Calls Try.prog 6 #[.agg #[v]] w fun e w' => e = .returned (.bool (fitB d)) ∧ Below w.heap.size w w' := by
  have B0 := below_box w v 24
  have hl2 := hl.next B0
  obtain ⟨da, dc, rfl, _⟩ := hl
  have HC := hasUnfit_any w.heap.size da d.length dc d (.slice da d.length dc) _ hl2 (by simp)
  clear hl2
  by_cases h0 : d.length = 0
  · have HV : Hid (fitB d = false) := by show _ = _; unfold fitB; simp [h0]
    have d0 : ((d.length : Int) == 0) = true := by simp [h0]
    clear HC h0
    go_enter Try.func6, Try.ntmps6
    go_wp2_with fail
    go_ret
    exact ⟨by rw [HV.out]; rfl, B0⟩
  have d0 : ((d.length : Int) == 0) = false := by simp [h0]
  by_cases h1 : d.length ≤ 600
  · have HV : Hid (fitB d = d.all (stOk d.length)) := by show _ = _; unfold fitB; simp [h1]; intro _; omega
    have d1 : decide ((d.length : Int) > 600) = false := decide_eq_false (by omega)
    rw [HV.out]
    generalize d.all (stOk d.length) = R at *
    go_enter Try.func6, Try.ntmps6
    go_wp2_with fail
    refine HC.mono ?_
    rintro e w1 ⟨rfl, hb1⟩
    have HE : Hid (Below w.heap.size w w1) := B0.trans (hb1.mono B0.size)
    clear HC hb1 B0
    go_wp2_with fail
    go_ret
    exact ⟨by simp, HE.out⟩
  · have HV : Hid (fitB d = false) := by show _ = _; unfold fitB; simp [h1]
    have d1 : decide ((d.length : Int) > 600) = true := decide_eq_true (by omega)
    clear HC
    go_enter Try.func6, Try.ntmps6
    go_wp2_with fail
    go_ret
    exact ⟨by rw [HV.out]; rfl, B0⟩
end Go.Proofs.Ytdalomibilicfaa
