/- Fit of the program and of the document: one value, for every slice of operations. -/
import Derived.Test.YtggehnnbgeffpaaDoorBase
import Derived.Shelf.SlicesQ.IndexFunc
import Derived.Shelf.Lay
import Derived.Ground.SlgfProg
namespace Go.Proofs.YtggehnnbgeffpaaDoor
open Go.Shelf Go.RowKit Go.Lib Go.Proofs
shelf_lay_g SlLaysH0.n8 Slgf 8 at Tryd 32 as Tryd.containsF

theorem unfit_pred (es : List Ins) (ao : Option Addr) (cap B : Nat) (w : World) (hF : FormsAt w) (hB : B < w.heap.size) (hcell : w.cell? ⟨B, 0, none⟩ = some (.slice ao es.length cap)) :
    PredBelow Tryd.prog 30 #[.pointer (some ⟨B, 0, none⟩)] (fun x => .agg (encI x).toArray) (fun x => !fitB es.length x) w := fun W x hb => by
  have hc : W.cell? ⟨B, 0, none⟩ = some (.slice ao es.length cap) := (hb.cell (p := ⟨B, 0, none⟩) hB).trans hcell
  have hBW : B < W.heap.size := Nat.lt_of_lt_of_le hB hb.size
  have hne : B ≠ W.heap.size := by omega
  have hFW := hF.next hb
  obtain ⟨o, x, y, z⟩ := x
  show Calls Tryd.prog 30 #[.agg #[.int .i64 o, .int .i64 x, .int .i64 y, .int .i64 z], .pointer (some ⟨B, 0, none⟩)] W _
  have hcon := fun W' (h : Below W.heap.size W W') => fitIns_any ⟨o, x, y, z⟩ es.length W' (hFW.next h)
  generalize hv : fitB es.length ⟨o, x, y, z⟩ = v at hcon
  go_enter Tryd.func30, Tryd.ntmps30
  go_wp2_with (go_at_call 31; refine (hcon _ ((Below.refl _ _).alloc (Nat.le_refl _) _)).mono ?_; rintro e w' ⟨rfl, hb'⟩)
  go_ret
  refine ⟨?_, hb.trans ((((Below.refl _ W).alloc (Nat.le_refl _) _).trans (hb'.mono (by simp))).mono hb.size)⟩
  show _ = Ending.returned (.bool (!fitB es.length ⟨o, x, y, z⟩))
  rw [hv]
  rfl

set_option maxHeartbeats 1000000 in
/-- Fit: just what the chapter says. -/
theorem fit_any (es : List Ins) (ao : Option Addr) (cap : Nat) (w : World) (hF : FormsAt w) (hc : InsAt es ao w) (hl : es.length ≤ 9223372036854775807) :
    Calls Tryd.prog 14 #[.slice ao es.length cap] w fun e w' => e = .returned (.bool (fitP es)) ∧ Below w.heap.size w w' := by
  by_cases h : 1 ≤ es.length ∧ es.length ≤ 64
  · obtain ⟨b, off, rfl, hb, -⟩ := hc.at (Below.refl _ w) (j := 0) (by omega)
    have eg : ∀ args w, (callFunc 30 args).run Tryd.prog w = .ok (.enter 30 args) w := enters_of Tryd.func30 (by kernel_rfl) rfl
    have hF1 : FormsAt (w.alloc (.cells #[.slice (some ⟨b, off, none⟩) es.length cap] 22)) := hF.next ((Below.refl _ w).alloc (Nat.le_refl _) _)
    have hcon := AnyQ.slices_ContainsFunc Tryd.containsF 4 Tryd.isAgg39 Tryd.sizeOf39 encI (fun _ => rfl) (fun x => !fitB es.length x) 30 #[.pointer (some ⟨w.heap.size, 0, none⟩)] eg b off es.length cap es (w.alloc (.cells #[.slice (some ⟨b, off, none⟩) es.length cap] 22))
      (unfit_pred es (some ⟨b, off, none⟩) cap w.heap.size _ hF1 (by simp) (by simp)) (Nat.le_refl _) hl (by simp; omega) (fun j hj i v hi => by
        refine Lib.cell?_alloc_some _ ?_
        obtain ⟨b', off', e1, _, h2, h3, h4, h5⟩ := hc.at (Below.refl _ w) hj
        cases e1
        rw [getElem!_pos es j hj] at hi
        match i, hi with
        | 0, hi => simp [encI] at hi; rw [← hi]; exact h2
        | 1, hi => simp [encI] at hi; rw [← hi]; exact h3
        | 2, hi => simp [encI] at hi; rw [← hi]; exact h4
        | 3, hi => simp [encI] at hi; rw [← hi]; exact h5
        | i + 4, hi => simp [encI] at hi)
    change Calls Tryd.prog 32 _ _ _ at hcon
    have e : (es.take es.length).any (fun x => !fitB es.length x) = !fitP es := by
      simp [fitP, h.1, h.2, List.any_eq_not_all_not]
    rw [e] at hcon
    generalize fitP es = v at *
    have h1 : ((es.length : Int) == 0) = false := beq_eq_false_iff_ne.2 (by omega)
    have h2 : decide ((64 : Int) < es.length) = false := decide_eq_false (by omega)
    clear hc e hF hF1
    generalize es.length = n at *
    go_enter Tryd.func14, Tryd.ntmps14
    go_wp2_with (go_at_call 32; refine hcon.mono ?_; rintro e w' ⟨rfl, hb'⟩)
    go_ret
    refine ⟨ret_bool (by simp), ((Below.refl _ w).alloc (Nat.le_refl _) _).trans (hb'.mono (by simp))⟩
  · have e : fitP es = false := by simp [fitP, h]
    rw [e]
    have h2 : es.length = 0 ∨ (es.length ≠ 0 ∧ 64 < es.length) := by omega
    clear hc
    generalize es.length = n at *
    rcases h2 with rfl | ⟨h1, h2⟩
    · go_enter Tryd.func14, Tryd.ntmps14
      go_wp2_with fail
      go_ret
      exact ⟨rfl, (Below.refl _ _).alloc (Nat.le_refl _) _⟩
    · have h3 : (64 : Int) < n := by omega
      have h4 : ¬ (n : Int) = 0 := by omega
      go_enter Tryd.func14, Tryd.ntmps14
      go_wp2_with fail
      all_goals
        go_ret
        exact ⟨rfl, (Below.refl _ _).alloc (Nat.le_refl _) _⟩

set_option maxHeartbeats 1000000 in
/-- The document's Fit. -/
theorem refFit_any (es : List Ins) (ao : Option Addr) (cap : Nat) (w : World) (hc : InsAt es ao w) (hl : es.length ≤ 9223372036854775807) :
    Calls Tryd.prog 15 #[.slice ao es.length cap] w fun e w' => e = .returned (.bool (fitP es)) ∧ Below w.heap.size w w' := by
  go_enter Tryd.func15, Tryd.ntmps15
  go_wp2
  go_loopw [3] (fun i wr => ∃ j : Nat, i = .int .i64 j ∧ j ≤ es.length ∧ j ≤ 64 ∧ Below w.heap.size w wr ∧ Hid (∀ k, k < j → ∀ r, es[k]? = some r → fitB es.length r = true)) (fun i _ => es.length - (intOf i).toNat)
  case atStart => exact ⟨0, rfl, Nat.zero_le _, by omega, Below.refl _ _, fun k hk => absurd hk (Nat.not_lt_zero _)⟩
  case round =>
    obtain ⟨j, rfl, hj, hj64, B1, HA⟩ := hrel
    by_cases hlt : j < es.length ∧ j < 64
    · obtain ⟨b, off, rfl, hb, c0, c1, c2, c3⟩ := hc.at B1 hlt.1
      have k1 : (j : Int) < es.length := by omega
      have k2 : (j : Int) < 64 := by omega
      have hr : es[j]? = some es[j] := by simp [hlt.1]
      generalize hrr : es[j] = r at *
      have HR : Hid (es[j]? = some r) := hr
      obtain ⟨o, x, y, z⟩ := r
      simp only at c0 c1 c2 c3
      have hcon := fun W' => fitOne_any ⟨o, x, y, z⟩ es.length W'
      cases hv : fitB es.length ⟨o, x, y, z⟩ with
      | true =>
        rw [hv] at hcon
        have HV : Hid (fitB es.length ⟨o, x, y, z⟩ = true) := hv
        clear hv hrr hr
        generalize es.length = n at *
        go_wp2_with (go_at_call 33; refine (hcon _).mono ?_; rintro e w' ⟨rfl, hb'⟩)
        go_roundw
        case rel =>
          refine ⟨j + 1, by go_num, by omega, by omega, below_then B1 hb' B1.size, (show Hid _ from fun k hk r hr => ?_)⟩
          by_cases e : k = j
          · subst e
            rw [HR.out] at hr
            cases hr
            exact HV.out
          · exact HA.out k (by omega) r hr
        case measure => simp [intOf]; omega
      | false =>
        rw [hv] at hcon
        have e : fitP es = false := by
          unfold fitP
          have : es.all (fitB es.length) = false := by
            rw [List.all_eq_false]
            exact ⟨⟨o, x, y, z⟩, List.mem_of_getElem? hr, by simp [hv]⟩
          simp [this]
        have HE : Hid (fitP es = false) := e
        clear hv hrr hr e
        generalize es.length = n at *
        go_wp2_with (go_at_call 33; refine (hcon _).mono ?_; rintro e w' ⟨rfl, hb'⟩)
        go_ret
        exact ⟨ret_bool HE.out.symm, below_then B1 hb' B1.size⟩
    · have e : fitP es = (decide (1 ≤ es.length) && decide (es.length ≤ 64)) := by
        unfold fitP
        by_cases h64 : es.length ≤ 64
        · have : es.all (fitB es.length) = true := by
            rw [List.all_eq_true]
            intro r hr
            obtain ⟨k, hk, hkr⟩ := List.mem_iff_getElem.1 hr
            exact HA.out k (by omega) r (by rw [← hkr]; simp [hk])
          simp [this]
        · simp [h64]
      have HE : Hid (fitP es = (decide (1 ≤ es.length) && decide (es.length ≤ 64))) := e
      have k1 : ((j : Int) < es.length ∧ ¬ (j : Int) < 64) ∨ ¬ (j : Int) < es.length := by omega
      clear e HA hc
      generalize es.length = n at *
      rcases k1 with ⟨k1, k2⟩ | k1
      all_goals
        go_wp2_with fail
      all_goals
        go_ret
        exact ⟨ret_bool (by rw [HE.out, Bool.eq_iff_iff]; simp_all; try omega), B1⟩
end Go.Proofs.YtggehnnbgeffpaaDoor
