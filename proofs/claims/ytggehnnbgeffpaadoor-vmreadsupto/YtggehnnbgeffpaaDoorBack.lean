/- The law VmBack, walked. -/
import Derived.Test.YtggehnnbgeffpaaDoorBackMath
import Derived.Test.YtggehnnbgeffpaaDoorAwake
namespace Go.Proofs.YtggehnnbgeffpaaDoor
open Go.Shelf Go.RowKit Go.Lib Go.Proofs

set_option maxRecDepth 100000 in
set_option maxHeartbeats 4000000 in
theorem same_self (p : List Ins) (ao bo : Option Addr) (cap dap : Nat) (w : World) (ha : InsAt p ao w) (hb : InsAt p bo w) (hl : p.length ≤ 64) :
    Calls Tryd.prog 10 #[.slice ao p.length cap, .slice bo p.length dap] w fun e w' => e = .returned (.bool true) ∧ Below w.heap.size w w' := by
  go_enter Tryd.func10, Tryd.ntmps10
  go_wp2
  go_loopw [5] (fun c wr => ∃ j : Nat, c = .int .i64 j ∧ j ≤ p.length ∧ Below w.heap.size w wr) (fun c _ => p.length - (intOf c).toNat)
  case atStart => exact ⟨0, rfl, Nat.zero_le _, Below.refl _ _⟩
  case round =>
    obtain ⟨j, rfl, hj, B1⟩ := hrel
    by_cases hlt : j < p.length
    · obtain ⟨b, off, rfl, hb0, e0, e1, e2, e3⟩ := ha.at B1 hlt
      obtain ⟨b', off', rfl, hb0', e0', e1', e2', e3'⟩ := hb.at B1 hlt
      have k1 : (j : Int) < p.length := by omega
      generalize p[j] = i at *
      obtain ⟨o, x, y, z⟩ := i
      simp only at e0 e1 e2 e3 e0' e1' e2' e3'
      clear ha hb
      go_wp2_with fail
      go_quiet (fail)
      go_wp2_with fail
      exact ⟨⟨j + 1, by go_num, by omega, below_drewN B1 _⟩, by simp [intOf]; omega⟩
    · have k1 : ¬ (j : Int) < p.length := by omega
      clear ha hb
      go_wp2_with fail
      go_ret
      exact ⟨rfl, B1⟩

set_option maxRecDepth 100000 in
set_option maxHeartbeats 4000000 in
theorem back_any (p : List Ins) (ao : Option Addr) (cap : Nat) (w : World) (hV : Vars w) (hc : InsAt p ao w) (hl : p.length ≤ 9223372036854775807) (hok : ∀ i ∈ p, InsOk i) :
    Calls Tryd.prog 5 #[.slice ao p.length cap] w fun e w' => e = .returned (.bool true) ∧ Below w.heap.size w w' := by
  have hfit := refFit_any p ao cap w hc hl
  have haw := fun W (h : Below w.heap.size w W) => awake_any W (hV.next h)
  cases hf : fitP p with
  | false =>
    rw [hf] at hfit
    go_enter Tryd.func5, Tryd.ntmps5
    go_wp2_with (first
      | (go_at_call 15; refine hfit.mono ?_; rintro e w1 ⟨rfl, hb1⟩)
      | (go_at_call 13; refine (haw _ (by assumption)).mono ?_; rintro e w2 ⟨rfl, hb2⟩))
    go_ret
    exact ⟨rfl, below_next hb1 hb2⟩
  | true =>
    rw [hf] at hfit
    have hlen := fitP_len hf
    have hpr := fun W (h : Below w.heap.size w W) => print_any p ao cap W (hV.next h) (hc.next h) hf hok
    have hpl := print_len hf hok
    have hsz : (strB (printN p)).size ≤ 6528 := hpl
    have hix : IxOk (strB (printN p)) := ixOk_ascii _ (by omega) (fun b hb => print_ascii hlen.2 p (fun i hi => fitP_mem hf hi) b (by simpa using hb))
    have hpa := fun W (h : Below w.heap.size w W) => parse_any (strB (printN p)) W (by omega) hix (hV.next h)
    have hpp : parseN (strB (printN p)).data.toList = .inr p := by
      have : (strB (printN p)).data.toList = printN p := by simp
      rw [this]
      exact parse_print hf
    generalize strB (printN p) = ps at *
    go_enter Tryd.func5, Tryd.ntmps5
    go_wp2_with (go_at_call 15; refine hfit.mono ?_; rintro e w1 ⟨rfl, hb1⟩)
    refine (hpr _ hb1).mono ?_
    rintro e w2 ⟨rfl, hb2⟩
    have k2 := below_next hb1 hb2
    go_wp2_with fail
    refine (hpa _ k2).mono ?_
    rintro e w3 ⟨h | ⟨q, qo, qc, hq, hql, rfl, hqi⟩, hb3⟩
    · obtain ⟨er, a, h, _⟩ := h
      rw [hpp] at h
      cases h
    · rw [hpp] at hq
      cases hq
      have k3 := below_next k2 hb3
      have k4 : Below w3.heap.size w3 (w3.alloc (.cells #[.int .i64 0, .int .i64 0] 25)) := (Below.refl _ _).alloc (Nat.le_refl _) _
      have hsame := same_self p ao qo cap qc (w3.alloc (.cells #[.int .i64 0, .int .i64 0] 25)) ((hc.next k3).next k4) (hqi.next k4) hlen.2
      have k5 := below_next k3 k4
      clear hpr hpa hfit hc hqi hV hpp hix
      go_wp2_with (first
        | (go_at_call 10; refine hsame.mono ?_; rintro e w5 ⟨rfl, hb5⟩; have k6 := below_next k5 hb5)
        | (go_at_call 13; refine (haw _ (by assumption)).mono ?_; rintro e w6 ⟨rfl, hb6⟩))
      go_ret
      exact ⟨rfl, below_next k6 hb6⟩
end Go.Proofs.YtggehnnbgeffpaaDoor
