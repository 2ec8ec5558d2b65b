/- The document's accepts and goes. -/
import Derived.Test.YtdalomibilicfaaJRNext
import Derived.Test.YtdalomibilicfaaJBfsMath
namespace Go.Proofs.Ytdalomibilicfaa
open Go.RowKit Go.Shelf

set_option maxRecDepth 100000 in
set_option maxHeartbeats 800000 in
theorem accepts_any (d : List Ds) (v : Value) (q : Int) (w : World) (hl : SlD d v w) (hq : q < d.length) :
    Calls Try.prog 31 #[.agg #[v], .int .i64 q] w fun e w' => e = .returned (.int .i64 (accD d q)) ∧ Below w.heap.size w w' := by
  have B0 := below_box w v 24
  have hl2 := hl.next B0
  obtain ⟨da, dc, rfl, _⟩ := hl
  by_cases h : q < 0
  · have HV : Hid (accD d q = -1) := by show _ = _; unfold accD; rw [if_neg (by omega)]
    have d1 : decide (q < 0) = true := decide_eq_true h
    clear hl2
    go_enter Try.func31, Try.ntmps31
    go_wp2_with fail
    go_ret
    exact ⟨by rw [HV.out]; rfl, B0⟩
  · obtain ⟨k, rfl⟩ : ∃ k : Nat, q = k := ⟨q.toNat, by omega⟩
    have hk : k < d.length := by omega
    obtain ⟨_, _, e0, hd, _⟩ := hl2
    cases e0
    obtain ⟨b, off, u, rfl, hb, c1, c2, _⟩ := hd.at (Below.refl _ _) hk
    have HV : Hid (accD d k = d[k].acc) := (arcsD_mem hk).2
    generalize d[k].acc = ac at *
    have d1 : decide ((k : Int) < 0) = false := decide_eq_false (by omega)
    clear hd h
    go_enter Try.func31, Try.ntmps31
    go_wp2_with fail
    go_ret
    exact ⟨by rw [HV.out]; rfl, B0⟩

set_option maxRecDepth 100000 in
set_option maxHeartbeats 800000 in
theorem goes_any (d : List Ds) (v : Value) (q c : Int) (w : World) (hl : SlD d v w) (hq : q < d.length) (h0 : 0 ≤ c) (h1 : c ≤ 255) :
    Calls Try.prog 32 #[.agg #[v], .int .i64 q, .int .u8 c] w fun e w' => e = .returned (.int .i64 (ledD d q c)) ∧ Below w.heap.size w w' := by
  have B0 := below_box w v 24
  have hl2 := hl.next B0
  obtain ⟨da, dc, rfl, _⟩ := hl
  by_cases h : q < 0
  · have HV : Hid (ledD d q c = -1) := led_dead h c
    have d1 : decide (q < 0) = true := decide_eq_true h
    clear hl2
    go_enter Try.func32, Try.ntmps32
    go_wp2_with fail
    go_ret
    exact ⟨by rw [HV.out]; rfl, B0⟩
  · obtain ⟨k, rfl⟩ : ∃ k : Nat, q = k := ⟨q.toNat, by omega⟩
    have hk : k < d.length := by omega
    have C1 := rnext_any d _ k c _ hl2 hk h0 h1
    have d1 : decide ((k : Int) < 0) = false := decide_eq_false (by omega)
    clear hl2 h
    go_enter Try.func32, Try.ntmps32
    go_wp2_with fail
    refine C1.mono ?_
    rintro e w1 ⟨rfl, hb1⟩
    have HE : Hid (Below w.heap.size w w1) := B0.trans (hb1.mono B0.size)
    clear C1 hb1
    go_wp2_with fail
    go_ret
    exact ⟨rfl, HE.out⟩
end Go.Proofs.Ytdalomibilicfaa
