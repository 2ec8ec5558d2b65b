/- The law VmRuns, walked. -/
import Derived.Test.YthcelkpjhkkogaaDoorAwake
import Derived.Test.YthcelkpjhkkogaaDoorRefRun
import Derived.Test.YthcelkpjhkkogaaDoorRefPrint
namespace Go.Proofs.YthcelkpjhkkogaaDoor
open Go.Shelf Go.RowKit Go.Lib Go.Proofs

set_option maxRecDepth 100000 in
set_option maxHeartbeats 4000000 in
theorem runs_any (p : List Ins) (ao : Option Addr) (cap : Nat) (s : ByteArray) (a state : Int) (w : World) (hV : Vars w) (hc : InsAt p ao w) (hok : ∀ i ∈ p, InsOk i) (hl : p.length ≤ 9223372036854775807) (hs : s.size ≤ 4611686018427387904) :
    Calls Tryd.prog 4 #[.slice ao p.length cap, .string s, .int .i64 a, .int .i64 state] w fun e w' => e = .returned (.bool true) ∧ Below w.heap.size w w' := by
  have hf1 := fun W (h : Below w.heap.size w W) => fit_any p ao cap W (hV.next h).forms (hc.next h) hl
  have hf2 := fun W (h : Below w.heap.size w W) => refFit_any p ao cap W (hc.next h) hl
  have haw := fun W (h : Below w.heap.size w W) => awake_any W (hV.next h)
  cases hf : fitP p with
  | false =>
    rw [hf] at hf1 hf2
    clear hV hc hf
    go_enter Tryd.func4, Tryd.ntmps4
    go_wp2_with fail
    refine (hf1 _ (Below.refl _ _)).mono ?_
    rintro e w1 ⟨rfl, hb1⟩
    go_wp2_with fail
    refine (hf2 _ hb1).mono ?_
    rintro e w2 ⟨rfl, hb2⟩
    have k2 := below_next hb1 hb2
    go_wp2_with fail
    refine (hf2 _ k2).mono ?_
    rintro e w3 ⟨rfl, hb3⟩
    have k3 := below_next k2 hb3
    go_wp2_with (go_at_call 13; refine (haw _ k3).mono ?_; rintro e w4 ⟨rfl, hb4⟩)
    go_ret
    exact ⟨rfl, below_next k3 hb4⟩
  | true =>
    have hr1 := fun W (h : Below w.heap.size w W) => vmRun_any p ao cap s a state W (hV.next h).forms (hc.next h) hl (by omega)
    have hr2 := fun W (h : Below w.heap.size w W) => refRun_any p ao cap s a state W (hc.next h) hf hs
    have hp1 := fun W (h : Below w.heap.size w W) => print_any p ao cap W (hV.next h) (hc.next h) hf hok
    have hp2 := fun W (h : Below w.heap.size w W) => refPrint_any p ao cap W (hc.next h) hf hok
    rw [hf] at hf1 hf2
    generalize strB (printN p) = tx at hp1 hp2
    generalize runV p s.data.toList a state = v0 at hr1 hr2
    obtain ⟨x0, x1, x2⟩ := v0
    clear hV hc hf hok
    go_enter Tryd.func4, Tryd.ntmps4
    go_wp2_with fail
    refine (hf1 _ (Below.refl _ _)).mono ?_
    rintro e w1 ⟨rfl, hb1⟩
    go_wp2_with fail
    refine (hf2 _ hb1).mono ?_
    rintro e w2 ⟨rfl, hb2⟩
    have k2 := below_next hb1 hb2
    go_wp2_with fail
    refine (hf2 _ k2).mono ?_
    rintro e w3 ⟨rfl, hb3⟩
    have k3 := below_next k2 hb3
    go_wp2_with fail
    refine (hr1 _ k3).mono ?_
    rintro e w4 ⟨rfl, hb4⟩
    have k4 := below_next k3 hb4
    go_wp2_with fail
    refine (hr2 _ k4).mono ?_
    rintro e w5 ⟨rfl, hb5⟩
    have k5 := below_next k4 hb5
    go_wp2_with fail
    refine (hp1 _ k5).mono ?_
    rintro e w6 ⟨rfl, hb6⟩
    have k6 := below_next k5 hb6
    go_wp2_with fail
    refine (hp2 _ k6).mono ?_
    rintro e w7 ⟨rfl, hb7⟩
    have k7 := below_next k6 hb7
    go_wp2_with (go_at_call 13; refine (haw _ k7).mono ?_; rintro e w8 ⟨rfl, hb8⟩)
    go_ret
    exact ⟨rfl, below_next k7 hb8⟩
end Go.Proofs.YthcelkpjhkkogaaDoor
