/- awake: chapter 6's example, in whatever world in which the variables hold what the text lays. -/
import Derived.Test.YtggehnnbgeffpaaDoorParse
import Derived.Test.YtggehnnbgeffpaaDoorRunV
namespace Go.Proofs.YtggehnnbgeffpaaDoor
open Go.Shelf Go.RowKit Go.Lib Go.Proofs

def exS : ByteArray := ⟨#[99, 104, 97, 114, 32, 57, 55, 32, 57, 55, 32, 51, 59, 32, 103, 111, 116, 111, 32, 48, 59, 32, 110, 111, 59, 32, 121, 101, 115]⟩
def exP : List Ins := [⟨1, 97, 97, 3⟩, ⟨5, 0, 0, 0⟩, ⟨7, 0, 0, 0⟩, ⟨6, 0, 0, 0⟩]
theorem ex_parse : parseN exS.data.toList = .inr exP := by decide +kernel
theorem ex_fit : fitP exP = true := by decide +kernel
theorem ex_run1 : runV exP [97, 97, 98] 0 0 = (2, 0, 3) := by decide +kernel
theorem ex_run2 : runV exP [98] 0 0 = (-1, 0, 1) := by decide +kernel
theorem ex_print : printN exP = exS.data.toList := by decide +kernel

theorem ex_ok : ∀ i ∈ exP, InsOk i := by
  intro i hi
  simp [exP] at hi
  rcases hi with rfl | rfl | rfl | rfl <;> simp [InsOk]
theorem ex_ix : IxOk exS := ixOk_ascii exS (by decide) (by decide)

set_option maxRecDepth 100000 in
set_option maxHeartbeats 2000000 in
theorem awake_any (w : World) (hV : Vars w) : Calls Tryd.prog 13 #[] w fun e w' => e = .returned (.bool true) ∧ Below w.heap.size w w' := by
  have hp := parse_any exS w (by decide) ex_ix hV
  go_enter Tryd.func13, Tryd.ntmps13
  go_wp2_with fail
  refine hp.mono ?_
  rintro e w1 ⟨h | ⟨p, ao, cap, hpp, hl, rfl, hins⟩, hb1⟩
  · obtain ⟨er, a, h, _⟩ := h
    rw [ex_parse] at h
    cases h
  · rw [ex_parse] at hpp
    cases hpp
    have hV1 := hV.next hb1
    have hV2 := fun W (h : Below w1.heap.size w1 W) => hV1.next h
    have hr1 := fun W (h : Below w1.heap.size w1 W) => vmRun_any exP ao cap ⟨#[97, 97, 98]⟩ 0 0 W (hV2 W h).forms (hins.next h) (by decide) (by decide)
    have hr2 := fun W (h : Below w1.heap.size w1 W) => vmRun_any exP ao cap ⟨#[98]⟩ 0 0 W (hV2 W h).forms (hins.next h) (by decide) (by decide)
    have hft := fun W (h : Below w1.heap.size w1 W) => fit_any exP ao cap W (hV2 W h).forms (hins.next h) (by decide)
    have hpr := fun W (h : Below w1.heap.size w1 W) => print_any exP ao cap W (hV2 W h) (hins.next h) ex_fit ex_ok
    have e1 : runV exP (⟨#[97, 97, 98]⟩ : ByteArray).data.toList 0 0 = (2, 0, 3) := ex_run1
    have e2 : runV exP (⟨#[98]⟩ : ByteArray).data.toList 0 0 = (-1, 0, 1) := ex_run2
    rw [e1] at hr1
    rw [e2] at hr2
    rw [ex_fit] at hft
    have e3 : strB (printN exP) = exS := by rw [ex_print]
    rw [e3] at hpr
    have hb1' : Below w1.heap.size w1 (w1.alloc (.cells #[.int .i64 0, .int .i64 0] 25)) := (Below.refl _ _).alloc (Nat.le_refl _) _
    simp only [exP, List.length_cons, List.length_nil, Nat.reduceAdd] at *
    clear hp hV hV1 hV2 hins e1 e2 e3
    go_wp2_with fail
    refine (hr1 _ hb1').mono ?_
    rintro e w2 ⟨rfl, hb2⟩
    have k2 : Below w1.heap.size w1 w2 := below_next hb1' hb2
    have q0 : w2.cell? ⟨w1.heap.size, 0, none⟩ = some (.int .i64 0) := (hb2.cell (p := ⟨w1.heap.size, 0, none⟩) (by simp)).trans (by go_simp)
    have q1 : w2.cell? ⟨w1.heap.size, 1, none⟩ = some (.int .i64 0) := (hb2.cell (p := ⟨w1.heap.size, 1, none⟩) (by simp)).trans (by go_simp)
    have hz2 : w1.heap.size < w2.heap.size := Nat.lt_of_lt_of_le (by simp) hb2.size
    go_wp2_with fail
    refine (hr2 _ k2).mono ?_
    rintro e w3 ⟨rfl, hb3⟩
    have k3 : Below w1.heap.size w1 w3 := below_next k2 hb3
    have q0' : w3.cell? ⟨w1.heap.size, 0, none⟩ = some (.int .i64 0) := (hb3.cell (p := ⟨w1.heap.size, 0, none⟩) hz2).trans q0
    have q1' : w3.cell? ⟨w1.heap.size, 1, none⟩ = some (.int .i64 0) := (hb3.cell (p := ⟨w1.heap.size, 1, none⟩) hz2).trans q1
    clear hr1 hr2 hb2 hb3 k2 q0 q1
    have hf3 := hft _ k3
    have hp4 := fun w4 (h : Below w3.heap.size w3 w4) => hpr w4 (below_next k3 h)
    unfold exS at hp4
    clear hft hpr
    go_wp2_with (first
      | (go_at_call 14; refine hf3.mono ?_; rintro e w4 ⟨rfl, hb4⟩)
      | (go_at_call 11; refine (hp4 _ (by assumption)).mono ?_; rintro e w5 ⟨rfl, hb5⟩))
    go_ret
    exact ⟨rfl, below_next hb1 (below_next (below_next k3 hb4) hb5)⟩
end Go.Proofs.YtggehnnbgeffpaaDoor
