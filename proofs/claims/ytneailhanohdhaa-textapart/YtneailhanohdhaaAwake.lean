/- The chapter's examples, played by the function awake: it returns true in every world. -/
import Derived.Test.YtneailhanohdhaaPoint
namespace Go.Proofs.Ytneailhanohdhaa
open Go.RowKit

theorem aw_p (w : World) : Calls Try.prog 9 #[.string ⟨#[97, 98, 10, 99]⟩, .int .i64 3] w fun e w' => e = .returned (.tuple #[.agg #[.int .i64 1, .int .i64 0], .int .i64 0]) ∧ Below w.heap.size w w' := by
  have e1 : ptN (⟨#[97, 98, 10, 99]⟩ : ByteArray).data.toList 3 = ((1, 0), 0) := by decide
  refine (point_any ⟨#[97, 98, 10, 99]⟩ 3 w (by decide)).mono ?_
  rw [e1]
  exact fun e w' h => h
theorem aw_a (w : World) : Calls Try.prog 14 #[.string ⟨#[97, 98, 99]⟩, .agg #[.int .i64 1, .int .i64 1, .string ⟨#[120, 121]⟩]] w fun e w' => e = .returned (.tuple #[.string ⟨#[97, 120, 121, 99]⟩, .int .i64 0]) ∧ Below w.heap.size w w' := by
  have e1 : fitN (⟨#[97, 98, 99]⟩ : ByteArray).size 1 1 (⟨#[120, 121]⟩ : ByteArray).size = 0 := by decide
  have e2 : appB ⟨#[97, 98, 99]⟩ ⟨#[120, 121]⟩ 1 1 = ⟨#[97, 120, 121, 99]⟩ := by
    unfold appB; rw [if_pos e1]; decide
  refine (apply_any ⟨#[97, 98, 99]⟩ ⟨#[120, 121]⟩ 1 1 w (by decide) (by decide) ⟨by decide, by decide⟩ ⟨by decide, by decide⟩).mono ?_
  rw [e1, e2]
  exact fun e w' h => h
theorem aw_b (w : World) : Calls Try.prog 14 #[.string ⟨#[97, 98, 99]⟩, .agg #[.int .i64 2, .int .i64 2, .string ⟨#[]⟩]] w fun e w' => e = .returned (.tuple #[.string ⟨#[97, 98, 99]⟩, .int .i64 13]) ∧ Below w.heap.size w w' := by
  have e1 : fitN (⟨#[97, 98, 99]⟩ : ByteArray).size 2 2 (⟨#[]⟩ : ByteArray).size = 13 := by decide
  have e2 : appB ⟨#[97, 98, 99]⟩ ⟨#[]⟩ 2 2 = ⟨#[97, 98, 99]⟩ := by
    unfold appB; rw [if_neg (by rw [e1]; decide)]
  refine (apply_any ⟨#[97, 98, 99]⟩ ⟨#[]⟩ 2 2 w (by decide) (by decide) ⟨by decide, by decide⟩ ⟨by decide, by decide⟩).mono ?_
  rw [e1, e2]
  exact fun e w' h => h
theorem aw_d (w : World) : Calls Try.prog 24 #[.string ⟨#[97, 98, 99, 100]⟩, .string ⟨#[97, 98, 120, 100]⟩] w fun e w' => e = .returned (.agg #[.int .i64 2, .int .i64 1, .string ⟨#[120]⟩]) ∧ Below w.heap.size w w' := by
  have e1 : dI ⟨#[97, 98, 99, 100]⟩ ⟨#[97, 98, 120, 100]⟩ = 2 := by decide
  have e2 : dK ⟨#[97, 98, 99, 100]⟩ ⟨#[97, 98, 120, 100]⟩ = 1 := by decide
  have e3 : diffV ⟨#[97, 98, 99, 100]⟩ ⟨#[97, 98, 120, 100]⟩ = .agg #[.int .i64 2, .int .i64 1, .string ⟨#[120]⟩] := by
    unfold diffV; rw [e1, e2]; rfl
  refine (diff_any ⟨#[97, 98, 99, 100]⟩ ⟨#[97, 98, 120, 100]⟩ w (by decide) (by decide)).mono ?_
  rw [e3]
  exact fun e w' h => h

set_option maxHeartbeats 400000 in
theorem awake_any (w : World) : Calls Try.prog 13 #[] w fun e w' => e = .returned (.bool true) ∧ Below w.heap.size w w' := by
  go_enter Try.func13, Try.ntmps13
  go_wp2_with fail
  refine (aw_p _).mono ?_
  rintro e w1 ⟨rfl, hb1⟩
  go_wp2_with fail
  refine (aw_a _).mono ?_
  rintro e w2 ⟨rfl, hb2⟩
  have hz2 := hb2.size
  have hc0 := hb2.cell (p := ⟨w1.heap.size, 0, none⟩) (by simp)
  have hc1 := hb2.cell (p := ⟨w1.heap.size, 1, none⟩) (by simp)
  simp at hz2 hc0 hc1
  go_wp2_with fail
  refine (aw_b _).mono ?_
  rintro e w3 ⟨rfl, hb3⟩
  have hz3 := hb3.size
  have hd0 := (hb3.cell (p := ⟨w1.heap.size, 0, none⟩) (by simp; omega)).trans hc0
  have hd1 := (hb3.cell (p := ⟨w1.heap.size, 1, none⟩) (by simp; omega)).trans hc1
  go_wp2_with fail
  refine (aw_d _).mono ?_
  rintro e w4 ⟨rfl, hb4⟩
  go_wp2
  go_ret
  refine ⟨rfl, ?_⟩
  have hz1 := hb1.size
  exact (((hb1.alloc hb1.size _).trans (hb2.mono (by simp; omega))).trans (hb3.mono (by omega))).trans (hb4.mono (by omega))
end Go.Proofs.Ytneailhanohdhaa
