/- Chapter 10's example, as awake lays it. -/
import Derived.Test.YtckbfiigbckmeaaDoorAwakeMath
namespace Go.Proofs.YtckbfiigbckmeaaDoor
open Go.RowKit

def bx (n : UInt8) : ByteArray := ⟨#[n]⟩
def itA (s : Int) : It := ⟨s, ⟨#[]⟩, ⟨#[]⟩⟩
def fA : Fl := ⟨[bx 120, bx 121], [bx 97, bx 98], [⟨2, [itA 3, itA 0], 0⟩, ⟨3, [], 0⟩, ⟨3, [itA 1], 0⟩]⟩
def aA (n : Nat) : FlA := ⟨some ⟨n, 0, none⟩, 2, some ⟨n + 1, 0, none⟩, 2, some ⟨n + 1 + 1 + 1 + 1, 0, none⟩, 3⟩
theorem gr_A : fA.gr = gA := rfl
theorem n_A : fA.n = 4 := rfl
theorem fit_A : FitP fA := by
  refine ⟨by decide, by decide, by decide, fun p hp => ?_, fun p hp => ?_, fun p hp x hx => ?_⟩ <;>
    simp only [fA, List.mem_cons, List.not_mem_nil, or_false] at hp <;> rcases hp with rfl | rfl | rfl
  · exact ⟨by decide, by decide⟩
  · exact ⟨by decide, by decide⟩
  · exact ⟨by decide, by decide⟩
  · decide
  · decide
  · decide
  · simp at hx; rcases hx with rfl | rfl <;> exact ⟨by decide, by decide⟩
  · simp at hx
  · simp at hx; subst hx; exact ⟨by decide, by decide⟩
theorem row2 {α : Type} (enc : α → Value) (x y : α) (w : World) (t : TypeId) : RowAt enc [x, y] (some ⟨w.heap.size, 0, none⟩) (w.alloc (Obj.cells #[enc x, enc y] t)) := by
  intro i z hi
  refine ⟨w.heap.size, 0, rfl, by simp, ?_⟩
  match i, hi with
  | 0, hi => simp at hi; subst hi; simp
  | 1, hi => simp at hi; subst hi; simp
theorem its2 (x y : It) (w : World) (t : TypeId) (hx : i64B x.sym ∧ x.fld.size ≤ 9223372036854775807 ∧ x.als.size ≤ 9223372036854775807) (hy : i64B y.sym ∧ y.fld.size ≤ 9223372036854775807 ∧ y.als.size ≤ 9223372036854775807) :
    ItsAt [x, y] (some ⟨w.heap.size, 0, none⟩) (w.alloc (Obj.cells #[.int .i64 x.sym, .string x.fld, .string x.als, .int .i64 y.sym, .string y.fld, .string y.als] t)) := by
  intro i z hi
  refine ⟨w.heap.size, 0, rfl, by simp, ?_⟩
  match i, hi with
  | 0, hi => simp at hi; subst hi; exact ⟨by simp, by simp, by simp, hx⟩
  | 1, hi => simp at hi; subst hi; exact ⟨by simp, by simp, by simp, hy⟩
theorem its1 (x : It) (w : World) (t : TypeId) (hx : i64B x.sym ∧ x.fld.size ≤ 9223372036854775807 ∧ x.als.size ≤ 9223372036854775807) :
    ItsAt [x] (some ⟨w.heap.size, 0, none⟩) (w.alloc (Obj.cells #[.int .i64 x.sym, .string x.fld, .string x.als] t)) := by
  intro i z hi
  refine ⟨w.heap.size, 0, rfl, by simp, ?_⟩
  match i, hi with
  | 0, hi => simp at hi; subst hi; exact ⟨by simp, by simp, by simp, hx⟩
theorem itA_ok (s : Int) (h : i64B s) : i64B (itA s).sym ∧ (itA s).fld.size ≤ 9223372036854775807 ∧ (itA s).als.size ≤ 9223372036854775807 := ⟨h, by simp [itA, ByteArray.size], by simp [itA, ByteArray.size]⟩
def wA1 (w : World) : World := w.alloc (Obj.cells #[.string (bx 120), .string (bx 121)] 9)
def wA2 (w : World) : World := (wA1 w).alloc (Obj.cells #[.string (bx 97), .string (bx 98)] 9)
def wA3 (w : World) : World := (wA2 w).alloc (Obj.cells #[.int .i64 3, .string ⟨#[]⟩, .string ⟨#[]⟩, .int .i64 0, .string ⟨#[]⟩, .string ⟨#[]⟩] 48)
def wA4 (w : World) : World := (wA3 w).alloc (Obj.cells #[.int .i64 1, .string ⟨#[]⟩, .string ⟨#[]⟩] 48)
def wA5 (w : World) : World := (wA4 w).alloc (Obj.cells #[.int .i64 2, .slice (some ⟨w.heap.size + 1 + 1, 0, none⟩) 2 2, .int .i64 0, .int .i64 3, .slice none 0 0, .int .i64 0, .int .i64 3, .slice (some ⟨w.heap.size + 1 + 1 + 1, 0, none⟩) 1 1, .int .i64 0] 45)
theorem sz1 (w : World) : (wA1 w).heap.size = w.heap.size + 1 := by simp [wA1]
theorem sz2 (w : World) : (wA2 w).heap.size = w.heap.size + 1 + 1 := by simp [wA2, sz1]
theorem sz3 (w : World) : (wA3 w).heap.size = w.heap.size + 1 + 1 + 1 := by simp [wA3, sz2]
theorem sz4 (w : World) : (wA4 w).heap.size = w.heap.size + 1 + 1 + 1 + 1 := by simp [wA4, sz3]
theorem below_new (w : World) (o : Obj) : Below w.heap.size w (w.alloc o) := (Below.refl _ _).alloc (Nat.le_refl _) _
theorem flA (w : World) : FlAt fA (aA w.heap.size) (wA5 w) := by
  have b2 : Below (wA1 w).heap.size (wA1 w) (wA2 w) := below_new _ _
  have b3 : Below (wA2 w).heap.size (wA2 w) (wA3 w) := below_new _ _
  have b4 : Below (wA3 w).heap.size (wA3 w) (wA4 w) := below_new _ _
  have b5 : Below (wA4 w).heap.size (wA4 w) (wA5 w) := below_new _ _
  have r1 : RowAt Value.string [bx 120, bx 121] (some ⟨w.heap.size, 0, none⟩) (wA5 w) := ((((row2 Value.string (bx 120) (bx 121) w _ : RowAt _ _ _ (wA1 w)).next b2).next b3).next b4).next b5
  have r2 : RowAt Value.string [bx 97, bx 98] (some ⟨w.heap.size + 1, 0, none⟩) (wA5 w) := by
    have := row2 Value.string (bx 97) (bx 98) (wA1 w) 9
    rw [sz1] at this
    exact (((this : RowAt _ _ _ (wA2 w)).next b3).next b4).next b5
  have i1 : ItsAt [itA 3, itA 0] (some ⟨w.heap.size + 1 + 1, 0, none⟩) (wA5 w) := by
    have := its2 (itA 3) (itA 0) (wA2 w) 48 (itA_ok 3 (by unfold i64B; omega)) (itA_ok 0 (by unfold i64B; omega))
    rw [sz2] at this
    exact ((this : ItsAt _ _ (wA3 w)).next b4).next b5
  have i2 : ItsAt [itA 1] (some ⟨w.heap.size + 1 + 1 + 1, 0, none⟩) (wA5 w) := by
    have := its1 (itA 1) (wA3 w) 48 (itA_ok 1 (by unfold i64B; omega))
    rw [sz3] at this
    exact (this : ItsAt _ _ (wA4 w)).next b5
  have pr : PrsAt fA.prods (some ⟨w.heap.size + 1 + 1 + 1 + 1, 0, none⟩) (wA5 w) := by
    intro i p hi
    have hs := sz4 w
    refine ⟨w.heap.size + 1 + 1 + 1 + 1, 0, ?_⟩
    have hsz : w.heap.size + 1 + 1 + 1 + 1 < (wA5 w).heap.size := by simp [wA5, sz4]
    match i, hi with
    | 0, hi =>
      simp [fA] at hi; subst hi
      refine ⟨.slice (some ⟨w.heap.size + 1 + 1, 0, none⟩) 2 2, rfl, hsz, ?_, ?_, ?_, ⟨_, 2, rfl, i1, (fun h => by cases h), Nat.le_refl _, by omega⟩, by unfold i64B; simp, by unfold i64B; simp⟩ <;> (rw [← hs]; simp [wA5])
    | 1, hi =>
      simp [fA] at hi; subst hi
      refine ⟨.slice none 0 0, rfl, hsz, ?_, ?_, ?_, ⟨none, 0, rfl, fun i x hi => by simp at hi, fun _ => rfl, Nat.le_refl _, by omega⟩, by unfold i64B; simp, by unfold i64B; simp⟩ <;> (rw [← hs]; simp [wA5])
    | 2, hi =>
      simp [fA] at hi; subst hi
      refine ⟨.slice (some ⟨w.heap.size + 1 + 1 + 1, 0, none⟩) 1 1, rfl, hsz, ?_, ?_, ?_, ⟨_, 1, rfl, i2, (fun h => by cases h), Nat.le_refl _, by omega⟩, by unfold i64B; simp, by unfold i64B; simp⟩ <;> (rw [← hs]; simp [wA5])
    | i + 3, hi => simp [fA] at hi
  exact ⟨r1, r2, pr, by decide, by decide, by decide, (show 3 ≤ 3 from Nat.le_refl _), fun h => by cases h⟩
end Go.Proofs.YtckbfiigbckmeaaDoor
