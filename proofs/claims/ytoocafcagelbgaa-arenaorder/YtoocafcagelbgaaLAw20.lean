/- The examples of chapter 20. -/
import Derived.Test.YtoocafcagelbgaaJAOrd2
import Derived.Test.YtoocafcagelbgaaPKeeps
import Derived.Deep.Cut
namespace Go.Proofs.Ytoocafcagelbgaa
open Go.RowKit
attribute [local go_sem] Oper.semAt_some

def kidsA : Array Value := #[.string ⟨#[98]⟩, .bool false, .string ⟨#[]⟩, .int .i64 0, .int .i64 1, .int .i64 0, .slice none 0 0, .string ⟨#[98]⟩, .bool false, .string ⟨#[]⟩, .int .i64 1, .int .i64 2, .int .i64 0, .slice none 0 0]
def kidsB : Array Value := #[.string ⟨#[98]⟩, .bool false, .string ⟨#[]⟩, .int .i64 0, .int .i64 0, .int .i64 0, .slice none 0 0, .string ⟨#[98]⟩, .bool false, .string ⟨#[]⟩, .int .i64 0, .int .i64 0, .int .i64 0, .slice none 0 0]
theorem leaf_atA (A : Nat → Prop) (h : Hd) (ho : HdOk h) (W : World) : TAt A 1 (.mk h []) (ndV h (.slice none 0 0)) W :=
  ⟨none, 0, rfl, ho, fun _ => rfl, Nat.le_refl _, Nat.zero_le _, fun i t ht => by simp [Nd.kids] at ht⟩
theorem okHd (k : ByteArray) (f t : Int) (h : k.size ≤ 10) (h1 : 0 ≤ f) (h2 : f ≤ 10) (h3 : 0 ≤ t) (h4 : t ≤ 10) : HdOk ⟨k, false, ⟨#[]⟩, f, t, 0⟩ :=
  ⟨by unfold i64B; simp only; omega, by unfold i64B; simp only; omega, by unfold i64B; simp only; omega, by simp only; omega, show (0 : Nat) ≤ _ from Nat.zero_le _⟩
theorem one_at (b : Nat) (W : World) (hb : W.heap[b]? = some (Obj.cells kidsA 32 (0, 0))) : TAt (fun k => k = b) 2 oneT (.agg #[.string ⟨#[97]⟩, .bool false, .string ⟨#[]⟩, .int .i64 0, .int .i64 2, .int .i64 0, .slice (some ⟨b, 0, none⟩) 2 2]) W := by
  have cell : ∀ o, W.cell? ⟨b, o, none⟩ = kidsA[o]? := fun o => by simp [World.cell?, hb]
  have hbl : b < W.heap.size := (Array.getElem?_eq_some_iff.1 hb).1
  have ok : ∀ (k : ByteArray) (f t : Int), k.size ≤ 10 → 0 ≤ f → f ≤ 10 → 0 ≤ t → t ≤ 10 → HdOk ⟨k, false, ⟨#[]⟩, f, t, 0⟩ := okHd
  refine ⟨some ⟨b, 0, none⟩, 2, rfl, ok _ _ _ (by decide) (by decide) (by decide) (by decide) (by decide), (fun h => by cases h), by simp [oneT, Nd.kids], by simp [oneT, Nd.kids], fun i t ht => ?_⟩
  have hk : oneT.kids = [b1T, b2T] := rfl
  rw [hk] at ht
  match i, ht with
  | 0, ht =>
    simp at ht
    subst ht
    exact ⟨b, 0, none, 0, rfl, rfl, hbl, ⟨cell _, cell _, cell _, cell _, cell _, cell _, cell _⟩, leaf_atA _ _ (ok _ _ _ (by decide) (by decide) (by decide) (by decide) (by decide)) _⟩
  | 1, ht =>
    simp at ht
    subst ht
    exact ⟨b, 0, none, 0, rfl, rfl, hbl, ⟨cell _, cell _, cell _, cell _, cell _, cell _, cell _⟩, leaf_atA _ _ (ok _ _ _ (by decide) (by decide) (by decide) (by decide) (by decide)) _⟩
theorem two_at (b : Nat) (W : World) (hb : W.heap[b]? = some (Obj.cells kidsB 32 (0, 0))) : TAt (fun k => k = b) 2 twoT (.agg #[.string ⟨#[97]⟩, .bool false, .string ⟨#[]⟩, .int .i64 0, .int .i64 2, .int .i64 0, .slice (some ⟨b, 0, none⟩) 2 2]) W := by
  have cell : ∀ o, W.cell? ⟨b, o, none⟩ = kidsB[o]? := fun o => by simp [World.cell?, hb]
  have hbl : b < W.heap.size := (Array.getElem?_eq_some_iff.1 hb).1
  have ok : ∀ (k : ByteArray) (f t : Int), k.size ≤ 10 → 0 ≤ f → f ≤ 10 → 0 ≤ t → t ≤ 10 → HdOk ⟨k, false, ⟨#[]⟩, f, t, 0⟩ := okHd
  refine ⟨some ⟨b, 0, none⟩, 2, rfl, ok _ _ _ (by decide) (by decide) (by decide) (by decide) (by decide), (fun h => by cases h), by simp [twoT, Nd.kids], by simp [twoT, Nd.kids], fun i t ht => ?_⟩
  have hk : twoT.kids = [b0T, b0T] := rfl
  rw [hk] at ht
  match i, ht with
  | 0, ht =>
    simp at ht
    subst ht
    exact ⟨b, 0, none, 0, rfl, rfl, hbl, ⟨cell _, cell _, cell _, cell _, cell _, cell _, cell _⟩, leaf_atA _ _ (ok _ _ _ (by decide) (by decide) (by decide) (by decide) (by decide)) _⟩
  | 1, ht =>
    simp at ht
    subst ht
    exact ⟨b, 0, none, 0, rfl, rfl, hbl, ⟨cell _, cell _, cell _, cell _, cell _, cell _, cell _⟩, leaf_atA _ _ (ok _ _ _ (by decide) (by decide) (by decide) (by decide) (by decide)) _⟩

set_option maxRecDepth 100000 in
set_option maxHeartbeats 8000000 in
theorem awake20_any (w : World) : Calls Try.prog 9 #[] w fun e w' => e = .returned (.bool true) ∧ Below w.heap.size w w' := by
  have hl : ∀ (U : World) (o : Obj), (U.alloc o).heap.size = U.heap.size + 1 := fun U o => by simp
  have B0 : Below w.heap.size w ((((w.alloc (Obj.cells #[.string ⟨#[98]⟩, .bool false, .string ⟨#[]⟩, .int .i64 0, .int .i64 1, .int .i64 0, .slice none 0 0, .string ⟨#[98]⟩, .bool false, .string ⟨#[]⟩, .int .i64 1, .int .i64 2, .int .i64 0, .slice none 0 0] 32)).alloc (Obj.cells #[.string ⟨#[97]⟩, .bool false, .string ⟨#[]⟩, .int .i64 0, .int .i64 2, .int .i64 0, .slice (some ⟨w.heap.size, 0, none⟩) 2 2] 32)).alloc (Obj.cells #[.string ⟨#[98]⟩, .bool false, .string ⟨#[]⟩, .int .i64 0, .int .i64 0, .int .i64 0, .slice none 0 0, .string ⟨#[98]⟩, .bool false, .string ⟨#[]⟩, .int .i64 0, .int .i64 0, .int .i64 0, .slice none 0 0] 32)).alloc (Obj.cells #[.string ⟨#[97]⟩, .bool false, .string ⟨#[]⟩, .int .i64 0, .int .i64 2, .int .i64 0, .slice (some ⟨(w.heap.size + 1 + 1), 0, none⟩) 2 2] 32)) := ((((Below.refl _ _).alloc (Nat.le_refl _) _).alloc (by simp) _).alloc (by simp; omega) _).alloc (by simp; omega) _
  have k0 : ((((w.alloc (Obj.cells #[.string ⟨#[98]⟩, .bool false, .string ⟨#[]⟩, .int .i64 0, .int .i64 1, .int .i64 0, .slice none 0 0, .string ⟨#[98]⟩, .bool false, .string ⟨#[]⟩, .int .i64 1, .int .i64 2, .int .i64 0, .slice none 0 0] 32)).alloc (Obj.cells #[.string ⟨#[97]⟩, .bool false, .string ⟨#[]⟩, .int .i64 0, .int .i64 2, .int .i64 0, .slice (some ⟨w.heap.size, 0, none⟩) 2 2] 32)).alloc (Obj.cells #[.string ⟨#[98]⟩, .bool false, .string ⟨#[]⟩, .int .i64 0, .int .i64 0, .int .i64 0, .slice none 0 0, .string ⟨#[98]⟩, .bool false, .string ⟨#[]⟩, .int .i64 0, .int .i64 0, .int .i64 0, .slice none 0 0] 32)).alloc (Obj.cells #[.string ⟨#[97]⟩, .bool false, .string ⟨#[]⟩, .int .i64 0, .int .i64 2, .int .i64 0, .slice (some ⟨(w.heap.size + 1 + 1), 0, none⟩) 2 2] 32)).heap[w.heap.size]? = some (Obj.cells #[.string ⟨#[98]⟩, .bool false, .string ⟨#[]⟩, .int .i64 0, .int .i64 1, .int .i64 0, .slice none 0 0, .string ⟨#[98]⟩, .bool false, .string ⟨#[]⟩, .int .i64 1, .int .i64 2, .int .i64 0, .slice none 0 0] 32) := (Below.heap_alloc _ _ _ (by rw [hl, hl, hl]; omega)).trans ((Below.heap_alloc _ _ _ (by rw [hl, hl]; omega)).trans ((Below.heap_alloc _ _ _ (by rw [hl]; omega)).trans (heap_alloc_new w _)))
  have k1 : ((((w.alloc (Obj.cells #[.string ⟨#[98]⟩, .bool false, .string ⟨#[]⟩, .int .i64 0, .int .i64 1, .int .i64 0, .slice none 0 0, .string ⟨#[98]⟩, .bool false, .string ⟨#[]⟩, .int .i64 1, .int .i64 2, .int .i64 0, .slice none 0 0] 32)).alloc (Obj.cells #[.string ⟨#[97]⟩, .bool false, .string ⟨#[]⟩, .int .i64 0, .int .i64 2, .int .i64 0, .slice (some ⟨w.heap.size, 0, none⟩) 2 2] 32)).alloc (Obj.cells #[.string ⟨#[98]⟩, .bool false, .string ⟨#[]⟩, .int .i64 0, .int .i64 0, .int .i64 0, .slice none 0 0, .string ⟨#[98]⟩, .bool false, .string ⟨#[]⟩, .int .i64 0, .int .i64 0, .int .i64 0, .slice none 0 0] 32)).alloc (Obj.cells #[.string ⟨#[97]⟩, .bool false, .string ⟨#[]⟩, .int .i64 0, .int .i64 2, .int .i64 0, .slice (some ⟨(w.heap.size + 1 + 1), 0, none⟩) 2 2] 32)).heap[w.heap.size + 1]? = some (Obj.cells #[.string ⟨#[97]⟩, .bool false, .string ⟨#[]⟩, .int .i64 0, .int .i64 2, .int .i64 0, .slice (some ⟨w.heap.size, 0, none⟩) 2 2] 32) := (Below.heap_alloc _ _ _ (by rw [hl, hl, hl]; omega)).trans ((Below.heap_alloc _ _ _ (by rw [hl, hl]; omega)).trans (by have := heap_alloc_new (w.alloc (Obj.cells #[.string ⟨#[98]⟩, .bool false, .string ⟨#[]⟩, .int .i64 0, .int .i64 1, .int .i64 0, .slice none 0 0, .string ⟨#[98]⟩, .bool false, .string ⟨#[]⟩, .int .i64 1, .int .i64 2, .int .i64 0, .slice none 0 0] 32)) (Obj.cells #[.string ⟨#[97]⟩, .bool false, .string ⟨#[]⟩, .int .i64 0, .int .i64 2, .int .i64 0, .slice (some ⟨w.heap.size, 0, none⟩) 2 2] 32); rw [hl] at this; exact this))
  have k2 : ((((w.alloc (Obj.cells #[.string ⟨#[98]⟩, .bool false, .string ⟨#[]⟩, .int .i64 0, .int .i64 1, .int .i64 0, .slice none 0 0, .string ⟨#[98]⟩, .bool false, .string ⟨#[]⟩, .int .i64 1, .int .i64 2, .int .i64 0, .slice none 0 0] 32)).alloc (Obj.cells #[.string ⟨#[97]⟩, .bool false, .string ⟨#[]⟩, .int .i64 0, .int .i64 2, .int .i64 0, .slice (some ⟨w.heap.size, 0, none⟩) 2 2] 32)).alloc (Obj.cells #[.string ⟨#[98]⟩, .bool false, .string ⟨#[]⟩, .int .i64 0, .int .i64 0, .int .i64 0, .slice none 0 0, .string ⟨#[98]⟩, .bool false, .string ⟨#[]⟩, .int .i64 0, .int .i64 0, .int .i64 0, .slice none 0 0] 32)).alloc (Obj.cells #[.string ⟨#[97]⟩, .bool false, .string ⟨#[]⟩, .int .i64 0, .int .i64 2, .int .i64 0, .slice (some ⟨(w.heap.size + 1 + 1), 0, none⟩) 2 2] 32)).heap[w.heap.size + 1 + 1]? = some (Obj.cells #[.string ⟨#[98]⟩, .bool false, .string ⟨#[]⟩, .int .i64 0, .int .i64 0, .int .i64 0, .slice none 0 0, .string ⟨#[98]⟩, .bool false, .string ⟨#[]⟩, .int .i64 0, .int .i64 0, .int .i64 0, .slice none 0 0] 32) := (Below.heap_alloc _ _ _ (by rw [hl, hl, hl]; omega)).trans (by have := heap_alloc_new ((w.alloc (Obj.cells #[.string ⟨#[98]⟩, .bool false, .string ⟨#[]⟩, .int .i64 0, .int .i64 1, .int .i64 0, .slice none 0 0, .string ⟨#[98]⟩, .bool false, .string ⟨#[]⟩, .int .i64 1, .int .i64 2, .int .i64 0, .slice none 0 0] 32)).alloc (Obj.cells #[.string ⟨#[97]⟩, .bool false, .string ⟨#[]⟩, .int .i64 0, .int .i64 2, .int .i64 0, .slice (some ⟨w.heap.size, 0, none⟩) 2 2] 32)) (Obj.cells #[.string ⟨#[98]⟩, .bool false, .string ⟨#[]⟩, .int .i64 0, .int .i64 0, .int .i64 0, .slice none 0 0, .string ⟨#[98]⟩, .bool false, .string ⟨#[]⟩, .int .i64 0, .int .i64 0, .int .i64 0, .slice none 0 0] 32); rw [hl, hl] at this; exact this)
  have k3 : ((((w.alloc (Obj.cells #[.string ⟨#[98]⟩, .bool false, .string ⟨#[]⟩, .int .i64 0, .int .i64 1, .int .i64 0, .slice none 0 0, .string ⟨#[98]⟩, .bool false, .string ⟨#[]⟩, .int .i64 1, .int .i64 2, .int .i64 0, .slice none 0 0] 32)).alloc (Obj.cells #[.string ⟨#[97]⟩, .bool false, .string ⟨#[]⟩, .int .i64 0, .int .i64 2, .int .i64 0, .slice (some ⟨w.heap.size, 0, none⟩) 2 2] 32)).alloc (Obj.cells #[.string ⟨#[98]⟩, .bool false, .string ⟨#[]⟩, .int .i64 0, .int .i64 0, .int .i64 0, .slice none 0 0, .string ⟨#[98]⟩, .bool false, .string ⟨#[]⟩, .int .i64 0, .int .i64 0, .int .i64 0, .slice none 0 0] 32)).alloc (Obj.cells #[.string ⟨#[97]⟩, .bool false, .string ⟨#[]⟩, .int .i64 0, .int .i64 2, .int .i64 0, .slice (some ⟨(w.heap.size + 1 + 1), 0, none⟩) 2 2] 32)).heap[w.heap.size + 1 + 1 + 1]? = some (Obj.cells #[.string ⟨#[97]⟩, .bool false, .string ⟨#[]⟩, .int .i64 0, .int .i64 2, .int .i64 0, .slice (some ⟨(w.heap.size + 1 + 1), 0, none⟩) 2 2] 32) := by have := heap_alloc_new (((w.alloc (Obj.cells #[.string ⟨#[98]⟩, .bool false, .string ⟨#[]⟩, .int .i64 0, .int .i64 1, .int .i64 0, .slice none 0 0, .string ⟨#[98]⟩, .bool false, .string ⟨#[]⟩, .int .i64 1, .int .i64 2, .int .i64 0, .slice none 0 0] 32)).alloc (Obj.cells #[.string ⟨#[97]⟩, .bool false, .string ⟨#[]⟩, .int .i64 0, .int .i64 2, .int .i64 0, .slice (some ⟨w.heap.size, 0, none⟩) 2 2] 32)).alloc (Obj.cells #[.string ⟨#[98]⟩, .bool false, .string ⟨#[]⟩, .int .i64 0, .int .i64 0, .int .i64 0, .slice none 0 0, .string ⟨#[98]⟩, .bool false, .string ⟨#[]⟩, .int .i64 0, .int .i64 0, .int .i64 0, .slice none 0 0] 32)) (Obj.cells #[.string ⟨#[97]⟩, .bool false, .string ⟨#[]⟩, .int .i64 0, .int .i64 2, .int .i64 0, .slice (some ⟨(w.heap.size + 1 + 1), 0, none⟩) 2 2] 32); rw [hl, hl, hl] at this; exact this
  go_enter Try.func9, Try.ntmps9
  go_upto_region 3 with fail
  obtain ⟨w0, hw0⟩ : ∃ w0, w0 = ((((w.alloc (Obj.cells #[.string ⟨#[98]⟩, .bool false, .string ⟨#[]⟩, .int .i64 0, .int .i64 1, .int .i64 0, .slice none 0 0, .string ⟨#[98]⟩, .bool false, .string ⟨#[]⟩, .int .i64 1, .int .i64 2, .int .i64 0, .slice none 0 0] 32)).alloc (Obj.cells #[.string ⟨#[97]⟩, .bool false, .string ⟨#[]⟩, .int .i64 0, .int .i64 2, .int .i64 0, .slice (some ⟨w.heap.size, 0, none⟩) 2 2] 32)).alloc (Obj.cells #[.string ⟨#[98]⟩, .bool false, .string ⟨#[]⟩, .int .i64 0, .int .i64 0, .int .i64 0, .slice none 0 0, .string ⟨#[98]⟩, .bool false, .string ⟨#[]⟩, .int .i64 0, .int .i64 0, .int .i64 0, .slice none 0 0] 32)).alloc (Obj.cells #[.string ⟨#[97]⟩, .bool false, .string ⟨#[]⟩, .int .i64 0, .int .i64 2, .int .i64 0, .slice (some ⟨(w.heap.size + 1 + 1), 0, none⟩) 2 2] 32)) := ⟨_, rfl⟩
  rw [← hw0] at B0 k0 k1 k2 k3
  rw [← hw0]
  clear hw0 hl
  have HB0 : Hid (Below w.heap.size w w0) := B0
  have HT1 : Hid (∀ W, Below w0.heap.size w0 W → TAt (fun k => k = w.heap.size) 2 oneT (.agg #[.string ⟨#[97]⟩, .bool false, .string ⟨#[]⟩, .int .i64 0, .int .i64 2, .int .i64 0, .slice (some ⟨w.heap.size, 0, none⟩) 2 2]) W) := fun W hb => one_at _ W ((hb.block _ (blk_lt k0)).trans k0)
  have HT2 : Hid (∀ W, Below w0.heap.size w0 W → TAt (fun k => k = w.heap.size + 1 + 1) 2 twoT (.agg #[.string ⟨#[97]⟩, .bool false, .string ⟨#[]⟩, .int .i64 0, .int .i64 2, .int .i64 0, .slice (some ⟨(w.heap.size + 1 + 1), 0, none⟩) 2 2]) W) := fun W hb => two_at _ W ((hb.block _ (blk_lt k2)).trans k2)
  have HS1 : Hid (∀ W, Below w0.heap.size w0 W → (W.cell? ⟨w.heap.size + 1, 0, none⟩ = some (.string ⟨#[97]⟩) ∧ W.cell? ⟨w.heap.size + 1, 1, none⟩ = some (.bool false) ∧ W.cell? ⟨w.heap.size + 1, 2, none⟩ = some (.string ⟨#[]⟩) ∧ W.cell? ⟨w.heap.size + 1, 3, none⟩ = some (.int .i64 0) ∧ W.cell? ⟨w.heap.size + 1, 4, none⟩ = some (.int .i64 2) ∧ W.cell? ⟨w.heap.size + 1, 5, none⟩ = some (.int .i64 0) ∧ W.cell? ⟨w.heap.size + 1, 6, none⟩ = some (.slice (some ⟨w.heap.size, 0, none⟩) 2 2))) := fun W hb => by
    have := (hb.block _ (blk_lt k1)).trans k1
    refine ⟨?_, ?_, ?_, ?_, ?_, ?_, ?_⟩ <;> (rw [Lib.cell_of_heap this]; rfl)
  have HS2 : Hid (∀ W, Below w0.heap.size w0 W → (W.cell? ⟨w.heap.size + 1 + 1 + 1, 0, none⟩ = some (.string ⟨#[97]⟩) ∧ W.cell? ⟨w.heap.size + 1 + 1 + 1, 1, none⟩ = some (.bool false) ∧ W.cell? ⟨w.heap.size + 1 + 1 + 1, 2, none⟩ = some (.string ⟨#[]⟩) ∧ W.cell? ⟨w.heap.size + 1 + 1 + 1, 3, none⟩ = some (.int .i64 0) ∧ W.cell? ⟨w.heap.size + 1 + 1 + 1, 4, none⟩ = some (.int .i64 2) ∧ W.cell? ⟨w.heap.size + 1 + 1 + 1, 5, none⟩ = some (.int .i64 0) ∧ W.cell? ⟨w.heap.size + 1 + 1 + 1, 6, none⟩ = some (.slice (some ⟨(w.heap.size + 1 + 1), 0, none⟩) 2 2))) := fun W hb => by
    have := (hb.block _ (blk_lt k3)).trans k3
    refine ⟨?_, ?_, ?_, ?_, ?_, ?_, ?_⟩ <;> (rw [Lib.cell_of_heap this]; rfl)
  clear B0 k0 k1 k2 k3
  generalize w.heap.size + 1 + 1 + 1 = n3 at *
  generalize w.heap.size + 1 + 1 = n2 at *
  generalize w.heap.size + 1 = n1 at *
  go_cut [3, 4, 5] from 13 (fun tA tH tE wx => ∃ q S2 p sa sl sc ra rl rc fr, tA = .pointer (some ⟨q, 0, none⟩) ∧ tH = .int .i64 0 ∧ tE = .int .i64 0 ∧ Hid (BoxA w0.heap.size q (addS S2 p).ar (.agg #[.slice sa sl sc, .int .i64 fr, .slice ra rl rc]) (.slice sa sl sc) (.int .i64 fr) (.slice ra rl rc) wx ∧ Added newA oneT 0 S2 p ∧ Below w0.heap.size w0 wx))
  case first =>
    have HSS := HS1
    have HT := HT1
    clear HS1 HT1 HS2 HT2
    have HS0 := HSS.out w0.drew (Below.refl _ _).drew
    have BS : Below w0.heap.size w0 w0.drew := (Below.refl _ _).drew
    refine wp_region_L (fun W => W.cell? ⟨n1, 0, none⟩ = some (.string ⟨#[97]⟩) ∧ W.cell? ⟨n1, 1, none⟩ = some (.bool false) ∧ W.cell? ⟨n1, 2, none⟩ = some (.string ⟨#[]⟩) ∧ W.cell? ⟨n1, 3, none⟩ = some (.int .i64 0) ∧ W.cell? ⟨n1, 4, none⟩ = some (.int .i64 2) ∧ W.cell? ⟨n1, 5, none⟩ = some (.int .i64 0) ∧ W.cell? ⟨n1, 6, none⟩ = some (.slice (some ⟨w.heap.size, 0, none⟩) 2 2)) 11 (by kernel_rfl) 11 rfl ?_
    generalize w0.drew = wd at *
    refine wpAnyL_take' (i := 1) (v := ?_) (oi := { dst := some 23, op := Op.load 32 (Operand.tmp 1), type := 32, pos := "law.go:133", after := #[], guard := none }) rfl (by kernel_rfl) (by kernel_rfl) (by kernel_rfl) (by kernel_rfl) rfl (fun _ _ _ h => h) (Or.inl ⟨by rfl, ?_⟩) HS0 ?_
    rotate_left
    · intro W hSW
      go_simp
      try with_reducible rfl
    simp only [Act.put, List.setIfInBounds_toArray, List.set_cons_zero, List.set_cons_succ]
    refine wpAnyL_two (i := 0) (j := 7) (oi := { dst := some 22, op := Op.call { callee := Callee.value (Operand.func 14), args := #[], argTypes := #[] }, type := 25, pos := "law.go:133", after := #[], guard := none }) (oj := { dst := some 3, op := Op.alloc 25, type := 0, pos := "law.go:133", after := #[], guard := none }) (by kernel_rfl) rfl rfl rfl rfl (fun K hK => ?_) (fun K hK => ?_)
    · go_simp
      refine (new_any _).mono ?_
      rintro e W1 ⟨nv, rfl, hnv, hbn⟩
      have BS1 : Below w0.heap.size w0 W1 := below_next BS hbn
      refine hK.out _ _ (fun _ => HSS.out _ BS1) ?_
      clear hK
      try simp only [Act.put, List.setIfInBounds_toArray, List.set_cons_zero, List.set_cons_succ]
      refine wpAnyL_two (i := 2) (j := 7) (oi := { dst := some 24, op := Op.call { callee := Callee.value (Operand.func 24), args := #[Operand.tmp 22, Operand.tmp 23], argTypes := #[25, 32] }, type := 43, pos := "law.go:133", after := #[{ on := 0, ground := Ground.data }, { on := 1, ground := Ground.data }, { on := 0, ground := Ground.chain }], guard := none }) (oj := { dst := some 3, op := Op.alloc 25, type := 0, pos := "law.go:133", after := #[], guard := none }) (by kernel_rfl) rfl rfl rfl rfl (fun K hK => ?_) (fun K hK => ?_)
      · go_simp
        refine (addNew_any nv oneT _ 2 W1 hnv (HT.out _ BS1) (by rw [cnt_one]; decide)).mono ?_
        rintro e W2 ⟨⟨S2, p, sa, sl, sc, ra, rl, rc, fr, rfl, hav, had⟩, hba⟩
        have BS2 : Below w0.heap.size w0 W2 := below_next BS1 hba
        have hsA := hba.size
        refine hK.out _ _ (fun _ => HSS.out _ BS2) ?_
        clear hK
        try simp only [Act.put, List.setIfInBounds_toArray, List.set_cons_zero, List.set_cons_succ]
        refine wpAnyL_take' (i := 3) (v := ?_) (oi := { dst := some 21, op := Op.move (Operand.tmp 24), type := 43, pos := "law.go:133", after := #[{ on := 2, ground := Ground.data }], guard := none }) rfl (by kernel_rfl) (by kernel_rfl) (by kernel_rfl) (by kernel_rfl) rfl (fun _ _ _ h => h) (Or.inl ⟨by rfl, ?_⟩) (HSS.out _ BS2) ?_
        rotate_left
        · intro W hSW
          go_simp
          try with_reducible rfl
        simp only [Act.put, List.setIfInBounds_toArray, List.set_cons_zero, List.set_cons_succ]
        refine wpAnyL_take' (i := 4) (v := ?_) (oi := { dst := some 25, op := Op.extract (Operand.tmp 21) 0, type := 25, pos := "law.go:133", after := #[{ on := 3, ground := Ground.data }], guard := none }) rfl (by kernel_rfl) (by kernel_rfl) (by kernel_rfl) (by kernel_rfl) rfl (fun _ _ _ h => h) (Or.inl ⟨by rfl, ?_⟩) (HSS.out _ BS2) ?_
        rotate_left
        · intro W hSW
          go_simp
          try with_reducible rfl
        simp only [Act.put, List.setIfInBounds_toArray, List.set_cons_zero, List.set_cons_succ]
        refine wpAnyL_take' (i := 5) (v := ?_) (oi := { dst := some 26, op := Op.extract (Operand.tmp 21) 1, type := 3, pos := "law.go:133", after := #[{ on := 3, ground := Ground.data }, { on := 8, ground := Ground.gcOnly Departure.lateStores }], guard := none }) rfl (by kernel_rfl) (by kernel_rfl) (by kernel_rfl) (by kernel_rfl) rfl (fun _ _ _ h => h) (Or.inl ⟨by rfl, ?_⟩) (HSS.out _ BS2) ?_
        rotate_left
        · intro W hSW
          go_simp
          try with_reducible rfl
        simp only [Act.put, List.setIfInBounds_toArray, List.set_cons_zero, List.set_cons_succ]
        refine wpAnyL_take' (i := 6) (v := ?_) (oi := { dst := some 27, op := Op.extract (Operand.tmp 21) 2, type := 33, pos := "law.go:133", after := #[{ on := 3, ground := Ground.data }, { on := 9, ground := Ground.gcOnly Departure.lateStores }], guard := none }) rfl (by kernel_rfl) (by kernel_rfl) (by kernel_rfl) (by kernel_rfl) rfl (fun _ _ _ h => h) (Or.inl ⟨by rfl, ?_⟩) (HSS.out _ BS2) ?_
        rotate_left
        · intro W hSW
          go_simp
          try with_reducible rfl
        simp only [Act.put, List.setIfInBounds_toArray, List.set_cons_zero, List.set_cons_succ]
        refine wpAnyL_one' (i := 7) (o := { dst := some 3, op := Op.alloc 25, type := 0, pos := "law.go:133", after := #[], guard := none }) (by kernel_rfl) rfl rfl (fun K hK => ?_)
        go_simp
        have BS3 : Below w0.heap.size w0 (W2.alloc (Obj.cells #[.slice none 0 0, .int .i64 0, .slice none 0 0] 25)) := BS2.alloc (BS2).size _
        refine hK.out _ _ (fun _ => HSS.out _ BS3) ?_
        clear hK
        try simp only [Act.put, List.setIfInBounds_toArray, List.set_cons_zero, List.set_cons_succ]
        have hbn' : Below W2.heap.size W2 (W2.alloc (Obj.cells #[.slice none 0 0, .int .i64 0, .slice none 0 0] 25)) := (Below.refl _ _).alloc (Nat.le_refl _) _
        have kt : (W2.alloc (Obj.cells #[.slice none 0 0, .int .i64 0, .slice none 0 0] 25)).heap[W2.heap.size]? = some (Obj.cells #[.slice none 0 0, .int .i64 0, .slice none 0 0] 25) := heap_alloc_new _ _
        have hlt : w0.heap.size ≤ W2.heap.size := (BS2).size
        have hlt2 : W2.heap.size < (W2.alloc (Obj.cells #[.slice none 0 0, .int .i64 0, .slice none 0 0] 25)).heap.size := by simp
        obtain ⟨q, hq⟩ : ∃ q, q = W2.heap.size := ⟨_, rfl⟩
        obtain ⟨W3, hW⟩ : ∃ V1, V1 = W2.alloc (Obj.cells #[.slice none 0 0, .int .i64 0, .slice none 0 0] 25) := ⟨_, rfl⟩
        rw [← hW, ← hq] at kt hlt2
        rw [← hq] at hlt
        rw [← hW] at hbn' BS3
        rw [← hW, ← hq]
        have hqA : W2.heap.size ≤ q := Nat.le_of_eq hq.symm
        clear hW hq
        have HBX := box_new (q := q) (x := .slice sa sl sc) (y := .int .i64 fr) (z := .slice ra rl rc) BS2 hbn' hqA kt hav
        have c0' : W3.cell? ⟨q, 0, none⟩ = some (.slice none 0 0) := by rw [Lib.cell_of_heap kt]; rfl
        have c1' : W3.cell? ⟨q, 1, none⟩ = some (.int .i64 0) := by rw [Lib.cell_of_heap kt]; rfl
        have c2' : W3.cell? ⟨q, 2, none⟩ = some (.slice none 0 0) := by rw [Lib.cell_of_heap kt]; rfl
        have f' : ∀ o, W3.frozen? ⟨q, o, none⟩ = false := fun o => Lib.frozen_of_heap kt _
        refine wpAnyL_one' (i := 8) (o := { dst := none, op := Op.store 25 (Operand.tmp 3) (Operand.tmp 25), type := 0, pos := "law.go:133", after := #[{ on := 7, ground := Ground.data }, { on := 4, ground := Ground.data }, { on := 2, ground := Ground.chain }, { on := 0, ground := Ground.phase }, { on := 1, ground := Ground.phase }, { on := 2, ground := Ground.phase }, { on := 3, ground := Ground.phase }, { on := 4, ground := Ground.phase }, { on := 5, ground := Ground.textOnly Departure.lateStores }, { on := 6, ground := Ground.textOnly Departure.lateStores }, { on := 7, ground := Ground.phase }], guard := none }) (by kernel_rfl) rfl rfl (fun K hK => ?_)
        go_simp
        refine hK.out _ _ (fun _ => HSS.out _ HBX.2) ?_
        clear hK c0' c1' c2' f'
        try simp only [Act.put, List.setIfInBounds_toArray, List.set_cons_zero, List.set_cons_succ]
        refine wpAnyL_one' (i := 9) (o := { dst := some 4, op := Op.assign (Operand.tmp 26), type := 3, pos := "law.go:133", after := #[{ on := 5, ground := Ground.data }, { on := 8, ground := Ground.chain }, { on := 0, ground := Ground.phase }, { on := 1, ground := Ground.phase }, { on := 2, ground := Ground.phase }, { on := 3, ground := Ground.phase }, { on := 4, ground := Ground.phase }, { on := 5, ground := Ground.phase }, { on := 6, ground := Ground.textOnly Departure.lateStores }, { on := 7, ground := Ground.phase }, { on := 8, ground := Ground.phase }], guard := none }) (by kernel_rfl) rfl rfl (fun K hK => ?_)
        go_simp
        refine hK.out _ _ (fun _ => HSS.out _ HBX.2) ?_
        clear hK
        try simp only [Act.put, List.setIfInBounds_toArray, List.set_cons_zero, List.set_cons_succ]
        refine wpAnyL_one' (i := 10) (o := { dst := some 5, op := Op.assign (Operand.tmp 27), type := 33, pos := "law.go:133", after := #[{ on := 6, ground := Ground.data }, { on := 9, ground := Ground.chain }, { on := 0, ground := Ground.phase }, { on := 1, ground := Ground.phase }, { on := 2, ground := Ground.phase }, { on := 3, ground := Ground.phase }, { on := 4, ground := Ground.phase }, { on := 5, ground := Ground.phase }, { on := 6, ground := Ground.phase }, { on := 7, ground := Ground.phase }, { on := 8, ground := Ground.phase }, { on := 9, ground := Ground.phase }], guard := none }) (by kernel_rfl) rfl rfl (fun K hK => ?_)
        go_simp
        refine hK.out _ _ (fun _ => HSS.out _ HBX.2) ?_
        clear hK
        try simp only [Act.put, List.setIfInBounds_toArray, List.set_cons_zero, List.set_cons_succ]
        refine wpAnyL_done (by kernel_rfl) ?_ _
        have HR : Hid (_ ∧ _) := ⟨HBX, had⟩
        clear HBX had
        go_wp2_with fail
        go_meet
        exact ⟨q, S2, p, sa, sl, sc, ra, rl, rc, fr, rfl, rfl, rfl, ⟨HR.out.1.1, HR.out.2, HR.out.1.2⟩⟩
      · go_simp
        have BS2 : Below w0.heap.size w0 (W1.alloc (Obj.cells #[.slice none 0 0, .int .i64 0, .slice none 0 0] 25)) := BS1.alloc (BS1).size _
        refine hK.out _ _ (fun _ => HSS.out _ BS2) ?_
        clear hK
        try simp only [Act.put, List.setIfInBounds_toArray, List.set_cons_zero, List.set_cons_succ]
        have hbn' : Below W1.heap.size W1 (W1.alloc (Obj.cells #[.slice none 0 0, .int .i64 0, .slice none 0 0] 25)) := (Below.refl _ _).alloc (Nat.le_refl _) _
        have kt : (W1.alloc (Obj.cells #[.slice none 0 0, .int .i64 0, .slice none 0 0] 25)).heap[W1.heap.size]? = some (Obj.cells #[.slice none 0 0, .int .i64 0, .slice none 0 0] 25) := heap_alloc_new _ _
        have hlt : w0.heap.size ≤ W1.heap.size := (BS1).size
        have hlt2 : W1.heap.size < (W1.alloc (Obj.cells #[.slice none 0 0, .int .i64 0, .slice none 0 0] 25)).heap.size := by simp
        obtain ⟨q, hq⟩ : ∃ q, q = W1.heap.size := ⟨_, rfl⟩
        obtain ⟨W2, hW⟩ : ∃ V1, V1 = W1.alloc (Obj.cells #[.slice none 0 0, .int .i64 0, .slice none 0 0] 25) := ⟨_, rfl⟩
        rw [← hW, ← hq] at kt hlt2
        rw [← hq] at hlt
        rw [← hW] at hbn' BS2
        rw [← hW, ← hq]
        have hqA : W1.heap.size ≤ q := Nat.le_of_eq hq.symm
        clear hW hq
        refine wpAnyL_one' (i := 2) (o := { dst := some 24, op := Op.call { callee := Callee.value (Operand.func 24), args := #[Operand.tmp 22, Operand.tmp 23], argTypes := #[25, 32] }, type := 43, pos := "law.go:133", after := #[{ on := 0, ground := Ground.data }, { on := 1, ground := Ground.data }, { on := 0, ground := Ground.chain }], guard := none }) (by kernel_rfl) rfl rfl (fun K hK => ?_)
        go_simp
        refine (addNew_any nv oneT _ 2 W2 (hnv.next hbn') (HT.out _ BS2) (by rw [cnt_one]; decide)).mono ?_
        rintro e W3 ⟨⟨S2, p, sa, sl, sc, ra, rl, rc, fr, rfl, hav, had⟩, hba⟩
        have BS3 : Below w0.heap.size w0 W3 := below_next BS2 hba
        have hsA := hba.size
        refine hK.out _ _ (fun _ => HSS.out _ BS3) ?_
        clear hK
        try simp only [Act.put, List.setIfInBounds_toArray, List.set_cons_zero, List.set_cons_succ]
        refine wpAnyL_take' (i := 3) (v := ?_) (oi := { dst := some 21, op := Op.move (Operand.tmp 24), type := 43, pos := "law.go:133", after := #[{ on := 2, ground := Ground.data }], guard := none }) rfl (by kernel_rfl) (by kernel_rfl) (by kernel_rfl) (by kernel_rfl) rfl (fun _ _ _ h => h) (Or.inl ⟨by rfl, ?_⟩) (HSS.out _ BS3) ?_
        rotate_left
        · intro W hSW
          go_simp
          try with_reducible rfl
        simp only [Act.put, List.setIfInBounds_toArray, List.set_cons_zero, List.set_cons_succ]
        refine wpAnyL_take' (i := 4) (v := ?_) (oi := { dst := some 25, op := Op.extract (Operand.tmp 21) 0, type := 25, pos := "law.go:133", after := #[{ on := 3, ground := Ground.data }], guard := none }) rfl (by kernel_rfl) (by kernel_rfl) (by kernel_rfl) (by kernel_rfl) rfl (fun _ _ _ h => h) (Or.inl ⟨by rfl, ?_⟩) (HSS.out _ BS3) ?_
        rotate_left
        · intro W hSW
          go_simp
          try with_reducible rfl
        simp only [Act.put, List.setIfInBounds_toArray, List.set_cons_zero, List.set_cons_succ]
        refine wpAnyL_take' (i := 5) (v := ?_) (oi := { dst := some 26, op := Op.extract (Operand.tmp 21) 1, type := 3, pos := "law.go:133", after := #[{ on := 3, ground := Ground.data }, { on := 8, ground := Ground.gcOnly Departure.lateStores }], guard := none }) rfl (by kernel_rfl) (by kernel_rfl) (by kernel_rfl) (by kernel_rfl) rfl (fun _ _ _ h => h) (Or.inl ⟨by rfl, ?_⟩) (HSS.out _ BS3) ?_
        rotate_left
        · intro W hSW
          go_simp
          try with_reducible rfl
        simp only [Act.put, List.setIfInBounds_toArray, List.set_cons_zero, List.set_cons_succ]
        refine wpAnyL_take' (i := 6) (v := ?_) (oi := { dst := some 27, op := Op.extract (Operand.tmp 21) 2, type := 33, pos := "law.go:133", after := #[{ on := 3, ground := Ground.data }, { on := 9, ground := Ground.gcOnly Departure.lateStores }], guard := none }) rfl (by kernel_rfl) (by kernel_rfl) (by kernel_rfl) (by kernel_rfl) rfl (fun _ _ _ h => h) (Or.inl ⟨by rfl, ?_⟩) (HSS.out _ BS3) ?_
        rotate_left
        · intro W hSW
          go_simp
          try with_reducible rfl
        simp only [Act.put, List.setIfInBounds_toArray, List.set_cons_zero, List.set_cons_succ]
        have kt := (hba.block _ hlt2).trans kt
        have HBX := box_old (q := q) (x := .slice sa sl sc) (y := .int .i64 fr) (z := .slice ra rl rc) BS3 hlt hlt2 kt hav
        have c0' : W3.cell? ⟨q, 0, none⟩ = some (.slice none 0 0) := by rw [Lib.cell_of_heap kt]; rfl
        have c1' : W3.cell? ⟨q, 1, none⟩ = some (.int .i64 0) := by rw [Lib.cell_of_heap kt]; rfl
        have c2' : W3.cell? ⟨q, 2, none⟩ = some (.slice none 0 0) := by rw [Lib.cell_of_heap kt]; rfl
        have f' : ∀ o, W3.frozen? ⟨q, o, none⟩ = false := fun o => Lib.frozen_of_heap kt _
        refine wpAnyL_one' (i := 8) (o := { dst := none, op := Op.store 25 (Operand.tmp 3) (Operand.tmp 25), type := 0, pos := "law.go:133", after := #[{ on := 7, ground := Ground.data }, { on := 4, ground := Ground.data }, { on := 2, ground := Ground.chain }, { on := 0, ground := Ground.phase }, { on := 1, ground := Ground.phase }, { on := 2, ground := Ground.phase }, { on := 3, ground := Ground.phase }, { on := 4, ground := Ground.phase }, { on := 5, ground := Ground.textOnly Departure.lateStores }, { on := 6, ground := Ground.textOnly Departure.lateStores }, { on := 7, ground := Ground.phase }], guard := none }) (by kernel_rfl) rfl rfl (fun K hK => ?_)
        go_simp
        refine hK.out _ _ (fun _ => HSS.out _ HBX.2) ?_
        clear hK c0' c1' c2' f'
        try simp only [Act.put, List.setIfInBounds_toArray, List.set_cons_zero, List.set_cons_succ]
        refine wpAnyL_one' (i := 9) (o := { dst := some 4, op := Op.assign (Operand.tmp 26), type := 3, pos := "law.go:133", after := #[{ on := 5, ground := Ground.data }, { on := 8, ground := Ground.chain }, { on := 0, ground := Ground.phase }, { on := 1, ground := Ground.phase }, { on := 2, ground := Ground.phase }, { on := 3, ground := Ground.phase }, { on := 4, ground := Ground.phase }, { on := 5, ground := Ground.phase }, { on := 6, ground := Ground.textOnly Departure.lateStores }, { on := 7, ground := Ground.phase }, { on := 8, ground := Ground.phase }], guard := none }) (by kernel_rfl) rfl rfl (fun K hK => ?_)
        go_simp
        refine hK.out _ _ (fun _ => HSS.out _ HBX.2) ?_
        clear hK
        try simp only [Act.put, List.setIfInBounds_toArray, List.set_cons_zero, List.set_cons_succ]
        refine wpAnyL_one' (i := 10) (o := { dst := some 5, op := Op.assign (Operand.tmp 27), type := 33, pos := "law.go:133", after := #[{ on := 6, ground := Ground.data }, { on := 9, ground := Ground.chain }, { on := 0, ground := Ground.phase }, { on := 1, ground := Ground.phase }, { on := 2, ground := Ground.phase }, { on := 3, ground := Ground.phase }, { on := 4, ground := Ground.phase }, { on := 5, ground := Ground.phase }, { on := 6, ground := Ground.phase }, { on := 7, ground := Ground.phase }, { on := 8, ground := Ground.phase }, { on := 9, ground := Ground.phase }], guard := none }) (by kernel_rfl) rfl rfl (fun K hK => ?_)
        go_simp
        refine hK.out _ _ (fun _ => HSS.out _ HBX.2) ?_
        clear hK
        try simp only [Act.put, List.setIfInBounds_toArray, List.set_cons_zero, List.set_cons_succ]
        refine wpAnyL_done (by kernel_rfl) ?_ _
        have HR : Hid (_ ∧ _) := ⟨HBX, had⟩
        clear HBX had
        go_wp2_with fail
        go_meet
        exact ⟨q, S2, p, sa, sl, sc, ra, rl, rc, fr, rfl, rfl, rfl, ⟨HR.out.1.1, HR.out.2, HR.out.1.2⟩⟩
    · go_simp
      have BS1 : Below w0.heap.size w0 (wd.alloc (Obj.cells #[.slice none 0 0, .int .i64 0, .slice none 0 0] 25)) := BS.alloc (BS).size _
      refine hK.out _ _ (fun _ => HSS.out _ BS1) ?_
      clear hK
      try simp only [Act.put, List.setIfInBounds_toArray, List.set_cons_zero, List.set_cons_succ]
      have hbn' : Below wd.heap.size wd (wd.alloc (Obj.cells #[.slice none 0 0, .int .i64 0, .slice none 0 0] 25)) := (Below.refl _ _).alloc (Nat.le_refl _) _
      have kt : (wd.alloc (Obj.cells #[.slice none 0 0, .int .i64 0, .slice none 0 0] 25)).heap[wd.heap.size]? = some (Obj.cells #[.slice none 0 0, .int .i64 0, .slice none 0 0] 25) := heap_alloc_new _ _
      have hlt : w0.heap.size ≤ wd.heap.size := (BS).size
      have hlt2 : wd.heap.size < (wd.alloc (Obj.cells #[.slice none 0 0, .int .i64 0, .slice none 0 0] 25)).heap.size := by simp
      obtain ⟨q, hq⟩ : ∃ q, q = wd.heap.size := ⟨_, rfl⟩
      obtain ⟨W1, hW⟩ : ∃ V1, V1 = wd.alloc (Obj.cells #[.slice none 0 0, .int .i64 0, .slice none 0 0] 25) := ⟨_, rfl⟩
      rw [← hW, ← hq] at kt hlt2
      rw [← hq] at hlt
      rw [← hW] at hbn' BS1
      rw [← hW, ← hq]
      have hqA : wd.heap.size ≤ q := Nat.le_of_eq hq.symm
      clear hW hq
      refine wpAnyL_one' (i := 0) (o := { dst := some 22, op := Op.call { callee := Callee.value (Operand.func 14), args := #[], argTypes := #[] }, type := 25, pos := "law.go:133", after := #[], guard := none }) (by kernel_rfl) rfl rfl (fun K hK => ?_)
      go_simp
      refine (new_any _).mono ?_
      rintro e W2 ⟨nv, rfl, hnv, hbn⟩
      have BS2 : Below w0.heap.size w0 W2 := below_next BS1 hbn
      refine hK.out _ _ (fun _ => HSS.out _ BS2) ?_
      clear hK
      try simp only [Act.put, List.setIfInBounds_toArray, List.set_cons_zero, List.set_cons_succ]
      refine wpAnyL_one' (i := 2) (o := { dst := some 24, op := Op.call { callee := Callee.value (Operand.func 24), args := #[Operand.tmp 22, Operand.tmp 23], argTypes := #[25, 32] }, type := 43, pos := "law.go:133", after := #[{ on := 0, ground := Ground.data }, { on := 1, ground := Ground.data }, { on := 0, ground := Ground.chain }], guard := none }) (by kernel_rfl) rfl rfl (fun K hK => ?_)
      go_simp
      refine (addNew_any nv oneT _ 2 W2 hnv (HT.out _ BS2) (by rw [cnt_one]; decide)).mono ?_
      rintro e W3 ⟨⟨S2, p, sa, sl, sc, ra, rl, rc, fr, rfl, hav, had⟩, hba⟩
      have BS3 : Below w0.heap.size w0 W3 := below_next BS2 hba
      have hsA := hba.size
      refine hK.out _ _ (fun _ => HSS.out _ BS3) ?_
      clear hK
      try simp only [Act.put, List.setIfInBounds_toArray, List.set_cons_zero, List.set_cons_succ]
      refine wpAnyL_take' (i := 3) (v := ?_) (oi := { dst := some 21, op := Op.move (Operand.tmp 24), type := 43, pos := "law.go:133", after := #[{ on := 2, ground := Ground.data }], guard := none }) rfl (by kernel_rfl) (by kernel_rfl) (by kernel_rfl) (by kernel_rfl) rfl (fun _ _ _ h => h) (Or.inl ⟨by rfl, ?_⟩) (HSS.out _ BS3) ?_
      rotate_left
      · intro W hSW
        go_simp
        try with_reducible rfl
      simp only [Act.put, List.setIfInBounds_toArray, List.set_cons_zero, List.set_cons_succ]
      refine wpAnyL_take' (i := 4) (v := ?_) (oi := { dst := some 25, op := Op.extract (Operand.tmp 21) 0, type := 25, pos := "law.go:133", after := #[{ on := 3, ground := Ground.data }], guard := none }) rfl (by kernel_rfl) (by kernel_rfl) (by kernel_rfl) (by kernel_rfl) rfl (fun _ _ _ h => h) (Or.inl ⟨by rfl, ?_⟩) (HSS.out _ BS3) ?_
      rotate_left
      · intro W hSW
        go_simp
        try with_reducible rfl
      simp only [Act.put, List.setIfInBounds_toArray, List.set_cons_zero, List.set_cons_succ]
      refine wpAnyL_take' (i := 5) (v := ?_) (oi := { dst := some 26, op := Op.extract (Operand.tmp 21) 1, type := 3, pos := "law.go:133", after := #[{ on := 3, ground := Ground.data }, { on := 8, ground := Ground.gcOnly Departure.lateStores }], guard := none }) rfl (by kernel_rfl) (by kernel_rfl) (by kernel_rfl) (by kernel_rfl) rfl (fun _ _ _ h => h) (Or.inl ⟨by rfl, ?_⟩) (HSS.out _ BS3) ?_
      rotate_left
      · intro W hSW
        go_simp
        try with_reducible rfl
      simp only [Act.put, List.setIfInBounds_toArray, List.set_cons_zero, List.set_cons_succ]
      refine wpAnyL_take' (i := 6) (v := ?_) (oi := { dst := some 27, op := Op.extract (Operand.tmp 21) 2, type := 33, pos := "law.go:133", after := #[{ on := 3, ground := Ground.data }, { on := 9, ground := Ground.gcOnly Departure.lateStores }], guard := none }) rfl (by kernel_rfl) (by kernel_rfl) (by kernel_rfl) (by kernel_rfl) rfl (fun _ _ _ h => h) (Or.inl ⟨by rfl, ?_⟩) (HSS.out _ BS3) ?_
      rotate_left
      · intro W hSW
        go_simp
        try with_reducible rfl
      simp only [Act.put, List.setIfInBounds_toArray, List.set_cons_zero, List.set_cons_succ]
      have kt := (hba.block _ (Nat.lt_of_lt_of_le hlt2 hbn.size)).trans ((hbn.block _ hlt2).trans kt)
      have HBX := box_old (q := q) (x := .slice sa sl sc) (y := .int .i64 fr) (z := .slice ra rl rc) BS3 hlt (Nat.lt_of_lt_of_le hlt2 hbn.size) kt hav
      have c0' : W3.cell? ⟨q, 0, none⟩ = some (.slice none 0 0) := by rw [Lib.cell_of_heap kt]; rfl
      have c1' : W3.cell? ⟨q, 1, none⟩ = some (.int .i64 0) := by rw [Lib.cell_of_heap kt]; rfl
      have c2' : W3.cell? ⟨q, 2, none⟩ = some (.slice none 0 0) := by rw [Lib.cell_of_heap kt]; rfl
      have f' : ∀ o, W3.frozen? ⟨q, o, none⟩ = false := fun o => Lib.frozen_of_heap kt _
      refine wpAnyL_one' (i := 8) (o := { dst := none, op := Op.store 25 (Operand.tmp 3) (Operand.tmp 25), type := 0, pos := "law.go:133", after := #[{ on := 7, ground := Ground.data }, { on := 4, ground := Ground.data }, { on := 2, ground := Ground.chain }, { on := 0, ground := Ground.phase }, { on := 1, ground := Ground.phase }, { on := 2, ground := Ground.phase }, { on := 3, ground := Ground.phase }, { on := 4, ground := Ground.phase }, { on := 5, ground := Ground.textOnly Departure.lateStores }, { on := 6, ground := Ground.textOnly Departure.lateStores }, { on := 7, ground := Ground.phase }], guard := none }) (by kernel_rfl) rfl rfl (fun K hK => ?_)
      go_simp
      refine hK.out _ _ (fun _ => HSS.out _ HBX.2) ?_
      clear hK c0' c1' c2' f'
      try simp only [Act.put, List.setIfInBounds_toArray, List.set_cons_zero, List.set_cons_succ]
      refine wpAnyL_one' (i := 9) (o := { dst := some 4, op := Op.assign (Operand.tmp 26), type := 3, pos := "law.go:133", after := #[{ on := 5, ground := Ground.data }, { on := 8, ground := Ground.chain }, { on := 0, ground := Ground.phase }, { on := 1, ground := Ground.phase }, { on := 2, ground := Ground.phase }, { on := 3, ground := Ground.phase }, { on := 4, ground := Ground.phase }, { on := 5, ground := Ground.phase }, { on := 6, ground := Ground.textOnly Departure.lateStores }, { on := 7, ground := Ground.phase }, { on := 8, ground := Ground.phase }], guard := none }) (by kernel_rfl) rfl rfl (fun K hK => ?_)
      go_simp
      refine hK.out _ _ (fun _ => HSS.out _ HBX.2) ?_
      clear hK
      try simp only [Act.put, List.setIfInBounds_toArray, List.set_cons_zero, List.set_cons_succ]
      refine wpAnyL_one' (i := 10) (o := { dst := some 5, op := Op.assign (Operand.tmp 27), type := 33, pos := "law.go:133", after := #[{ on := 6, ground := Ground.data }, { on := 9, ground := Ground.chain }, { on := 0, ground := Ground.phase }, { on := 1, ground := Ground.phase }, { on := 2, ground := Ground.phase }, { on := 3, ground := Ground.phase }, { on := 4, ground := Ground.phase }, { on := 5, ground := Ground.phase }, { on := 6, ground := Ground.phase }, { on := 7, ground := Ground.phase }, { on := 8, ground := Ground.phase }, { on := 9, ground := Ground.phase }], guard := none }) (by kernel_rfl) rfl rfl (fun K hK => ?_)
      go_simp
      refine hK.out _ _ (fun _ => HSS.out _ HBX.2) ?_
      clear hK
      try simp only [Act.put, List.setIfInBounds_toArray, List.set_cons_zero, List.set_cons_succ]
      refine wpAnyL_done (by kernel_rfl) ?_ _
      have HR : Hid (_ ∧ _) := ⟨HBX, had⟩
      clear HBX had
      go_wp2_with fail
      go_meet
      exact ⟨q, S2, p, sa, sl, sc, ra, rl, rc, fr, rfl, rfl, rfl, ⟨HR.out.1.1, HR.out.2, HR.out.1.2⟩⟩
  case rest =>
    obtain ⟨qa, Sa, pa, a1, a2, a3, a4, a5, a6, a7, rfl, rfl, rfl, HA⟩ := hcut
    rename World => w1
    have HB1 : Hid (Below w.heap.size w w1) := below_next HB0.out HA.out.2.2
    have HTB : Hid (∀ W, Below w1.heap.size w1 W → TAt (fun k => k = n2) 2 twoT (.agg #[.string ⟨#[97]⟩, .bool false, .string ⟨#[]⟩, .int .i64 0, .int .i64 2, .int .i64 0, .slice (some ⟨n2, 0, none⟩) 2 2]) W) := fun W hb => HT2.out W (below_next HA.out.2.2 hb)
    have HSB : Hid (∀ W, Below w1.heap.size w1 W → (W.cell? ⟨n3, 0, none⟩ = some (.string ⟨#[97]⟩) ∧ W.cell? ⟨n3, 1, none⟩ = some (.bool false) ∧ W.cell? ⟨n3, 2, none⟩ = some (.string ⟨#[]⟩) ∧ W.cell? ⟨n3, 3, none⟩ = some (.int .i64 0) ∧ W.cell? ⟨n3, 4, none⟩ = some (.int .i64 2) ∧ W.cell? ⟨n3, 5, none⟩ = some (.int .i64 0) ∧ W.cell? ⟨n3, 6, none⟩ = some (.slice (some ⟨n2, 0, none⟩) 2 2))) := fun W hb => HS2.out W (below_next HA.out.2.2 hb)
    clear HS1 HT1 HS2 HT2
    go_upto_region 4 with fail
    go_cut [6, 7, 8] from 13 (fun tA tH tE wx => ∃ q S2 p sa sl sc ra rl rc fr, tA = .pointer (some ⟨q, 0, none⟩) ∧ tH = .int .i64 0 ∧ tE = .int .i64 0 ∧ Hid (BoxA w1.heap.size q (addS S2 p).ar (.agg #[.slice sa sl sc, .int .i64 fr, .slice ra rl rc]) (.slice sa sl sc) (.int .i64 fr) (.slice ra rl rc) wx ∧ Added newA twoT 0 S2 p ∧ Below w1.heap.size w1 wx))
    case first =>
      have HSS := HSB
      have HT := HTB
      clear HSB HTB
      have HS0 := HSS.out w1.drew (Below.refl _ _).drew
      have BS : Below w1.heap.size w1 w1.drew := (Below.refl _ _).drew
      refine wp_region_L (fun W => W.cell? ⟨n3, 0, none⟩ = some (.string ⟨#[97]⟩) ∧ W.cell? ⟨n3, 1, none⟩ = some (.bool false) ∧ W.cell? ⟨n3, 2, none⟩ = some (.string ⟨#[]⟩) ∧ W.cell? ⟨n3, 3, none⟩ = some (.int .i64 0) ∧ W.cell? ⟨n3, 4, none⟩ = some (.int .i64 2) ∧ W.cell? ⟨n3, 5, none⟩ = some (.int .i64 0) ∧ W.cell? ⟨n3, 6, none⟩ = some (.slice (some ⟨n2, 0, none⟩) 2 2)) 11 (by kernel_rfl) 11 rfl ?_
      generalize w1.drew = wd at *
      refine wpAnyL_take' (i := 1) (v := ?_) (oi := { dst := some 30, op := Op.load 32 (Operand.tmp 2), type := 32, pos := "law.go:134", after := #[], guard := none }) rfl (by kernel_rfl) (by kernel_rfl) (by kernel_rfl) (by kernel_rfl) rfl (fun _ _ _ h => h) (Or.inl ⟨by rfl, ?_⟩) HS0 ?_
      rotate_left
      · intro W hSW
        go_simp
        try with_reducible rfl
      simp only [Act.put, List.setIfInBounds_toArray, List.set_cons_zero, List.set_cons_succ]
      refine wpAnyL_two (i := 0) (j := 7) (oi := { dst := some 29, op := Op.call { callee := Callee.value (Operand.func 14), args := #[], argTypes := #[] }, type := 25, pos := "law.go:134", after := #[], guard := none }) (oj := { dst := some 6, op := Op.alloc 25, type := 0, pos := "law.go:134", after := #[], guard := none }) (by kernel_rfl) rfl rfl rfl rfl (fun K hK => ?_) (fun K hK => ?_)
      · go_simp
        refine (new_any _).mono ?_
        rintro e W1 ⟨nv, rfl, hnv, hbn⟩
        have BS1 : Below w1.heap.size w1 W1 := below_next BS hbn
        refine hK.out _ _ (fun _ => HSS.out _ BS1) ?_
        clear hK
        try simp only [Act.put, List.setIfInBounds_toArray, List.set_cons_zero, List.set_cons_succ]
        refine wpAnyL_two (i := 2) (j := 7) (oi := { dst := some 31, op := Op.call { callee := Callee.value (Operand.func 24), args := #[Operand.tmp 29, Operand.tmp 30], argTypes := #[25, 32] }, type := 43, pos := "law.go:134", after := #[{ on := 0, ground := Ground.data }, { on := 1, ground := Ground.data }, { on := 0, ground := Ground.chain }], guard := none }) (oj := { dst := some 6, op := Op.alloc 25, type := 0, pos := "law.go:134", after := #[], guard := none }) (by kernel_rfl) rfl rfl rfl rfl (fun K hK => ?_) (fun K hK => ?_)
        · go_simp
          refine (addNew_any nv twoT _ 2 W1 hnv (HT.out _ BS1) (by rw [cnt_two]; decide)).mono ?_
          rintro e W2 ⟨⟨S2, p, sa, sl, sc, ra, rl, rc, fr, rfl, hav, had⟩, hba⟩
          have BS2 : Below w1.heap.size w1 W2 := below_next BS1 hba
          have hsA := hba.size
          refine hK.out _ _ (fun _ => HSS.out _ BS2) ?_
          clear hK
          try simp only [Act.put, List.setIfInBounds_toArray, List.set_cons_zero, List.set_cons_succ]
          refine wpAnyL_take' (i := 3) (v := ?_) (oi := { dst := some 28, op := Op.move (Operand.tmp 31), type := 43, pos := "law.go:134", after := #[{ on := 2, ground := Ground.data }], guard := none }) rfl (by kernel_rfl) (by kernel_rfl) (by kernel_rfl) (by kernel_rfl) rfl (fun _ _ _ h => h) (Or.inl ⟨by rfl, ?_⟩) (HSS.out _ BS2) ?_
          rotate_left
          · intro W hSW
            go_simp
            try with_reducible rfl
          simp only [Act.put, List.setIfInBounds_toArray, List.set_cons_zero, List.set_cons_succ]
          refine wpAnyL_take' (i := 4) (v := ?_) (oi := { dst := some 32, op := Op.extract (Operand.tmp 28) 0, type := 25, pos := "law.go:134", after := #[{ on := 3, ground := Ground.data }], guard := none }) rfl (by kernel_rfl) (by kernel_rfl) (by kernel_rfl) (by kernel_rfl) rfl (fun _ _ _ h => h) (Or.inl ⟨by rfl, ?_⟩) (HSS.out _ BS2) ?_
          rotate_left
          · intro W hSW
            go_simp
            try with_reducible rfl
          simp only [Act.put, List.setIfInBounds_toArray, List.set_cons_zero, List.set_cons_succ]
          refine wpAnyL_take' (i := 5) (v := ?_) (oi := { dst := some 33, op := Op.extract (Operand.tmp 28) 1, type := 3, pos := "law.go:134", after := #[{ on := 3, ground := Ground.data }, { on := 8, ground := Ground.gcOnly Departure.lateStores }], guard := none }) rfl (by kernel_rfl) (by kernel_rfl) (by kernel_rfl) (by kernel_rfl) rfl (fun _ _ _ h => h) (Or.inl ⟨by rfl, ?_⟩) (HSS.out _ BS2) ?_
          rotate_left
          · intro W hSW
            go_simp
            try with_reducible rfl
          simp only [Act.put, List.setIfInBounds_toArray, List.set_cons_zero, List.set_cons_succ]
          refine wpAnyL_take' (i := 6) (v := ?_) (oi := { dst := some 34, op := Op.extract (Operand.tmp 28) 2, type := 33, pos := "law.go:134", after := #[{ on := 3, ground := Ground.data }, { on := 9, ground := Ground.gcOnly Departure.lateStores }], guard := none }) rfl (by kernel_rfl) (by kernel_rfl) (by kernel_rfl) (by kernel_rfl) rfl (fun _ _ _ h => h) (Or.inl ⟨by rfl, ?_⟩) (HSS.out _ BS2) ?_
          rotate_left
          · intro W hSW
            go_simp
            try with_reducible rfl
          simp only [Act.put, List.setIfInBounds_toArray, List.set_cons_zero, List.set_cons_succ]
          refine wpAnyL_one' (i := 7) (o := { dst := some 6, op := Op.alloc 25, type := 0, pos := "law.go:134", after := #[], guard := none }) (by kernel_rfl) rfl rfl (fun K hK => ?_)
          go_simp
          have BS3 : Below w1.heap.size w1 (W2.alloc (Obj.cells #[.slice none 0 0, .int .i64 0, .slice none 0 0] 25)) := BS2.alloc (BS2).size _
          refine hK.out _ _ (fun _ => HSS.out _ BS3) ?_
          clear hK
          try simp only [Act.put, List.setIfInBounds_toArray, List.set_cons_zero, List.set_cons_succ]
          have hbn' : Below W2.heap.size W2 (W2.alloc (Obj.cells #[.slice none 0 0, .int .i64 0, .slice none 0 0] 25)) := (Below.refl _ _).alloc (Nat.le_refl _) _
          have kt : (W2.alloc (Obj.cells #[.slice none 0 0, .int .i64 0, .slice none 0 0] 25)).heap[W2.heap.size]? = some (Obj.cells #[.slice none 0 0, .int .i64 0, .slice none 0 0] 25) := heap_alloc_new _ _
          have hlt : w1.heap.size ≤ W2.heap.size := (BS2).size
          have hlt2 : W2.heap.size < (W2.alloc (Obj.cells #[.slice none 0 0, .int .i64 0, .slice none 0 0] 25)).heap.size := by simp
          obtain ⟨q, hq⟩ : ∃ q, q = W2.heap.size := ⟨_, rfl⟩
          obtain ⟨W3, hW⟩ : ∃ V1, V1 = W2.alloc (Obj.cells #[.slice none 0 0, .int .i64 0, .slice none 0 0] 25) := ⟨_, rfl⟩
          rw [← hW, ← hq] at kt hlt2
          rw [← hq] at hlt
          rw [← hW] at hbn' BS3
          rw [← hW, ← hq]
          have hqA : W2.heap.size ≤ q := Nat.le_of_eq hq.symm
          clear hW hq
          have HBX := box_new (q := q) (x := .slice sa sl sc) (y := .int .i64 fr) (z := .slice ra rl rc) BS2 hbn' hqA kt hav
          have c0' : W3.cell? ⟨q, 0, none⟩ = some (.slice none 0 0) := by rw [Lib.cell_of_heap kt]; rfl
          have c1' : W3.cell? ⟨q, 1, none⟩ = some (.int .i64 0) := by rw [Lib.cell_of_heap kt]; rfl
          have c2' : W3.cell? ⟨q, 2, none⟩ = some (.slice none 0 0) := by rw [Lib.cell_of_heap kt]; rfl
          have f' : ∀ o, W3.frozen? ⟨q, o, none⟩ = false := fun o => Lib.frozen_of_heap kt _
          refine wpAnyL_one' (i := 8) (o := { dst := none, op := Op.store 25 (Operand.tmp 6) (Operand.tmp 32), type := 0, pos := "law.go:134", after := #[{ on := 7, ground := Ground.data }, { on := 4, ground := Ground.data }, { on := 2, ground := Ground.chain }, { on := 0, ground := Ground.phase }, { on := 1, ground := Ground.phase }, { on := 2, ground := Ground.phase }, { on := 3, ground := Ground.phase }, { on := 4, ground := Ground.phase }, { on := 5, ground := Ground.textOnly Departure.lateStores }, { on := 6, ground := Ground.textOnly Departure.lateStores }, { on := 7, ground := Ground.phase }], guard := none }) (by kernel_rfl) rfl rfl (fun K hK => ?_)
          go_simp
          refine hK.out _ _ (fun _ => HSS.out _ HBX.2) ?_
          clear hK c0' c1' c2' f'
          try simp only [Act.put, List.setIfInBounds_toArray, List.set_cons_zero, List.set_cons_succ]
          refine wpAnyL_one' (i := 9) (o := { dst := some 7, op := Op.assign (Operand.tmp 33), type := 3, pos := "law.go:134", after := #[{ on := 5, ground := Ground.data }, { on := 8, ground := Ground.chain }, { on := 0, ground := Ground.phase }, { on := 1, ground := Ground.phase }, { on := 2, ground := Ground.phase }, { on := 3, ground := Ground.phase }, { on := 4, ground := Ground.phase }, { on := 5, ground := Ground.phase }, { on := 6, ground := Ground.textOnly Departure.lateStores }, { on := 7, ground := Ground.phase }, { on := 8, ground := Ground.phase }], guard := none }) (by kernel_rfl) rfl rfl (fun K hK => ?_)
          go_simp
          refine hK.out _ _ (fun _ => HSS.out _ HBX.2) ?_
          clear hK
          try simp only [Act.put, List.setIfInBounds_toArray, List.set_cons_zero, List.set_cons_succ]
          refine wpAnyL_one' (i := 10) (o := { dst := some 8, op := Op.assign (Operand.tmp 34), type := 33, pos := "law.go:134", after := #[{ on := 6, ground := Ground.data }, { on := 9, ground := Ground.chain }, { on := 0, ground := Ground.phase }, { on := 1, ground := Ground.phase }, { on := 2, ground := Ground.phase }, { on := 3, ground := Ground.phase }, { on := 4, ground := Ground.phase }, { on := 5, ground := Ground.phase }, { on := 6, ground := Ground.phase }, { on := 7, ground := Ground.phase }, { on := 8, ground := Ground.phase }, { on := 9, ground := Ground.phase }], guard := none }) (by kernel_rfl) rfl rfl (fun K hK => ?_)
          go_simp
          refine hK.out _ _ (fun _ => HSS.out _ HBX.2) ?_
          clear hK
          try simp only [Act.put, List.setIfInBounds_toArray, List.set_cons_zero, List.set_cons_succ]
          refine wpAnyL_done (by kernel_rfl) ?_ _
          have HR : Hid (_ ∧ _) := ⟨HBX, had⟩
          clear HBX had
          go_wp2_with fail
          go_meet
          exact ⟨q, S2, p, sa, sl, sc, ra, rl, rc, fr, rfl, rfl, rfl, ⟨HR.out.1.1, HR.out.2, HR.out.1.2⟩⟩
        · go_simp
          have BS2 : Below w1.heap.size w1 (W1.alloc (Obj.cells #[.slice none 0 0, .int .i64 0, .slice none 0 0] 25)) := BS1.alloc (BS1).size _
          refine hK.out _ _ (fun _ => HSS.out _ BS2) ?_
          clear hK
          try simp only [Act.put, List.setIfInBounds_toArray, List.set_cons_zero, List.set_cons_succ]
          have hbn' : Below W1.heap.size W1 (W1.alloc (Obj.cells #[.slice none 0 0, .int .i64 0, .slice none 0 0] 25)) := (Below.refl _ _).alloc (Nat.le_refl _) _
          have kt : (W1.alloc (Obj.cells #[.slice none 0 0, .int .i64 0, .slice none 0 0] 25)).heap[W1.heap.size]? = some (Obj.cells #[.slice none 0 0, .int .i64 0, .slice none 0 0] 25) := heap_alloc_new _ _
          have hlt : w1.heap.size ≤ W1.heap.size := (BS1).size
          have hlt2 : W1.heap.size < (W1.alloc (Obj.cells #[.slice none 0 0, .int .i64 0, .slice none 0 0] 25)).heap.size := by simp
          obtain ⟨q, hq⟩ : ∃ q, q = W1.heap.size := ⟨_, rfl⟩
          obtain ⟨W2, hW⟩ : ∃ V1, V1 = W1.alloc (Obj.cells #[.slice none 0 0, .int .i64 0, .slice none 0 0] 25) := ⟨_, rfl⟩
          rw [← hW, ← hq] at kt hlt2
          rw [← hq] at hlt
          rw [← hW] at hbn' BS2
          rw [← hW, ← hq]
          have hqA : W1.heap.size ≤ q := Nat.le_of_eq hq.symm
          clear hW hq
          refine wpAnyL_one' (i := 2) (o := { dst := some 31, op := Op.call { callee := Callee.value (Operand.func 24), args := #[Operand.tmp 29, Operand.tmp 30], argTypes := #[25, 32] }, type := 43, pos := "law.go:134", after := #[{ on := 0, ground := Ground.data }, { on := 1, ground := Ground.data }, { on := 0, ground := Ground.chain }], guard := none }) (by kernel_rfl) rfl rfl (fun K hK => ?_)
          go_simp
          refine (addNew_any nv twoT _ 2 W2 (hnv.next hbn') (HT.out _ BS2) (by rw [cnt_two]; decide)).mono ?_
          rintro e W3 ⟨⟨S2, p, sa, sl, sc, ra, rl, rc, fr, rfl, hav, had⟩, hba⟩
          have BS3 : Below w1.heap.size w1 W3 := below_next BS2 hba
          have hsA := hba.size
          refine hK.out _ _ (fun _ => HSS.out _ BS3) ?_
          clear hK
          try simp only [Act.put, List.setIfInBounds_toArray, List.set_cons_zero, List.set_cons_succ]
          refine wpAnyL_take' (i := 3) (v := ?_) (oi := { dst := some 28, op := Op.move (Operand.tmp 31), type := 43, pos := "law.go:134", after := #[{ on := 2, ground := Ground.data }], guard := none }) rfl (by kernel_rfl) (by kernel_rfl) (by kernel_rfl) (by kernel_rfl) rfl (fun _ _ _ h => h) (Or.inl ⟨by rfl, ?_⟩) (HSS.out _ BS3) ?_
          rotate_left
          · intro W hSW
            go_simp
            try with_reducible rfl
          simp only [Act.put, List.setIfInBounds_toArray, List.set_cons_zero, List.set_cons_succ]
          refine wpAnyL_take' (i := 4) (v := ?_) (oi := { dst := some 32, op := Op.extract (Operand.tmp 28) 0, type := 25, pos := "law.go:134", after := #[{ on := 3, ground := Ground.data }], guard := none }) rfl (by kernel_rfl) (by kernel_rfl) (by kernel_rfl) (by kernel_rfl) rfl (fun _ _ _ h => h) (Or.inl ⟨by rfl, ?_⟩) (HSS.out _ BS3) ?_
          rotate_left
          · intro W hSW
            go_simp
            try with_reducible rfl
          simp only [Act.put, List.setIfInBounds_toArray, List.set_cons_zero, List.set_cons_succ]
          refine wpAnyL_take' (i := 5) (v := ?_) (oi := { dst := some 33, op := Op.extract (Operand.tmp 28) 1, type := 3, pos := "law.go:134", after := #[{ on := 3, ground := Ground.data }, { on := 8, ground := Ground.gcOnly Departure.lateStores }], guard := none }) rfl (by kernel_rfl) (by kernel_rfl) (by kernel_rfl) (by kernel_rfl) rfl (fun _ _ _ h => h) (Or.inl ⟨by rfl, ?_⟩) (HSS.out _ BS3) ?_
          rotate_left
          · intro W hSW
            go_simp
            try with_reducible rfl
          simp only [Act.put, List.setIfInBounds_toArray, List.set_cons_zero, List.set_cons_succ]
          refine wpAnyL_take' (i := 6) (v := ?_) (oi := { dst := some 34, op := Op.extract (Operand.tmp 28) 2, type := 33, pos := "law.go:134", after := #[{ on := 3, ground := Ground.data }, { on := 9, ground := Ground.gcOnly Departure.lateStores }], guard := none }) rfl (by kernel_rfl) (by kernel_rfl) (by kernel_rfl) (by kernel_rfl) rfl (fun _ _ _ h => h) (Or.inl ⟨by rfl, ?_⟩) (HSS.out _ BS3) ?_
          rotate_left
          · intro W hSW
            go_simp
            try with_reducible rfl
          simp only [Act.put, List.setIfInBounds_toArray, List.set_cons_zero, List.set_cons_succ]
          have kt := (hba.block _ hlt2).trans kt
          have HBX := box_old (q := q) (x := .slice sa sl sc) (y := .int .i64 fr) (z := .slice ra rl rc) BS3 hlt hlt2 kt hav
          have c0' : W3.cell? ⟨q, 0, none⟩ = some (.slice none 0 0) := by rw [Lib.cell_of_heap kt]; rfl
          have c1' : W3.cell? ⟨q, 1, none⟩ = some (.int .i64 0) := by rw [Lib.cell_of_heap kt]; rfl
          have c2' : W3.cell? ⟨q, 2, none⟩ = some (.slice none 0 0) := by rw [Lib.cell_of_heap kt]; rfl
          have f' : ∀ o, W3.frozen? ⟨q, o, none⟩ = false := fun o => Lib.frozen_of_heap kt _
          refine wpAnyL_one' (i := 8) (o := { dst := none, op := Op.store 25 (Operand.tmp 6) (Operand.tmp 32), type := 0, pos := "law.go:134", after := #[{ on := 7, ground := Ground.data }, { on := 4, ground := Ground.data }, { on := 2, ground := Ground.chain }, { on := 0, ground := Ground.phase }, { on := 1, ground := Ground.phase }, { on := 2, ground := Ground.phase }, { on := 3, ground := Ground.phase }, { on := 4, ground := Ground.phase }, { on := 5, ground := Ground.textOnly Departure.lateStores }, { on := 6, ground := Ground.textOnly Departure.lateStores }, { on := 7, ground := Ground.phase }], guard := none }) (by kernel_rfl) rfl rfl (fun K hK => ?_)
          go_simp
          refine hK.out _ _ (fun _ => HSS.out _ HBX.2) ?_
          clear hK c0' c1' c2' f'
          try simp only [Act.put, List.setIfInBounds_toArray, List.set_cons_zero, List.set_cons_succ]
          refine wpAnyL_one' (i := 9) (o := { dst := some 7, op := Op.assign (Operand.tmp 33), type := 3, pos := "law.go:134", after := #[{ on := 5, ground := Ground.data }, { on := 8, ground := Ground.chain }, { on := 0, ground := Ground.phase }, { on := 1, ground := Ground.phase }, { on := 2, ground := Ground.phase }, { on := 3, ground := Ground.phase }, { on := 4, ground := Ground.phase }, { on := 5, ground := Ground.phase }, { on := 6, ground := Ground.textOnly Departure.lateStores }, { on := 7, ground := Ground.phase }, { on := 8, ground := Ground.phase }], guard := none }) (by kernel_rfl) rfl rfl (fun K hK => ?_)
          go_simp
          refine hK.out _ _ (fun _ => HSS.out _ HBX.2) ?_
          clear hK
          try simp only [Act.put, List.setIfInBounds_toArray, List.set_cons_zero, List.set_cons_succ]
          refine wpAnyL_one' (i := 10) (o := { dst := some 8, op := Op.assign (Operand.tmp 34), type := 33, pos := "law.go:134", after := #[{ on := 6, ground := Ground.data }, { on := 9, ground := Ground.chain }, { on := 0, ground := Ground.phase }, { on := 1, ground := Ground.phase }, { on := 2, ground := Ground.phase }, { on := 3, ground := Ground.phase }, { on := 4, ground := Ground.phase }, { on := 5, ground := Ground.phase }, { on := 6, ground := Ground.phase }, { on := 7, ground := Ground.phase }, { on := 8, ground := Ground.phase }, { on := 9, ground := Ground.phase }], guard := none }) (by kernel_rfl) rfl rfl (fun K hK => ?_)
          go_simp
          refine hK.out _ _ (fun _ => HSS.out _ HBX.2) ?_
          clear hK
          try simp only [Act.put, List.setIfInBounds_toArray, List.set_cons_zero, List.set_cons_succ]
          refine wpAnyL_done (by kernel_rfl) ?_ _
          have HR : Hid (_ ∧ _) := ⟨HBX, had⟩
          clear HBX had
          go_wp2_with fail
          go_meet
          exact ⟨q, S2, p, sa, sl, sc, ra, rl, rc, fr, rfl, rfl, rfl, ⟨HR.out.1.1, HR.out.2, HR.out.1.2⟩⟩
      · go_simp
        have BS1 : Below w1.heap.size w1 (wd.alloc (Obj.cells #[.slice none 0 0, .int .i64 0, .slice none 0 0] 25)) := BS.alloc (BS).size _
        refine hK.out _ _ (fun _ => HSS.out _ BS1) ?_
        clear hK
        try simp only [Act.put, List.setIfInBounds_toArray, List.set_cons_zero, List.set_cons_succ]
        have hbn' : Below wd.heap.size wd (wd.alloc (Obj.cells #[.slice none 0 0, .int .i64 0, .slice none 0 0] 25)) := (Below.refl _ _).alloc (Nat.le_refl _) _
        have kt : (wd.alloc (Obj.cells #[.slice none 0 0, .int .i64 0, .slice none 0 0] 25)).heap[wd.heap.size]? = some (Obj.cells #[.slice none 0 0, .int .i64 0, .slice none 0 0] 25) := heap_alloc_new _ _
        have hlt : w1.heap.size ≤ wd.heap.size := (BS).size
        have hlt2 : wd.heap.size < (wd.alloc (Obj.cells #[.slice none 0 0, .int .i64 0, .slice none 0 0] 25)).heap.size := by simp
        obtain ⟨q, hq⟩ : ∃ q, q = wd.heap.size := ⟨_, rfl⟩
        obtain ⟨W1, hW⟩ : ∃ V1, V1 = wd.alloc (Obj.cells #[.slice none 0 0, .int .i64 0, .slice none 0 0] 25) := ⟨_, rfl⟩
        rw [← hW, ← hq] at kt hlt2
        rw [← hq] at hlt
        rw [← hW] at hbn' BS1
        rw [← hW, ← hq]
        have hqA : wd.heap.size ≤ q := Nat.le_of_eq hq.symm
        clear hW hq
        refine wpAnyL_one' (i := 0) (o := { dst := some 29, op := Op.call { callee := Callee.value (Operand.func 14), args := #[], argTypes := #[] }, type := 25, pos := "law.go:134", after := #[], guard := none }) (by kernel_rfl) rfl rfl (fun K hK => ?_)
        go_simp
        refine (new_any _).mono ?_
        rintro e W2 ⟨nv, rfl, hnv, hbn⟩
        have BS2 : Below w1.heap.size w1 W2 := below_next BS1 hbn
        refine hK.out _ _ (fun _ => HSS.out _ BS2) ?_
        clear hK
        try simp only [Act.put, List.setIfInBounds_toArray, List.set_cons_zero, List.set_cons_succ]
        refine wpAnyL_one' (i := 2) (o := { dst := some 31, op := Op.call { callee := Callee.value (Operand.func 24), args := #[Operand.tmp 29, Operand.tmp 30], argTypes := #[25, 32] }, type := 43, pos := "law.go:134", after := #[{ on := 0, ground := Ground.data }, { on := 1, ground := Ground.data }, { on := 0, ground := Ground.chain }], guard := none }) (by kernel_rfl) rfl rfl (fun K hK => ?_)
        go_simp
        refine (addNew_any nv twoT _ 2 W2 hnv (HT.out _ BS2) (by rw [cnt_two]; decide)).mono ?_
        rintro e W3 ⟨⟨S2, p, sa, sl, sc, ra, rl, rc, fr, rfl, hav, had⟩, hba⟩
        have BS3 : Below w1.heap.size w1 W3 := below_next BS2 hba
        have hsA := hba.size
        refine hK.out _ _ (fun _ => HSS.out _ BS3) ?_
        clear hK
        try simp only [Act.put, List.setIfInBounds_toArray, List.set_cons_zero, List.set_cons_succ]
        refine wpAnyL_take' (i := 3) (v := ?_) (oi := { dst := some 28, op := Op.move (Operand.tmp 31), type := 43, pos := "law.go:134", after := #[{ on := 2, ground := Ground.data }], guard := none }) rfl (by kernel_rfl) (by kernel_rfl) (by kernel_rfl) (by kernel_rfl) rfl (fun _ _ _ h => h) (Or.inl ⟨by rfl, ?_⟩) (HSS.out _ BS3) ?_
        rotate_left
        · intro W hSW
          go_simp
          try with_reducible rfl
        simp only [Act.put, List.setIfInBounds_toArray, List.set_cons_zero, List.set_cons_succ]
        refine wpAnyL_take' (i := 4) (v := ?_) (oi := { dst := some 32, op := Op.extract (Operand.tmp 28) 0, type := 25, pos := "law.go:134", after := #[{ on := 3, ground := Ground.data }], guard := none }) rfl (by kernel_rfl) (by kernel_rfl) (by kernel_rfl) (by kernel_rfl) rfl (fun _ _ _ h => h) (Or.inl ⟨by rfl, ?_⟩) (HSS.out _ BS3) ?_
        rotate_left
        · intro W hSW
          go_simp
          try with_reducible rfl
        simp only [Act.put, List.setIfInBounds_toArray, List.set_cons_zero, List.set_cons_succ]
        refine wpAnyL_take' (i := 5) (v := ?_) (oi := { dst := some 33, op := Op.extract (Operand.tmp 28) 1, type := 3, pos := "law.go:134", after := #[{ on := 3, ground := Ground.data }, { on := 8, ground := Ground.gcOnly Departure.lateStores }], guard := none }) rfl (by kernel_rfl) (by kernel_rfl) (by kernel_rfl) (by kernel_rfl) rfl (fun _ _ _ h => h) (Or.inl ⟨by rfl, ?_⟩) (HSS.out _ BS3) ?_
        rotate_left
        · intro W hSW
          go_simp
          try with_reducible rfl
        simp only [Act.put, List.setIfInBounds_toArray, List.set_cons_zero, List.set_cons_succ]
        refine wpAnyL_take' (i := 6) (v := ?_) (oi := { dst := some 34, op := Op.extract (Operand.tmp 28) 2, type := 33, pos := "law.go:134", after := #[{ on := 3, ground := Ground.data }, { on := 9, ground := Ground.gcOnly Departure.lateStores }], guard := none }) rfl (by kernel_rfl) (by kernel_rfl) (by kernel_rfl) (by kernel_rfl) rfl (fun _ _ _ h => h) (Or.inl ⟨by rfl, ?_⟩) (HSS.out _ BS3) ?_
        rotate_left
        · intro W hSW
          go_simp
          try with_reducible rfl
        simp only [Act.put, List.setIfInBounds_toArray, List.set_cons_zero, List.set_cons_succ]
        have kt := (hba.block _ (Nat.lt_of_lt_of_le hlt2 hbn.size)).trans ((hbn.block _ hlt2).trans kt)
        have HBX := box_old (q := q) (x := .slice sa sl sc) (y := .int .i64 fr) (z := .slice ra rl rc) BS3 hlt (Nat.lt_of_lt_of_le hlt2 hbn.size) kt hav
        have c0' : W3.cell? ⟨q, 0, none⟩ = some (.slice none 0 0) := by rw [Lib.cell_of_heap kt]; rfl
        have c1' : W3.cell? ⟨q, 1, none⟩ = some (.int .i64 0) := by rw [Lib.cell_of_heap kt]; rfl
        have c2' : W3.cell? ⟨q, 2, none⟩ = some (.slice none 0 0) := by rw [Lib.cell_of_heap kt]; rfl
        have f' : ∀ o, W3.frozen? ⟨q, o, none⟩ = false := fun o => Lib.frozen_of_heap kt _
        refine wpAnyL_one' (i := 8) (o := { dst := none, op := Op.store 25 (Operand.tmp 6) (Operand.tmp 32), type := 0, pos := "law.go:134", after := #[{ on := 7, ground := Ground.data }, { on := 4, ground := Ground.data }, { on := 2, ground := Ground.chain }, { on := 0, ground := Ground.phase }, { on := 1, ground := Ground.phase }, { on := 2, ground := Ground.phase }, { on := 3, ground := Ground.phase }, { on := 4, ground := Ground.phase }, { on := 5, ground := Ground.textOnly Departure.lateStores }, { on := 6, ground := Ground.textOnly Departure.lateStores }, { on := 7, ground := Ground.phase }], guard := none }) (by kernel_rfl) rfl rfl (fun K hK => ?_)
        go_simp
        refine hK.out _ _ (fun _ => HSS.out _ HBX.2) ?_
        clear hK c0' c1' c2' f'
        try simp only [Act.put, List.setIfInBounds_toArray, List.set_cons_zero, List.set_cons_succ]
        refine wpAnyL_one' (i := 9) (o := { dst := some 7, op := Op.assign (Operand.tmp 33), type := 3, pos := "law.go:134", after := #[{ on := 5, ground := Ground.data }, { on := 8, ground := Ground.chain }, { on := 0, ground := Ground.phase }, { on := 1, ground := Ground.phase }, { on := 2, ground := Ground.phase }, { on := 3, ground := Ground.phase }, { on := 4, ground := Ground.phase }, { on := 5, ground := Ground.phase }, { on := 6, ground := Ground.textOnly Departure.lateStores }, { on := 7, ground := Ground.phase }, { on := 8, ground := Ground.phase }], guard := none }) (by kernel_rfl) rfl rfl (fun K hK => ?_)
        go_simp
        refine hK.out _ _ (fun _ => HSS.out _ HBX.2) ?_
        clear hK
        try simp only [Act.put, List.setIfInBounds_toArray, List.set_cons_zero, List.set_cons_succ]
        refine wpAnyL_one' (i := 10) (o := { dst := some 8, op := Op.assign (Operand.tmp 34), type := 33, pos := "law.go:134", after := #[{ on := 6, ground := Ground.data }, { on := 9, ground := Ground.chain }, { on := 0, ground := Ground.phase }, { on := 1, ground := Ground.phase }, { on := 2, ground := Ground.phase }, { on := 3, ground := Ground.phase }, { on := 4, ground := Ground.phase }, { on := 5, ground := Ground.phase }, { on := 6, ground := Ground.phase }, { on := 7, ground := Ground.phase }, { on := 8, ground := Ground.phase }, { on := 9, ground := Ground.phase }], guard := none }) (by kernel_rfl) rfl rfl (fun K hK => ?_)
        go_simp
        refine hK.out _ _ (fun _ => HSS.out _ HBX.2) ?_
        clear hK
        try simp only [Act.put, List.setIfInBounds_toArray, List.set_cons_zero, List.set_cons_succ]
        refine wpAnyL_done (by kernel_rfl) ?_ _
        have HR : Hid (_ ∧ _) := ⟨HBX, had⟩
        clear HBX had
        go_wp2_with fail
        go_meet
        exact ⟨q, S2, p, sa, sl, sc, ra, rl, rc, fr, rfl, rfl, rfl, ⟨HR.out.1.1, HR.out.2, HR.out.1.2⟩⟩
    case rest =>
      obtain ⟨qb, Sb, pb, b1, b2, b3, b4, b5, b6, b7, rfl, rfl, rfl, HBb⟩ := hcut
      rename World => w2
      have HB2 : Hid (Below w.heap.size w w2) := below_next HB1.out HBb.out.2.2
      have HAA : Hid (∀ W, Below w2.heap.size w2 W → BoxA w0.heap.size qa (addS Sa pa).ar (.agg #[.slice a1 a2 a3, .int .i64 a7, .slice a4 a5 a6]) (.slice a1 a2 a3) (.int .i64 a7) (.slice a4 a5 a6) W) := fun W hb => (HA.out.1.next HBb.out.2.2).next hb
      have HBB : Hid (∀ W, Below w2.heap.size w2 W → BoxA w1.heap.size qb (addS Sb pb).ar (.agg #[.slice b1 b2 b3, .int .i64 b7, .slice b4 b5 b6]) (.slice b1 b2 b3) (.int .i64 b7) (.slice b4 b5 b6) W) := fun W hb => HBb.out.1.next hb
      have HRA : Hid (Added newA oneT 0 Sa pa) := HA.out.2.1
      have HRB : Hid (Added newA twoT 0 Sb pb) := HBb.out.2.1
      obtain ⟨c0, c1, c2, cf⟩ := HBb.out.1.cells
      have hrt : (addS Sb pb).ar.roots = [(pb : Int)] := by rw [HRB.out.roots]; rfl
      have hD : Calls Try.prog 26 #[(.agg #[.slice b1 b2 b3, .int .i64 b7, .slice b4 b5 b6]), .int .i64 0] w2 _ := drop_parts (addS Sb pb).ar _ 0 pb w2 HBb.out.1.ar HRB.out.ok.fit HRB.out.ok.kl (by rw [hrt]; rfl)
      clear HTB HSB HA HBb hrt
      go_wp2_with fail
      refine hD.mono ?_
      rintro e w3 ⟨⟨cA, d1, d2, d3, d4, d5, d6, d7, rfl, hcv, hcd⟩, hb3⟩
      clear hD c0 c1 c2 cf
      go_upto_region 6 with fail
      have B3 : Below w2.heap.size w2 w3 := hb3
      have B4 : Below w2.heap.size w2 (w3.alloc (Obj.cells #[.slice d1 d2 d3, .int .i64 d7, .slice d4 d5 d6] 25)) := B3.alloc B3.size _
      have b4n : Below w3.heap.size w3 (w3.alloc (Obj.cells #[.slice d1 d2 d3, .int .i64 d7, .slice d4 d5 d6] 25)) := (Below.refl _ _).alloc (Nat.le_refl _) _
      have kt : (w3.alloc (Obj.cells #[.slice d1 d2 d3, .int .i64 d7, .slice d4 d5 d6] 25)).heap[w3.heap.size]? = some (Obj.cells #[.slice d1 d2 d3, .int .i64 d7, .slice d4 d5 d6] 25) := heap_alloc_new _ _
      have hBC := BoxA.mk (B := 0) (Nat.zero_le _) kt rfl (hcv.next b4n)
      generalize w3.heap.size = qc at *
      generalize (w3.alloc (Obj.cells #[.slice d1 d2 d3, .int .i64 d7, .slice d4 d5 d6] 25)) = w4 at *
      clear B3 b4n kt hb3 hcv
      have HCC : Hid (∀ W, Below w4.heap.size w4 W → BoxA 0 qc cA (.agg #[.slice d1 d2 d3, .int .i64 d7, .slice d4 d5 d6]) (.slice d1 d2 d3) (.int .i64 d7) (.slice d4 d5 d6) W) := fun W hb => hBC.next hb
      have HRC : Hid (Dropped (addS Sb pb).ar cA 0) := hcd
      have HAA : Hid (∀ W, Below w4.heap.size w4 W → BoxA w0.heap.size qa (addS Sa pa).ar (.agg #[.slice a1 a2 a3, .int .i64 a7, .slice a4 a5 a6]) (.slice a1 a2 a3) (.int .i64 a7) (.slice a4 a5 a6) W) := fun W hb => HAA.out W (below_next B4 hb)
      have HBB : Hid (∀ W, Below w4.heap.size w4 W → BoxA w1.heap.size qb (addS Sb pb).ar (.agg #[.slice b1 b2 b3, .int .i64 b7, .slice b4 b5 b6]) (.slice b1 b2 b3) (.int .i64 b7) (.slice b4 b5 b6) W) := fun W hb => HBB.out W (below_next B4 hb)
      have HB4 : Hid (Below w.heap.size w w4) := below_next HB2.out B4
      obtain ⟨c0, c1, c2, cf⟩ := hBC.cells
      have hrc : cA.roots = [-1] := by rw [hcd.roots, HRB.out.roots]; rfl
      have HNL : Hid (liveN cA.slots = 0) := live_none hcd.fit (fun T => by
        rintro ⟨j, h1, _⟩
        rw [hrc, List.mem_singleton] at h1
        omega)
      have hD : Calls Try.prog 26 #[(.agg #[.slice d1 d2 d3, .int .i64 d7, .slice d4 d5 d6]), .int .i64 0] w4 _ := dropGone_parts cA _ 0 w4 hBC.ar hcd.fit hcd.kl (by rw [hrc]; rfl)
      clear hBC hcd hrc B4
      go_wp2_with fail
      refine hD.mono ?_
      rintro e w5 ⟨⟨e1, e2, e3, e4, e5, e6, e7, rfl⟩, hb5⟩
      clear hD c0 c1 c2 cf
      go_upto_region 7 with fail
      have B6 : Below w4.heap.size w4 (w5.alloc (Obj.cells #[.slice e1 e2 e3, .int .i64 e7, .slice e4 e5 e6] 25)) := hb5.alloc hb5.size _
      generalize w5.heap.size = qd at *
      generalize (w5.alloc (Obj.cells #[.slice e1 e2 e3, .int .i64 e7, .slice e4 e5 e6] 25)) = w6 at *
      clear hb5
      have HL : Hid (∀ W, Below w4.heap.size w4 W → Calls Try.prog 19 #[.agg #[.slice a1 a2 a3, .int .i64 a7, .slice a4 a5 a6]] W fun e w' => e = .returned (.int .i64 3) ∧ Below W.heap.size W w') := fun W hb => by
        have := live_any _ _ W (HAA.out W hb).ar
        rw [live_one HRA.out] at this
        exact this
      have HL2 : Hid (∀ W, Below w4.heap.size w4 W → Calls Try.prog 19 #[.agg #[.slice b1 b2 b3, .int .i64 b7, .slice b4 b5 b6]] W fun e w' => e = .returned (.int .i64 2) ∧ Below W.heap.size W w') := fun W hb => by
        have := live_any _ _ W (HBB.out W hb).ar
        rw [live_two HRB.out] at this
        exact this
      have HL3 : Hid (∀ W, Below w4.heap.size w4 W → Calls Try.prog 19 #[.agg #[.slice d1 d2 d3, .int .i64 d7, .slice d4 d5 d6]] W fun e w' => e = .returned (.int .i64 0) ∧ Below W.heap.size W w') := fun W hb => by
        have := live_any _ _ W (HCC.out W hb).ar
        rw [HNL.out] at this
        exact this
      obtain ⟨g, o, rfl, hgr⟩ : ∃ g o, b1 = some ⟨g, o, none⟩ ∧ 1 ≤ b2 ∧ ∀ W, Below w4.heap.size w4 W → W.cell? ⟨g, o + 8, none⟩ = some (.int .i64 2) := by
        obtain ⟨s, hs1, hs2⟩ := refs_two HRB.out.lay
        obtain ⟨sv, rv, e0, hs, _⟩ := (HBB.out w4 (Below.refl _ _)).ar
        simp only [Value.agg.injEq, Array.mk.injEq, List.cons.injEq] at e0
        obtain ⟨rfl, -⟩ := e0
        obtain ⟨ao, cap, e1, hr, _⟩ := hs
        simp only [Value.slice.injEq] at e1
        obtain ⟨rfl, e2, -⟩ := e1
        obtain ⟨g, o, ka, kc, gv, e3, h1, h2, _⟩ := hr 0 s hs1
        have hlt := (List.getElem?_eq_some_iff.1 hs1).1
        refine ⟨g, o, e3, by omega, fun W hb => ?_⟩
        have h8 := h2.2.2.1
        rw [hs2] at h8
        refine (hb.cell (p := ⟨g, o + 8, none⟩) h1).trans ?_
        simpa using h8
      have HG : Hid (∀ W, Below w4.heap.size w4 W → W.cell? ⟨g, o + 8, none⟩ = some (.int .i64 2)) := hgr.2
      have hg1 := hgr.1
      obtain ⟨c0, c1, c2, cf⟩ := (HAA.out w6 B6).cells
      have hL := HL.out w6 B6
      have HB6 : Hid (Below w4.heap.size w4 w6) := B6
      clear HNL hgr B6
      go_wp2_with fail
      refine hL.mono ?_
      rintro e w7 ⟨rfl, hb7⟩
      have HB7 : Hid (Below w4.heap.size w4 w7) := below_next HB6.out hb7
      clear hL hb7 c0 c1 c2 cf
      obtain ⟨c0, c1, c2, cf⟩ := (HBB.out w7 HB7.out).cells
      have hL := HL2.out w7 HB7.out
      go_wp2_with fail
      refine hL.mono ?_
      rintro e w8 ⟨rfl, hb8⟩
      have HB8 : Hid (Below w4.heap.size w4 w8) := below_next HB7.out hb8
      clear hL hb8 c0 c1 c2 cf
      obtain ⟨c0, c1, c2, cf⟩ := (HBB.out w8 HB8.out).cells
      obtain ⟨d0, d1', d2', df⟩ := (HCC.out w8 HB8.out).cells
      have hg := HG.out w8 HB8.out
      have hL := HL3.out w8 HB8.out
      have hi0 : (0 : Int) < (b2 : Int) := by omega
      go_wp2_with fail
      refine hL.mono ?_
      rintro e w9 ⟨rfl, hb9⟩
      have HB9 : Hid (Below w.heap.size w w9) := below_next (below_next HB4.out HB8.out) hb9
      clear hL hb9 c0 c1 c2 cf d0 d1' d2' df hg
      go_wp2_with fail
      go_ret
      exact ⟨rfl, HB9.out⟩
end Go.Proofs.Ytoocafcagelbgaa
