/- semicolon, operation, take. -/
import Derived.Test.YtggehnnbgeffpaaDoorNums
namespace Go.Proofs.YtggehnnbgeffpaaDoor
open Go.Shelf Go.RowKit Go.Lib Go.Proofs

theorem heap_set (W : World) (B j : Nat) (cs : Array Value) (t : TypeId) (fr : Nat × Nat) (h : W.heap[B]? = some (.cells cs t fr)) (u : Value) : (W.setCell ⟨B, j, none⟩ u).heap[B]? = some (.cells (cs.setIfInBounds j u) t fr) := by
  have hlt := (Array.getElem?_eq_some_iff.1 h).1
  simp only [World.setCell]
  rw [Array.getElem?_modify]
  simp [h]

/-- The reader's slice of what is wanted, set anew. -/
theorem RAt.setWant {n0 B : Nat} {r : Rd} {W : World} (h : RAt n0 B r W) {v : Value} {l : List Tk} (hw : WantAt v l W) :
    RStep n0 W (W.setCell ⟨B, 2, none⟩ v) ∧ RAt n0 B { r with want := l } (W.setCell ⟨B, 2, none⟩ v) := by
  obtain ⟨h1, h2, h3, vp, vl, vw, hB, hp, hl, _⟩ := h
  have hg : W.grownBy (W.setCell ⟨B, 2, none⟩ v) (some B) := ⟨rfl, rfl, rfl, by simp [World.setCell], fun i _ hr => Below.heap_setCell _ _ _ _ (by intro e; exact hr (congrArg some e))⟩
  have hst : RStep n0 W (W.setCell ⟨B, 2, none⟩ v) := .of_grown hg (by have := (Array.getElem?_eq_some_iff.1 hB).1; omega) (fun k e => by cases e; exact ⟨h1, _, _, .inr (.inr hB)⟩)
  refine ⟨hst, h1, h2, h3, vp, vl, v, ?_, owns_other hp hg hB (by decide), owns_other hl hg hB (by decide), hw.step hst⟩
  rw [heap_set W B 2 _ _ _ hB v]
  rfl

set_option maxRecDepth 100000 in
set_option maxHeartbeats 2000000 in
theorem semicolon_any (n0 B : Nat) (r : Rd) (s : ByteArray) (W : World) (hR : RAt n0 B r W) :
    Calls Tryd.prog 39 #[.pointer (some ⟨B, 0, none⟩), .string s] W (Takes n0 B (if s.data.toList = [59] then (0, { r with want := [.op] }) else (10, r)) W) := by
  obtain ⟨vp, vl, vw, hB, _⟩ := hR.ex
  have hlt := (Array.getElem?_eq_some_iff.1 hB).1
  have c2 : W.cell? ⟨B, 2, none⟩ = some vw := by rw [cell_of_obj hB]; rfl
  have f2 : W.frozen? ⟨B, 2, none⟩ = false := by simp [World.frozen?, hB]
  have hne : B ≠ W.heap.size := by omega
  by_cases h : s.data.toList = [59]
  · rw [if_pos h]
    have hs : s.toList = [59] := by rw [Lib.toList_data]; exact h
    have hN := (hR.next ((Below.refl _ W).alloc (Nat.le_refl _) (.cells #[.func (.func 18) #[] #[]] 77))).setWant (v := .slice (some ⟨W.heap.size, 0, none⟩) 1 1) (l := [.op]) ⟨some ⟨W.heap.size, 0, none⟩, 1, rfl, Nat.le_refl _, fun i t ht => by
      match i, ht with
      | 0, ht =>
        simp at ht
        subst ht
        exact ⟨W.heap.size, 0, _, _, rfl, World.alloc_heap_new W _, by simp [Tk.f]⟩
      | i + 1, ht => simp at ht⟩
    have hst := (RStep.of_below (n0 := n0) ((Below.refl _ W).alloc (Nat.le_refl _) (.cells #[.func (.func 18) #[] #[]] 77)) (by have := hR.nB; omega)).trans hN.1
    have HN := hN.2
    clear hN hR hB
    go_enter Tryd.func39, Tryd.ntmps39
    go_wp2
    go_ret
    rw [World.setCell_alloc_past (hn := hlt)] at hst HN
    exact ⟨rfl, hst, fun _ => HN⟩
  · rw [if_neg h]
    have hs : (s.toList == [59]) = false := by rw [Lib.toList_data]; simpa using h
    have hn : n0 ≤ W.heap.size := by have := hR.nB; omega
    clear hR hB
    go_enter Tryd.func39, Tryd.ntmps39
    go_wp2
    go_ret
    exact ⟨rfl, .refl _ _, fun h => by simp at h⟩
end Go.Proofs.YtggehnnbgeffpaaDoor
