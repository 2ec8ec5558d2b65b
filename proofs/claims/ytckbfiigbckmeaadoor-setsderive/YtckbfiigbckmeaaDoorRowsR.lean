/- Rows that grow, in a block of their own: the state of First's and Follow's rounds. -/
import Derived.Test.YtckbfiigbckmeaaDoorRefEmpty
import Derived.Test.YtckbfiigbckmeaaDoorFirstMath
namespace Go.Proofs.YtckbfiigbckmeaaDoor
open Go.RowKit

theorem owns_below {W W' : World} {B n : Nat} {e : TypeId} {k : Nat} {v : Value} {xs : List Value} (h : W.ownsRow B e k v n xs) (hb : Below W.heap.size W W') : W'.ownsRow B e k v n xs := by
  refine ⟨h.1, ?_⟩
  rcases h.2 with h' | ⟨g, cap, cur, hv, hB, hg, rest⟩
  · exact .inl h'
  · refine .inr ⟨g, cap, cur, hv, hB, ?_, rest⟩
    have hgl : g < W.heap.size := by
      rcases Nat.lt_or_ge g W.heap.size with h | h
      · exact h
      · rw [Array.getElem?_eq_none h] at hg; cases hg
    rw [hb.block g hgl]; exact hg
theorem cell_set_other (W : World) {G s b o : Nat} (u : Value) (h : b ≠ G) : (W.setCell ⟨G, s, none⟩ u).cell? ⟨b, o, none⟩ = W.cell? ⟨b, o, none⟩ :=
  World.cell?_of_block (w := W) (Below.heap_setCell W ⟨G, s, none⟩ u b h)
theorem RowAt.set {α : Type} {enc : α → Value} {l : List α} {ad : Addr} {W : World} {G : Nat} (h : RowAt enc l (some ad) W) (ha : l ≠ [] → G + 1 ≤ ad.block) (s : Nat) (u : Value) : RowAt enc l (some ad) (W.setCell ⟨G, s, none⟩ u) := fun i x hi => by
  obtain ⟨b, off, h0, h1, h2⟩ := h i x hi
  have hb := ha (fun e => by rw [e] at hi; simp at hi)
  cases h0
  simp only at hb
  exact ⟨b, off, rfl, by simpa using h1, (cell_set_other W u (by omega)).trans h2⟩
theorem SlI.set {l : List Int} {v : Value} {W : World} {G : Nat} (h : SlI l v W) (ha : Apart (G + 1) v) (s : Nat) (u : Value) : SlI l v (W.setCell ⟨G, s, none⟩ u) := by
  obtain ⟨ao, cap, rfl, h1, h2, h3, h4⟩ := h
  refine ⟨ao, cap, rfl, ?_, h2, h3, h4⟩
  cases ao with
  | none => rw [h1.cons_none]; exact RowAt.nil _ _ _
  | some ad => exact h1.set (fun _ => ha ad _ _ rfl) s u
theorem SlB.set {l : List Bool} {v : Value} {W : World} {G : Nat} (h : SlB l v W) (ha : Apart (G + 1) v) (s : Nat) (u : Value) : SlB l v (W.setCell ⟨G, s, none⟩ u) := by
  obtain ⟨ao, cap, rfl, h1, h2, h3⟩ := h
  refine ⟨ao, cap, rfl, ?_, h2, h3⟩
  cases ao with
  | none => rw [h1.cons_none]; exact RowAt.nil _ _ _
  | some ad => exact h1.set (fun _ => ha ad _ _ rfl) s u

/-- What stays through calls that make memory, and through stores into block G. -/
structure Steady (G : Nat) (C : World → Prop) : Prop where
  next : ∀ {W W' : World}, C W → Below W.heap.size W W' → C W'
  set : ∀ {W : World} (s : Nat) (u : Value), C W → C (W.setCell ⟨G, s, none⟩ u)

/-- Rows of numbers, each apart from block G, which holds their slices. -/
def RowR (N G : Nat) (w1 : World) (C : World → Prop) (R : List (List Int)) (W : World) : Prop :=
  ∃ vs : List Value, W.ownsRow G 27 1 (.slice (some ⟨G, 0, none⟩) N N) N vs ∧ vs.length = N ∧ R.length = N ∧ (∀ (i : Nat) (v : Value), vs[i]? = some v → SlI (rowAt R i) v W ∧ Apart (G + 1) v) ∧ Below G w1 W ∧ C W
theorem RowR.below {N G w1 C R W} (h : RowR N G w1 C R W) : Below G w1 W := by obtain ⟨vs, h⟩ := h; exact h.2.2.2.2.1
theorem RowR.ctx {N G w1 C R W} (h : RowR N G w1 C R W) : C W := by obtain ⟨vs, h⟩ := h; exact h.2.2.2.2.2
theorem RowR.len {N G w1 C R W} (h : RowR N G w1 C R W) : R.length = N := by obtain ⟨vs, h⟩ := h; exact h.2.2.1
theorem RowR.lt {N G w1 C R W} (h : RowR N G w1 C R W) : G < W.heap.size := by
  obtain ⟨vs, h, _⟩ := h
  exact (World.ownsRow.lt h G rfl).2
theorem RowR.get {N G w1 C R W} (h : RowR N G w1 C R W) {s : Nat} (hs : s < N) : ∃ v, W.cell? ⟨G, s, none⟩ = some v ∧ SlI (rowAt R s) v W ∧ Apart (G + 1) v := by
  obtain ⟨vs, h0, h1, h2, h3, _⟩ := h
  have hl : s < vs.length := by rw [h1]; exact hs
  refine ⟨vs[s], ?_, h3 s _ (List.getElem?_eq_getElem hl)⟩
  rw [World.ownsRow.cellAt h0 s (by omega), List.getElem?_eq_getElem hl]
theorem RowR.frozen {N G w1 C R W} (h : RowR N G w1 C R W) (s : Nat) : W.frozen? ⟨G, s, none⟩ = false := by
  obtain ⟨vs, h, _⟩ := h
  exact World.ownsRow.frozenAt h s
theorem RowR.next {N G w1 C R W W'} (h : RowR N G w1 C R W) (hC : Steady G C) (hG : G = w1.heap.size) (hb : Below W.heap.size W W') : RowR N G w1 C R W' := by
  obtain ⟨vs, h0, h1, h2, h3, h4, h5⟩ := h
  exact ⟨vs, owns_below h0 hb, h1, h2, fun i v hv => ⟨(h3 i v hv).1.next hb, (h3 i v hv).2⟩, below_then h4 hb (by rw [hG]; exact h4.size), hC.next h5 hb⟩
theorem RowR.drewN {N G w1 C R W} (h : RowR N G w1 C R W) (hC : Steady G C) (hG : G = w1.heap.size) (m : Nat) : RowR N G w1 C R (W.drewN m) := h.next hC hG (below_drewN (Below.refl _ _) m)
theorem RowR.store {N G w1 C R W} (h : RowR N G w1 C R W) (hC : Steady G C) {s : Nat} {l : List Int} {v : Value} (hs : s < N) (hv : SlI l v W) (ha : Apart (G + 1) v) : RowR N G w1 C (R.set s l) (W.setCell ⟨G, s, none⟩ v) := by
  obtain ⟨vs, h0, h1, h2, h3, h4, h5⟩ := h
  refine ⟨vs.set s v, (World.ownsRow.stored h0 s v).1, by simpa using h1, by simpa using h2, fun i u hu => ?_, h4.setCell (p := ⟨G, s, none⟩) (Nat.le_refl _) _, hC.set _ _ h5⟩
  rw [rowAt_set (by rw [h2]; exact hs)]
  rw [List.getElem?_set] at hu
  by_cases e : s = i
  · subst e
    simp [h1, hs] at hu
    subst hu
    rw [if_pos rfl]
    exact ⟨hv.set ha _ _, ha⟩
  · rw [if_neg e] at hu
    rw [if_neg (fun h => e h.symm)]
    exact ⟨(h3 i u hu).1.set (h3 i u hu).2 _ _, (h3 i u hu).2⟩
theorem RowR.slR {N G w1 C R W} (h : RowR N G w1 C R W) : SlR R (.slice (some ⟨G, 0, none⟩) N N) W := by
  have hl := h.lt
  have hlen := h.len
  refine ⟨some ⟨G, 0, none⟩, N, by rw [hlen], fun i l hi => ?_, (fun h => by cases h), by rw [hlen]; exact Nat.le_refl _⟩
  have hi2 : i < R.length := (List.getElem?_eq_some_iff.1 hi).1
  obtain ⟨v, h1, h2, _⟩ := h.get (s := i) (by omega)
  refine ⟨G, 0, v, rfl, hl, by simpa using h1, ?_⟩
  rw [rowAt_get hi2] at h2
  rw [List.getElem?_eq_getElem hi2] at hi
  cases hi
  exact h2
theorem info27 : (Tryd.prog.info? 27).map (fun i => (i.zero, i.size, i.bytes)) = some (some (.slice none 0 0), 1, 24) := by kernel_rfl
theorem sli_nil (W : World) : SlI [] (.slice none 0 0) W := ⟨none, 0, rfl, RowAt.nil _ _ _, fun _ => rfl, Nat.le_refl _, by simp⟩
theorem RowR.made {N : Nat} {w1 W : World} {C : World → Prop} (h : W.ownsRow w1.heap.size 27 1 (.slice (some ⟨w1.heap.size, 0, none⟩) N N) N (madeCells #[Value.slice none 0 0] N).toList) (hg : w1.grownBy W none) (hC : C W) :
    RowR N w1.heap.size w1 C (List.replicate N []) W := by
  rw [toList_madeCells_one] at h
  refine ⟨List.replicate N (.slice none 0 0), h, by simp, by simp, fun i v hv => ?_, (Below.refl _ _).grown hg (Nat.le_refl _) (fun k e => by cases e), hC⟩
  rw [List.getElem?_replicate] at hv
  split at hv
  · cases hv
    refine ⟨?_, Apart.none _ _ _⟩
    have : rowAt (List.replicate N []) i = [] := by unfold rowAt; rw [List.getD_eq_getElem?_getD, List.getElem?_replicate]; split <;> rfl
    rw [this]
    exact sli_nil W
  · cases hv
end Go.Proofs.YtckbfiigbckmeaaDoor
