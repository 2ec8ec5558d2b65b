/- A row whose last element is written; what Leaves holds. -/
import Derived.Test.YthmpnhjlblcgdaaNRows
import Derived.Test.YthmpnhjlblcgdaaPMoved
namespace Go.Proofs.Ythmpnhjlblcgdaa
open Go.RowKit

theorem own_set {W : World} {B n g j : Nat} {e : TypeId} {v u : Value} {xs old : List Value} (h : W.ownsRow B e 7 v (n + 1) (xs ++ old)) (hx : xs.length = n * 7) (hg : v.ownBlock = some g) :
    (W.setCell ⟨g, n * 7 + j, none⟩ u).ownsRow B e 7 v (n + 1) (xs ++ old.set j u) := by
  obtain ⟨h1, h2⟩ := h
  refine ⟨by simpa using h1, ?_⟩
  rcases h2 with ⟨rfl, hn⟩ | ⟨g', cap, cur, rfl, hB, hb, hle, hm, hs, ht⟩
  · omega
  · simp only [Value.ownBlock, Option.some.injEq] at hg
    subst hg
    refine .inr ⟨_, cap, cur.setIfInBounds (n * 7 + j) u, rfl, hB, heap_set _ hb, hle, hm, by simpa using hs, ?_⟩
    rw [Array.toList_setIfInBounds, List.take_set, ht, ← hx]
    rw [List.set_append, if_neg (by omega)]
    simp
theorem own_cells {W : World} {B n g : Nat} {e : TypeId} {v : Value} {xs old : List Value} (h : W.ownsRow B e 7 v (n + 1) (xs ++ old)) (hx : xs.length = n * 7) (hg : v.ownBlock = some g) (j : Nat) (u : Value) (hj : old[j]? = some u) :
    W.cell? ⟨g, n * 7 + j, none⟩ = some u := by
  have h1 := h.1
  rcases h.2 with ⟨rfl, hn⟩ | ⟨g', cap, cur, rfl, hB, hb, hle, hm, hs, ht⟩
  · omega
  · simp only [Value.ownBlock, Option.some.injEq] at hg
    subst hg
    have hj2 := (List.getElem?_eq_some_iff.1 hj).1
    have e1 : (xs ++ old)[n * 7 + j]? = some u := by rw [List.getElem?_append_right (by omega), ← hj]; congr 1; omega
    rw [← ht, List.getElem?_take, if_pos (by simp at h1; omega)] at e1
    rw [← e1]
    simp [World.cell?, hb]
theorem own_frozen {W : World} {B n g : Nat} {e : TypeId} {v : Value} {xs : List Value} (h : W.ownsRow B e 7 v n xs) (hg : v.ownBlock = some g) (o : Nat) : W.frozen? ⟨g, o, none⟩ = false := by
  rcases h.2 with ⟨rfl, hn⟩ | ⟨g', cap, cur, rfl, hB, hb, hle, hm, hs, ht⟩
  · cases hg
  · simp only [Value.ownBlock, Option.some.injEq] at hg
    subst hg
    simp [World.frozen?, hb]
theorem own_block {W : World} {B n : Nat} {e : TypeId} {v : Value} {xs : List Value} (h : W.ownsRow B e 7 v (n + 1) xs) : ∃ g cap, v = .slice (some ⟨g, 0, none⟩) (n + 1) cap ∧ B ≤ g ∧ g < W.heap.size ∧ n + 1 ≤ cap ∧ cap ≤ maxLen := by
  rcases h.2 with ⟨rfl, hn⟩ | ⟨g', cap, cur, rfl, hB, hb, hle, hm, hs, ht⟩
  · omega
  · exact ⟨g', cap, rfl, hB, (Array.getElem?_eq_some_iff.1 hb).1, hle, hm⟩
/-- The seven cells of an element that is stored. -/
def set7 (W : World) (g o : Nat) (h : Hd) (kv : Value) : World :=
  ((((((W.setCell ⟨g, o, none⟩ (.string h.kind)).setCell ⟨g, o + 1, none⟩ (.bool h.named)).setCell ⟨g, o + 2, none⟩ (.string h.field)).setCell ⟨g, o + 3, none⟩ (.int .i64 h.frm)).setCell ⟨g, o + 4, none⟩ (.int .i64 h.to)).setCell ⟨g, o + 5, none⟩ (.int .i64 h.bad)).setCell ⟨g, o + 6, none⟩ kv
theorem own_set7 {W : World} {B n g : Nat} {e : TypeId} {v kv : Value} {xs old : List Value} (h : W.ownsRow B e 7 v (n + 1) (xs ++ old)) (ho : old.length = 7) (hx : xs.length = n * 7) (hg : v.ownBlock = some g) (hd : Hd) :
    (set7 W g (n * 7) hd kv).ownsRow B e 7 v (n + 1) (xs ++ cells7 hd kv) := by
  have e0 := own_set (j := 0) (u := .string hd.kind) h hx hg
  have e1 := own_set (j := 1) (u := .bool hd.named) e0 hx hg
  have e2 := own_set (j := 2) (u := .string hd.field) e1 hx hg
  have e3 := own_set (j := 3) (u := .int .i64 hd.frm) e2 hx hg
  have e4 := own_set (j := 4) (u := .int .i64 hd.to) e3 hx hg
  have e5 := own_set (j := 5) (u := .int .i64 hd.bad) e4 hx hg
  have e6 := own_set (j := 6) (u := kv) e5 hx hg
  match old, ho with
  | [_, _, _, _, _, _, _], _ => exact e6
theorem but_set7 (W : World) (g o : Nat) (h : Hd) (kv : Value) : But (fun k => k = g) W (set7 W g o h kv) :=
  (((((((But.refl (fun k => k = g) _).setCell g _ _ rfl).setCell g _ _ rfl).setCell g _ _ rfl).setCell g _ _ rfl).setCell g _ _ rfl).setCell g _ _ rfl).setCell g _ _ rfl
/-- What Leaves holds: told, leaf by leaf. -/
def isLeaf (t : Nd) : Bool := t.kids.isEmpty
def leafV : Value := .slice none 0 0
structure VL (B2 P3 : Nat) (pre : List Al) (W : World) : Prop where
  val : ∃ (l : List Nd) (v : Value), Bx P3 v 22 W ∧ W.ownsRow B2 24 7 v l.length (rowC (l.map fun t => (t, leafV))) ∧ l = (pre.map (·.1)).filter isLeaf ∧ ∀ t ∈ l, HdOk t.h
def DL (P3 : Nat) (W : World) (k : Nat) : Prop := k = P3 ∨ ∃ v, W.cell? ⟨P3, 0, none⟩ = some v ∧ v.ownBlock = some k
theorem ownsRow_same {W W' : World} {B n k : Nat} {e : TypeId} {v : Value} {xs : List Value} (h : W.ownsRow B e k v n xs) (hb : ∀ g, v.ownBlock = some g → W'.heap[g]? = W.heap[g]?) : W'.ownsRow B e k v n xs := by
  obtain ⟨h1, h2⟩ := h
  refine ⟨h1, ?_⟩
  rcases h2 with ⟨rfl, hn⟩ | ⟨g, cap, cur, rfl, hB, hg, h3⟩
  · exact .inl ⟨rfl, hn⟩
  · exact .inr ⟨g, cap, cur, rfl, hB, (hb g rfl).trans hg, h3⟩
theorem VL.same {B2 P3 : Nat} {pre : List Al} {W W' : World} (h : VL B2 P3 pre W) (he : ∀ k, DL P3 W k → W'.heap[k]? = W.heap[k]?) : VL B2 P3 pre W' ∧ ∀ k, DL P3 W' k → DL P3 W k := by
  obtain ⟨l, v, h1, h2, h3, h4⟩ := h.val
  have b := h1.same (he _ (.inl rfl))
  refine ⟨⟨l, v, b, ownsRow_same h2 (fun g hg => he g (.inr ⟨v, h1.cell, hg⟩)), h3, h4⟩, fun k hk => ?_⟩
  rcases hk with hk | ⟨u, hu, hk⟩
  · exact .inl hk
  · rw [b.cell] at hu
    cases hu
    exact .inr ⟨_, h1.cell, hk⟩
theorem VL.old {B2 P3 : Nat} {pre : List Al} {W : World} (h : VL B2 P3 pre W) {k : Nat} (hk : DL P3 W k) : k < W.heap.size ∧ (k = P3 ∨ B2 ≤ k) := by
  obtain ⟨l, v, h1, h2, h3, h4⟩ := h.val
  rcases hk with rfl | ⟨u, hu, hk⟩
  · exact ⟨h1.lt, .inl rfl⟩
  · rw [h1.cell] at hu
    cases hu
    have := World.ownsRow.lt h2 k hk
    exact ⟨this.2, .inr this.1⟩
/-- The box of a round's node, that may be written. -/
def PartB (s : Nat) (x : Al) (K : Nat) (W : World) : Prop := s ≤ K ∧ HdOk x.1.h ∧ ∃ ka kc, x.2.1 = ndV x.1.h (.slice ka x.1.kids.length kc) ∧ x.1.kids.length ≤ 140737488351232 ∧ W.heap[K]? = some (.cells (cells7 x.1.h (.slice ka x.1.kids.length kc)).toArray 24 (0, 0))
theorem PartB.loop {s : Nat} {x : Al} {K m : Nat} {W W' : World} (k : PartB s x K W) (hb : But (fun k => k = m) W W') (hm : ∃ r, W.heap[m]? = some (.loop r)) : PartB s x K W' := by
  obtain ⟨h0, h1, ka, kc, h2, h3, h4⟩ := k
  obtain ⟨r, hm⟩ := hm
  exact ⟨h0, h1, ka, kc, h2, h3, (hb.block K (Array.getElem?_eq_some_iff.1 h4).1 (fun e => by subst e; rw [hm] at h4; cases h4)).trans h4⟩
end Go.Proofs.Ythmpnhjlblcgdaa
