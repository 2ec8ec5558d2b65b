/- Rows of one's own: a stretch of cells stored; copy at elements of several cells; slices.overlaps. -/
import Derived.Test.YtjpbfckdiojghaaPOwn
import Derived.Laws.IdiomCopy
import Derived.Lib.Overlaps
import Derived.Lib.AppendZerosOnto
import Derived.Shelf.Spec.SlicesInsert
namespace Go.Proofs.Ytjpbfckdiojghaa
open Go.RowKit Go.Lib

def segL (C : List Value) (o : Nat) (vs : List Value) : List Value := C.take o ++ vs ++ C.drop (o + vs.length)
theorem segL_len {C : List Value} {o : Nat} {vs : List Value} (h : o + vs.length ≤ C.length) : (segL C o vs).length = C.length := by
  unfold segL; simp; omega
theorem segL_cons (C : List Value) (o : Nat) (v : Value) (vs : List Value) (h : o + (vs.length + 1) ≤ C.length) : segL (C.set o v) (o + 1) vs = segL C o (v :: vs) := by
  have hs : C.set o v = (C.take o ++ [v]) ++ C.drop (o + 1) := by rw [List.set_eq_take_append_cons_drop, if_pos (by omega)]; simp
  have hl : (C.take o ++ [v]).length = o + 1 := by simp; omega
  unfold segL
  rw [hs, List.take_append_of_le_length (by omega), List.take_of_length_le (by omega)]
  have h2 : ((C.take o ++ [v]) ++ C.drop (o + 1)).drop (o + 1 + vs.length) = C.drop (o + (vs.length + 1)) := by
    rw [← hl, List.drop_append, hl, List.drop_eq_nil_of_le (by omega), List.nil_append, List.drop_drop]
    congr 1; omega
  rw [h2, List.length_cons]
  simp
theorem setCells_blk {g : Nat} {T : TypeId} : ∀ (vs : List Value) (o : Nat) (W : World) (cur : Array Value), W.heap[g]? = some (.cells cur T (0, 0)) → o + vs.length ≤ cur.size → (W.setCells g o vs).heap[g]? = some (.cells (segL cur.toList o vs).toArray T (0, 0))
  | [], o, W, cur, h, _ => by simpa [segL, World.setCells] using h
  | v :: vs, o, W, cur, h, hl => by
    rw [List.length_cons] at hl
    have h1 := blk_set (o := o) h v
    have h2 := setCells_blk vs (o + 1) (W.setCell ⟨g, o, none⟩ v) (cur.setIfInBounds o v) h1 (by simp; omega)
    rw [World.setCells, h2]
    rw [show (cur.setIfInBounds o v).toList = cur.toList.set o v by simp, segL_cons _ _ _ _ (by simp; omega)]
theorem setCells_but {g : Nat} : ∀ (vs : List Value) (o : Nat) (W : World), But (fun k => k = g) W (W.setCells g o vs)
  | [], _, W => But.refl _ W
  | v :: vs, o, W => ((But.refl (fun k => k = g) W).setCell ⟨g, o, none⟩ v (.inr rfl)).trans (setCells_but vs (o + 1) _)
theorem run_copy_cellsK {P : Program} (w : World) (dT sT ty elem : TypeId) (k b o dLen dCap : Nat) (a : Addr) (sLen sCap : Nat) (cs : List Value) (m : Nat)
    (hu : P.underlying dT = some (.slice elem)) (hs : (P.info? elem).map (·.size) = some k) (hn : m = Nat.min sLen dLen) (hm : cs.length = m * k)
    (hsrc : ∀ j v, cs[j]? = some v → w.cell? (a.add j) = some v) (hc : ∀ j, j < cs.length → (w.cell? ⟨b, o + j, none⟩).isSome = true) (hf : ∀ j, j < cs.length → w.frozen? ⟨b, o + j, none⟩ = false) (h1 : ∀ v ∈ cs, v.oneCell' = true) :
    (Builtin.copy_ #[dT, sT] ty #[.slice (some ⟨b, o, none⟩) dLen dCap, .slice (some a) sLen sCap]).run P w = .ok (goInt m) (w.setCells b o cs) := by
  have hl := run_loadCells_list (P := P) w a cs hsrc
  have hst := run_storeCells_cells (P := P) b o cs 0 w (by simpa using hc) (by simpa using hf) h1
  rw [hm] at hl
  cases hq : P.info? elem with
  | none => simp [hq] at hs
  | some i =>
    have hi : i.size = k := by simpa [hq] using hs
    simp [Builtin.copy_, run_underlying hu, Builtin.lenOf, Builtin.firstCells, sizeOf, typeInfo, hq, hi, ← hn, hl, hst]
/-- Where the last n * k cells have gone. -/
theorem seg_two {C xs nw : List Value} {a k N : Nat} (hC : C.take a = xs.take a) (ha : a ≤ xs.length) (hk : nw.length = k) (hN : xs.length + k = N) (hl : N ≤ C.length) : (segL (segL C (a + k) (xs.drop a)) a nw).take N = xs.take a ++ nw ++ xs.drop a := by
  unfold segL
  have e1 : (C.take (a + k) ++ xs.drop a ++ C.drop (a + k + (xs.drop a).length)).take a = xs.take a := by
    rw [List.append_assoc, List.take_append_of_le_length (by simp; omega), List.take_take, Nat.min_eq_left (by omega), hC]
  have e2 : (C.take (a + k) ++ xs.drop a ++ C.drop (a + k + (xs.drop a).length)).drop (a + nw.length) = xs.drop a ++ C.drop (a + k + (xs.drop a).length) := by
    rw [List.append_assoc, List.drop_append_of_le_length (by simp; omega), List.drop_of_length_le (by simp; omega), List.nil_append]
  rw [e1, e2, ← List.append_assoc, List.take_append_of_le_length (by simp; omega), List.take_of_length_le (by simp; omega)]
theorem seg_two' {C xs nw : List Value} {a k N : Nat} (hC : C.take a = xs.take a) (ha : a ≤ xs.length) (hk : nw.length = k) (hN : xs.length + k = N) (hl : N ≤ C.length) : (segL (segL C a nw) (a + k) (xs.drop a)).take N = xs.take a ++ nw ++ xs.drop a := by
  unfold segL
  have e1 : (C.take a ++ nw ++ C.drop (a + nw.length)).take (a + k) = xs.take a ++ nw := by
    rw [List.take_append_of_le_length (by simp; omega), List.take_of_length_le (by simp; omega), hC]
  rw [e1, List.take_append_of_le_length (by simp; omega), List.take_of_length_le (by simp; omega)]
end Go.Proofs.Ytjpbfckdiojghaa
