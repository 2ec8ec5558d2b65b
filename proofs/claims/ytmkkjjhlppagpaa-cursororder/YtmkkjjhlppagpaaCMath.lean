/- Where one comes from a node: down, up, aside, to a field. -/
import Derived.Test.YtmkkjjhlppagpaaCTold
namespace Go.Proofs.Ytmkkjjhlppagpaa
open Go.RowKit

theorem findN_snoc (i : Int) : ∀ (q : List Int) (t : Nd), findN t (q ++ [i]) = match findN t q with
    | some x => if h : 0 ≤ i ∧ i.toNat < x.kids.length then some x.kids[i.toNat] else none
    | none => none
  | [], t => by
    rw [List.nil_append, findN, findN]
    simp only [findN]
  | k :: q, t => by
    rw [List.cons_append]
    by_cases h : 0 ≤ k ∧ k.toNat < t.kids.length
    · rw [findN_yes h.1 h.2, findN_yes h.1 h.2, findN_snoc i q]
    · rw [findN_no h, findN_no h]
theorem findN_len : ∀ (p : List Int) (t x : Nd), findN t p = some x → p.length + cntN x ≤ cntN t
  | [], t, x, h => by simp [findN] at h; subst h; simp
  | k :: p, t, x, h => by
    by_cases hk : 0 ≤ k ∧ k.toNat < t.kids.length
    · rw [findN_yes hk.1 hk.2] at h
      have h1 := findN_len p _ _ h
      have h2 := cntN_kid hk.2
      simp only [List.length_cons]
      omega
    · rw [findN_no hk] at h; cases h
/-- Whether a node has a kid at a place. -/
def hasI (x : Nd) (i : Int) : Bool := decide (0 ≤ i ∧ i < x.kids.length)
theorem hasI_iff {x : Nd} {i : Int} : hasI x i = true ↔ 0 ≤ i ∧ i.toNat < x.kids.length := by unfold hasI; simp; omega
theorem findN_snoc_some {t : Nd} {q : List Int} {i : Int} : (findN t (q ++ [i])).isSome = match findN t q with
    | some x => hasI x i
    | none => false := by
  rw [findN_snoc]
  cases findN t q with
  | none => rfl
  | some x =>
    simp only
    by_cases h : 0 ≤ i ∧ i.toNat < x.kids.length
    · rw [dif_pos h, hasI_iff.2 h]; rfl
    · rw [dif_neg h]
      cases hh : hasI x i with
      | true => exact absurd (hasI_iff.1 hh) h
      | false => rfl
def downN (t : Nd) (p : List Int) : Option (List Int) := match findN t p with
  | some x => if hasI x 0 then some (p ++ [0]) else none
  | none => none
def upN (t : Nd) (p : List Int) : Option (List Int) := if (findN t p).isSome = true ∧ p ≠ [] then some p.dropLast else none
def asideN (t : Nd) (p : List Int) (d : Int) : Option (List Int) := match p.getLast? with
  | none => none
  | some i => match findN t p.dropLast with
    | none => none
    | some x => if hasI x i = true ∧ hasI x (i + d) = true then some (p.dropLast ++ [i + d]) else none
def fieldI (x : Nd) (f : ByteArray) : Option Nat := x.kids.findIdx? (fun k => decide (k.h.field = f))
def fieldN (t : Nd) (p : List Int) (f : ByteArray) : Option (List Int) := match findN t p with
  | none => none
  | some x => (fieldI x f).map (fun (i : Nat) => p ++ [(i : Int)])
theorem asideN_snoc (t : Nd) (q : List Int) (i d : Int) : asideN t (q ++ [i]) d = match findN t q with
    | none => none
    | some x => if hasI x i = true ∧ hasI x (i + d) = true then some (q ++ [i + d]) else none := by
  unfold asideN
  rw [List.getLast?_concat, List.dropLast_concat]
theorem snoc_of (p : List Int) (h : p ≠ []) : ∃ q i, p = q ++ [i] := ⟨p.dropLast, p.getLast h, (List.dropLast_concat_getLast h).symm⟩
/-- What a function of paths tells: a path of its own, or none. -/
def GivesP (B : Nat) (r : Option (List Int)) (e : Ending) (W : World) : Prop := ∃ v, e = .returned (.tuple #[v, .bool r.isSome]) ∧ OwnI B (r.getD []) v W
theorem GivesP.none {B : Nat} {W : World} : GivesP B none (.returned (.tuple #[.slice none 0 0, .bool false])) W := ⟨_, rfl, World.ownsRow_nil _ _ _ _⟩
theorem GivesP.some {B : Nat} {l : List Int} {v : Value} {W : World} (h : OwnI B l v W) : GivesP B (some l) (.returned (.tuple #[v, .bool true])) W := ⟨v, rfl, h⟩
/-- A row of one number, just laid. -/
theorem SlP.one {W : World} (i : Int) : SlP [i] (.slice (some ⟨W.heap.size, 0, none⟩) 1 1) (W.alloc (Obj.cells #[.int .i64 i] 3)) :=
  ⟨_, 1, rfl, fun k x hx => ⟨W.heap.size, 0, rfl, by simp, by
    match k, hx with
    | 0, hx => simp at hx; subst hx; simp⟩, (fun h => by cases h), by simp, by omega⟩
theorem SlP.but {l : List Int} {v : Value} {W W' : World} {D : Nat → Prop} (h : SlP l v W) (hb : But D W W') (hd : ∀ k, v.ownBlock = .some k → ¬ D k) : SlP l v W' := by
  obtain ⟨ao, c, e, h1, h2⟩ := h
  refine ⟨ao, c, e, fun i x hx => ?_, h2⟩
  obtain ⟨b, off, e1, h3, h4⟩ := h1 i x hx
  exact ⟨b, off, e1, Nat.lt_of_lt_of_le h3 hb.size, (hb.cell (p := ⟨b, off + i, none⟩) h3 (hd b (by rw [e, e1]; rfl))).trans h4⟩
/-- A row cut behind some of its numbers. -/
theorem RowI.take {l : List Int} {ao : Option Addr} {W : World} (h : RowI l ao W) (n : Nat) : RowI (l.take n) ao W := fun i x hx => by
  rw [List.getElem?_take] at hx
  split at hx
  · exact h i x hx
  · cases hx
end Go.Proofs.Ytmkkjjhlppagpaa
