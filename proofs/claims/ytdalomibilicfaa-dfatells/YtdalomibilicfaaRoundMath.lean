/- Classes of states: the rounds one after another. -/
import Derived.Test.YtdalomibilicfaaPEqual
namespace Go.Proofs.Ytdalomibilicfaa
open Go.RowKit

theorem behB_len : ∀ (l : List Int) (b : Int), behB b l ≤ b + l.length
  | [], b => by unfold behB; simp
  | x :: l, b => by
    unfold behB
    have := behB_len l (if x = b then b + 1 else b)
    simp only [List.length_cons]
    split at this <;> split <;> omega
theorem Cls.small {l : List Ds} {k : Nat} {c : List Int} (h : Cls l k c) (hn : l.length ≤ 10000) : ∀ x ∈ c, 0 ≤ x ∧ x < 50000 := by
  intro x hx
  have h1 := (growB_all c 1 h.grow).1 x hx
  have h2 := behB_len c 1
  have h3 := h.len
  exact ⟨h.pos x hx, by omega⟩
theorem key_dead (l : List Ds) (c : List Int) : keyA l c (-1) = [0] := rfl
theorem key_letA {l : List Ds} (hf : fitD l) {c : List Int} (h : ∀ x ∈ c, 0 ≤ x ∧ x < 50000) {a : Int} (ha : okS l.length a) : ∀ x ∈ keyA l c a, letB x := key_let h (upA_all hf ha) a
theorem refL_cls {l : List Ds} (hf : fitD l) (hn : l.length ≤ 10000) {k : Nat} {c : List Int} (h : Cls l k c) : Cls l (k + 1) (refL l c) := by
  refine cls_next hf runesBytes h (fun a b ha hb he => runes_inj (key_letA hf (h.small hn) ha) (key_letA hf (h.small hn) hb) he) ?_
  unfold refL
  rw [keysL_all, key_dead, List.map_map]
  rfl
theorem fitD.all {l : List Ds} (hf : fitD l) (ha : ∀ s ∈ l, s.arcs.length ≤ 100000) : ∀ s ∈ l, upA s.arcs 0 ∧ s.arcs.length ≤ 100000 ∧ ∀ x ∈ s.arcs, 0 ≤ x.tg ∧ x.tg < l.length := fun s hs => ⟨(hf.arcs s hs).1, ha s hs, (hf.arcs s hs).2⟩
/-- What was handed out, each with all ahead of it. -/
abbrev Hy := List (Value × List Int)
def initsH (H : Hy) : List Hy := (List.range H.length).map fun i => H.take (i + 1)
theorem initsH_snoc (H : Hy) (y : Value × List Int) : initsH (H ++ [y]) = initsH H ++ [H ++ [y]] := by
  unfold initsH
  rw [List.length_append, List.length_cons, List.length_nil, List.range_succ, List.map_append]
  congr 1
  · apply List.map_congr_left
    intro i hi
    have := List.mem_range.1 hi
    rw [List.take_append_of_le_length (by omega)]
  · simp only [List.map_cons, List.map_nil]
    rw [List.take_of_length_le (by simp)]
theorem initsH_len (H : Hy) : (initsH H).length = H.length := by unfold initsH; simp
theorem initsH_cut {H : Hy} {pre : List Hy} {x : Hy} (h : pre ++ [x] = initsH H) : ∃ H' y, H = H' ++ [y] ∧ pre = initsH H' ∧ x = H' ++ [y] := by
  rcases List.eq_nil_or_concat H with rfl | ⟨H', y, rfl⟩
  · simp [initsH] at h
  · rw [List.concat_eq_append, initsH_snoc] at h
    obtain ⟨h1, h2⟩ := List.append_inj' h rfl
    simp at h2
    exact ⟨H', y, by simp, h1, h2⟩
/-- Each is of its round. -/
def ChH (l : List Ds) (H : Hy) : Prop := ∀ (i : Nat) y, H[i]? = some y → Cls l i y.2
theorem ChH.snoc {l : List Ds} {H : Hy} (h : ChH l H) {y : Value × List Int} (hy : Cls l H.length y.2) : ChH l (H ++ [y]) := by
  intro i z hz
  by_cases hi : i < H.length
  · rw [List.getElem?_append_left hi] at hz; exact h i z hz
  · rw [List.getElem?_append_right (by omega)] at hz
    have h1 := (List.getElem?_eq_some_iff.1 hz).1
    simp at h1
    obtain rfl : i = H.length := by omega
    simp at hz
    subst hz; exact hy
/-- The last of them; nothing ahead of the first one. -/
def lastV (H : Hy) : Value := ((H.getLast?).map Prod.fst).getD (.slice none 0 0)
def lastC (H : Hy) : List Int := ((H.getLast?).map Prod.snd).getD []
theorem lastV_snoc (H : Hy) (y : Value × List Int) : lastV (H ++ [y]) = y.1 ∧ lastC (H ++ [y]) = y.2 := by
  unfold lastV lastC
  simp
end Go.Proofs.Ytdalomibilicfaa
