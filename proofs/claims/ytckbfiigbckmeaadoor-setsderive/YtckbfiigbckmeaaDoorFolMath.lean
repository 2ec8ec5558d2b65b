/- Follow: what one production does to the sets, from its last item on. -/
import Derived.Test.YtckbfiigbckmeaaDoorBegMath
namespace Go.Proofs.YtckbfiigbckmeaaDoor
open Go.RowKit

/-- Follow's sets. -/
structure StO2 (f : Fl) (m : Nat) (O : List (List Nat)) : Prop where
  ok : WOk m f.n O
  sound : ∀ s, s < f.n → ∀ t, t ∈ listW (WR O s) → FolP f s t
  basic : (f.terms.length : Int) ∈ listW (WR O f.terms.length)
def ClosO (f : Fl) (O : List (List Nat)) (q : Nat × List Nat) : Prop := ∀ pre x post, q.2 = pre ++ x :: post → f.terms.length ≤ x → ∀ t, Beg (EmpP f) (FstP f) (fun t => t ∈ listW (WR O q.1)) post t → t ∈ listW (WR O x)
/-- Within a production, its last k items being done. -/
structure FI (f : Fl) (m : Nat) (O0 : List (List Nat)) (l : Nat) (sy : List Nat) (k : Nat) (O : List (List Nat)) (B : List Nat) (g : Bool) : Prop where
  st : StO2 f m O
  bw : Words m B
  bm : ∀ t, t ∈ listW B ↔ Beg (EmpP f) (FstP f) (fun t => t ∈ listW (WR O0 l)) (sy.drop (sy.length - k)) t
  closed : ∀ i x, sy.length - k ≤ i → sy[i]? = some x → f.terms.length ≤ x → ∀ t, Beg (EmpP f) (FstP f) (fun t => t ∈ listW (WR O0 l)) (sy.drop (i + 1)) t → t ∈ listW (WR O x)
  no : g = false → O = O0
  yes : g = true → bulkW O0 < bulkW O
  le : bulkW O0 ≤ bulkW O
theorem FI.start {f m O0 l sy} (h : StO2 f m O0) (hl : l < f.n) : FI f m O0 l sy 0 O0 (WR O0 l) false := by
  refine ⟨h, h.ok.words l hl, fun t => ?_, fun i x hi hx => ?_, (fun _ => rfl), (fun h => by cases h), Nat.le_refl _⟩
  · rw [Nat.sub_zero, List.drop_length]
    exact ⟨.behind, fun h => by cases h with | behind h => exact h⟩
  · rw [List.getElem?_eq_none (by omega)] at hx; cases hx
theorem set_WR {O : List (List Nat)} {x : Nat} : O.set x (WR O x) = O := by
  apply List.ext_getElem (by simp)
  intro i h1 h2
  rw [List.getElem_set]
  split
  · rename_i hi; subst hi; unfold WR; rw [List.getD_eq_getElem?_getD, List.getElem?_eq_getElem h2]; rfl
  · rfl
/-- The item's set joined. -/
def folO (f : Fl) (O : List (List Nat)) (B : List Nat) (x : Nat) : List (List Nat) := if f.terms.length ≤ x then O.set x (orW (WR O x) B) else O
def folG (f : Fl) (O : List (List Nat)) (B : List Nat) (g : Bool) (x : Nat) : Bool := if f.terms.length ≤ x then (newW (WR O x) B || g) else g
def folB (F : Nat → List Nat) (E : Nat → Bool) (m : Nat) (B : List Nat) (x : Nat) : List Nat := orW (if E x then B else List.replicate m 0) (F x)
theorem FI.step {f m O0 l sy k O B g x} {F : Nat → List Nat} {E : Nat → Bool} (h : FI f m O0 l sy k O B g) (h0 : StO2 f m O0) (hl : l < f.n) (hg : (l, sy) ∈ f.gr) (hk : k < sy.length) (hx : sy[sy.length - 1 - k]? = some x) (hxn : x < f.n)
    (hF : Words m (F x)) (hFm : ∀ t, t ∈ listW (F x) ↔ FstP f x t) (hE : E x = true ↔ EmpP f x) : FI f m O0 l sy (k + 1) (folO f O B x) (folB F E m B x) (folG f O B g x) := by
  have hxO : x < O.length := by rw [h.st.ok.len]; exact hxn
  have hd : sy.drop (sy.length - (k + 1)) = x :: sy.drop (sy.length - k) := by
    have hi : sy.length - 1 - k < sy.length := by omega
    have e : sy[sy.length - 1 - k] = x := by rw [List.getElem?_eq_getElem hi] at hx; exact Option.some.inj hx
    rw [show sy.length - (k + 1) = sy.length - 1 - k by omega, List.drop_eq_getElem_cons hi, e, show sy.length - 1 - k + 1 = sy.length - k by omega]
  have hsy : sy = sy.take (sy.length - 1 - k) ++ x :: sy.drop (sy.length - k) := by
    rw [← hd, show sy.length - (k + 1) = sy.length - 1 - k by omega, List.take_append_drop]
  have hwx := h.st.ok.words x hxn
  -- what is joined
  have hmem : ∀ s t, t ∈ listW (WR (folO f O B x) s) ↔ t ∈ listW (WR O s) ∨ (s = x ∧ f.terms.length ≤ x ∧ t ∈ listW B) := fun s t => by
    unfold folO
    split
    · rename_i hT
      rw [WR_set hxO]
      split
      · rename_i e; subst e
        rw [listW_or hwx h.bw, mem_unionL]
        simp [hT]
      · rename_i e
        exact ⟨.inl, fun h => h.elim id (fun h => absurd h.1.symm e)⟩
    · rename_i hT
      exact ⟨.inl, fun h => h.elim id (fun h => absurd h.2.1 hT)⟩
  have hbl : bulkW O ≤ bulkW (folO f O B x) := by
    unfold folO
    split
    · have e := bulkW_set (R := O) (l := x) (A := orW (WR O x) B) hxO
      have := (length_unionL (listW (WR O x)) (listW B)).1
      rw [← listW_or hwx h.bw] at this
      omega
    · exact Nat.le_refl _
  refine ⟨⟨?_, fun s hs t ht => ?_, ?_⟩, ?_, fun t => ?_, fun i y hi hy hT t ht => ?_, fun hgf => ?_, fun hgt => ?_, Nat.le_trans h.le hbl⟩
  · unfold folO
    split
    · exact h.st.ok.set hxn (hwx.or h.bw)
    · exact h.st.ok
  · rcases (hmem s t).1 ht with ht | ⟨rfl, hT, ht⟩
    · exact h.st.sound s hs t ht
    · have hb := (h.bm t).1 ht
      have hb2 : Beg (EmpP f) (FstP f) (Fol (EmpP f) (FstP f) f.terms.length f.gr l) (sy.drop (sy.length - k)) t := beg_mono (fun _ _ h => h) (fun t ht => h0.sound l hl t ht) hb
      refine fol_beg (pre := sy.take (sy.length - 1 - k)) (l := l) ?_ hT hb2
      rw [← hsy]; exact hg
  · exact (hmem _ _).2 (.inl h.st.basic)
  · unfold folB
    split
    · exact h.bw.or hF
    · exact (words_zero m).or hF
  · rw [hd]
    have e : t ∈ listW (folB F E m B x) ↔ FstP f x t ∨ (EmpP f x ∧ t ∈ listW B) := by
      unfold folB
      split
      · rename_i hEx
        rw [listW_or h.bw hF, mem_unionL, hFm]
        have := hE.1 hEx
        exact ⟨fun h => h.elim (fun h => .inr ⟨this, h⟩) .inl, fun h => h.elim .inr (fun h => .inl h.2)⟩
      · rename_i hEx
        rw [listW_or (words_zero m) hF, mem_unionL, hFm, listW_zero]
        exact ⟨fun h => h.elim (fun h => by cases h) .inl, fun h => h.elim .inr (fun h => absurd (hE.2 h.1) hEx)⟩
    rw [e]
    constructor
    · rintro (h' | h')
      · exact .here h'
      · exact .next h'.1 ((h.bm t).1 h'.2)
    · intro h'
      cases h' with
      | here h' => exact .inl h'
      | next h1 h2 => exact .inr ⟨h1, (h.bm t).2 h2⟩
  · by_cases hik : i = sy.length - 1 - k
    · subst hik
      rw [hx] at hy; cases hy
      rw [show sy.length - 1 - k + 1 = sy.length - k by omega] at ht
      exact (hmem _ _).2 (.inr ⟨rfl, hT, (h.bm t).2 ht⟩)
    · exact (hmem _ _).2 (.inl (h.closed i y (by omega) hy hT t ht))
  · unfold folG at hgf
    unfold folO
    split
    · rename_i hT
      rw [if_pos hT] at hgf
      simp only [Bool.or_eq_false_iff] at hgf
      rw [newW_false hgf.1, set_WR]
      exact h.no hgf.2
    · rename_i hT
      rw [if_neg hT] at hgf
      exact h.no hgf
  · unfold folG at hgt
    split at hgt
    · rename_i hT
      simp only [Bool.or_eq_true] at hgt
      rcases hgt with hgt | hgt
      · have e := bulkW_set (R := O) (l := x) (A := orW (WR O x) B) hxO
        rw [newW_iff hwx h.bw, decide_eq_true_eq, ← listW_or hwx h.bw] at hgt
        have := h.le
        unfold folO
        rw [if_pos hT]
        omega
      · have := h.yes hgt; omega
    · have := h.yes hgt; omega
theorem FI.done {f m O0 l sy O B} (h : FI f m O0 l sy sy.length O B false) : O = O0 ∧ ClosO f O0 (l, sy) := by
  have e := h.no rfl
  refine ⟨e, fun pre x post hp hT t ht => ?_⟩
  simp only at hp ht
  have := h.closed pre.length x (by omega) (by rw [hp]; simp) hT t (by
    rw [hp, show pre.length + 1 = (pre ++ [x]).length by simp, show pre ++ x :: post = (pre ++ [x]) ++ post by simp, List.drop_left]
    exact ht)
  rw [e] at this
  exact this
theorem StO2.gives {f : Fl} {m : Nat} {O : List (List Nat)} (h : StO2 f m O) (hc : ∀ q ∈ f.gr, ClosO f O q) : GivesR (FolP f) f.n (O.map listW) := by
  refine ⟨by rw [List.length_map]; exact h.ok.len, fun l hl => ?_, fun s hs t => ?_⟩
  · obtain ⟨ws, _, rfl⟩ := List.mem_map.1 hl
    exact rising_listW ws
  · have hs' : s < O.length := by rw [h.ok.len]; exact hs
    rw [inR_get (by simpa using hs'), List.getElem_map]
    have e : WR O s = O[s] := by unfold WR; rw [List.getD_eq_getElem?_getD, List.getElem?_eq_getElem hs']; rfl
    rw [← e]
    refine ⟨h.sound s hs t, fun hf => ?_⟩
    clear hs hs' e
    induction hf with
    | last => exact h.basic
    | first hm hx hbeg => exact hc _ hm _ _ _ rfl hx _ (beg_mono (fun _ _ h => h) (fun _ h => h.elim) hbeg)
    | left hm hx he _ ih => exact hc _ hm _ _ _ rfl hx _ (beg_iff.2 (Or.inr ⟨he, ih⟩))
end Go.Proofs.YtckbfiigbckmeaaDoor
