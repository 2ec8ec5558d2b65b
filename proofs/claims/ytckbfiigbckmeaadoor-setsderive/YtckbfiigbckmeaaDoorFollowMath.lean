/- Follow: one item after another. -/
import Derived.Test.YtckbfiigbckmeaaDoorAheadMath
namespace Go.Proofs.YtckbfiigbckmeaaDoor
open Go.RowKit

def FolP (f : Fl) : Nat → Int → Prop := Fol (EmpP f) (FstP f) f.terms.length f.gr
theorem beg_lt {emp : Nat → Prop} {fst : Nat → Int → Prop} {n : Nat} (hf : ∀ s t, fst s t → 0 ≤ t ∧ t < n) {l : List Nat} {t : Int} (h : Beg emp fst (fun _ => False) l t) : 0 ≤ t ∧ t < n := by
  induction h with
  | here h => exact hf _ _ h
  | next _ _ ih => exact ih
  | behind h => exact h.elim
theorem fol_le {f : Fl} {s : Nat} {t : Int} (h : FolP f s t) : 0 ≤ t ∧ t < (f.terms.length + 1 : Nat) := by
  induction h with
  | last => omega
  | first _ _ hb => have := beg_lt (n := f.terms.length) (fun s t h => fst_lt h) hb; omega
  | left _ _ _ _ ih => exact ih

/-- An item at place k is kept. -/
def ClosedI (f : Fl) (R : List (List Int)) (l : Nat) (sy : List Nat) (k : Nat) : Prop :=
  ∀ x, sy[k]? = some x → f.terms.length ≤ x → ∀ t, Beg (EmpP f) (FstP f) (fun t => t ∈ rowAt R l) (sy.drop (k + 1)) t → t ∈ rowAt R x
theorem closedO_of {f : Fl} {R : List (List Int)} {l : Nat} {sy : List Nat} (hR : R.length = f.n) (hl : l < f.n) (hsy : ∀ x ∈ sy, x < f.n) (h : ∀ k, k < sy.length → ClosedI f R l sy k) : ClosedO (EmpP f) (FstP f) f.terms.length R (l, sy) := by
  intro pre x post hp hx t ht
  simp only at hp ht
  have hxn : x < f.n := hsy x (by rw [hp]; simp)
  rw [inR_row (by rw [hR]; exact hxn)]
  refine h pre.length (by rw [hp]; simp) x (by rw [hp]; simp) hx t ?_
  have hd : sy.drop (pre.length + 1) = post := by
    rw [hp, show pre.length + 1 = (pre ++ [x]).length by simp, show pre ++ x :: post = (pre ++ [x]) ++ post by simp, List.drop_left]
  rw [hd]
  exact beg_mono (fun _ _ h => h) (fun t h => (inR_row (by rw [hR]; exact hl)).1 h) ht

/-- Follow's state. -/
structure StO (f : Fl) (R : List (List Int)) : Prop where
  ok : OkR (FolP f) f.n R
  basic : InR R f.terms.length f.terms.length

/-- What a round has come to, within production j, ahead of its item k. -/
def RoundI (f : Fl) (R R' : List (List Int)) (b : Bool) (j : Nat) (l : Nat) (sy : List Nat) (k : Nat) : Prop :=
  bulk R ≤ bulk R' ∧ (b = true → bulk R < bulk R') ∧ (b = false → R' = R ∧ (∀ q ∈ f.gr.take j, ClosedO (EmpP f) (FstP f) f.terms.length R q) ∧ ∀ i, i < k → ClosedI f R l sy i)
theorem RoundI.start {f : Fl} {R R' b j} {l : Nat} {sy : List Nat} (h : RoundR (ClosedO (EmpP f) (FstP f) f.terms.length) f.gr R R' b j) : RoundI f R R' b j l sy 0 :=
  ⟨h.1, h.2.1, fun e => ⟨(h.2.2 e).1, (h.2.2 e).2, fun i hi => by omega⟩⟩
theorem RoundI.done {f : Fl} {R R' b j} {l : Nat} {sy : List Nat} (h : RoundI f R R' b j l sy sy.length) (htk : f.gr.take (j + 1) = f.gr.take j ++ [(l, sy)]) (hst : StO f R') (hl : l < f.n) (hsy : ∀ x ∈ sy, x < f.n) : RoundR (ClosedO (EmpP f) (FstP f) f.terms.length) f.gr R R' b (j + 1) := by
  refine ⟨h.1, h.2.1, fun e => ⟨(h.2.2 e).1, fun q hq => ?_⟩⟩
  rw [htk] at hq
  rcases List.mem_append.1 hq with hq | hq
  · exact (h.2.2 e).2.1 q hq
  · simp at hq
    subst hq
    have e1 := (h.2.2 e).1
    exact closedO_of (by rw [← e1]; exact hst.ok.len) hl hsy (fun k hk => (h.2.2 e).2.2 k hk)
theorem RoundI.skip {f : Fl} {R R' b j} {l k : Nat} {sy : List Nat} (h : RoundI f R R' b j l sy k) (hx : ∀ x, sy[k]? = some x → x < f.terms.length) : RoundI f R R' b j l sy (k + 1) := by
  refine ⟨h.1, h.2.1, fun e => ⟨(h.2.2 e).1, (h.2.2 e).2.1, fun i hi => ?_⟩⟩
  by_cases hik : i = k
  · subst hik
    intro x h1 h2
    have := hx x h1
    omega
  · exact (h.2.2 e).2.2 i (by omega)
theorem RoundI.step {f : Fl} {R R' b j} {l k x nl : Nat} {sy : List Nat} {A B : List Int} (h : RoundI f R R' b j l sy k) (hst : StO f R') (hg : (l, sy) ∈ f.gr) (hk : sy[k]? = some x) (hx : f.terms.length ≤ x) (hxn : x < f.n) (hl : l < f.n)
    (hB : ∀ t, t ∈ B ↔ Beg (EmpP f) (FstP f) (fun t => t ∈ rowAt R' l) (sy.drop (k + 1)) t) (hA : unionL (rowAt R' x) B = A) (hnl : (rowAt R' x).length = nl) :
    StO f (R'.set x A) ∧ RoundI f R (R'.set x A) (b || decide ((nl : Int) < A.length)) j l sy (k + 1) := by
  have hxl : x < R'.length := by rw [hst.ok.len]; exact hxn
  have hkl : k < sy.length := (List.getElem?_eq_some_iff.1 hk).1
  have hkx : sy[k] = x := (List.getElem?_eq_some_iff.1 hk).2
  have hb := bulk_set_row (A := A) hxl
  have hle := (length_unionL (rowAt R' x) B).1
  rw [hA, hnl] at hle
  rw [hnl] at hb
  have hrise : Rising A := by rw [← hA]; exact rising_unionL (hst.ok.rise x)
  have hsub : ∀ t ∈ A, FolP f x t := by
    intro t ht
    rw [← hA] at ht
    rcases mem_unionL.1 ht with ht | ht
    · exact hst.ok.sound x hxn t ht
    · have hbeg := (hB t).1 ht
      have e : sy = sy.take k ++ x :: sy.drop (k + 1) := by rw [← hkx, ← List.drop_eq_getElem_cons hkl, List.take_append_drop]
      exact fol_beg (l := l) (pre := sy.take k) (post := sy.drop (k + 1)) (by rw [← e]; exact hg) hx (beg_mono (fun _ _ h => h) (fun t h => hst.ok.sound l hl t h) hbeg)
  have hnx : f.terms.length = x ∨ f.terms.length ≠ x := by omega
  refine ⟨⟨hst.ok.set hxn hrise hsub, ?_⟩, by have := h.1; omega, fun e => ?_, fun e => ?_⟩
  · rw [inR_set hxl]
    rcases hnx with e | e
    · refine .inl ⟨e, ?_⟩
      rw [← hA]
      refine mem_unionL.2 (.inl ?_)
      have := hst.basic
      rw [inR_row (by rw [e]; exact hxl)] at this
      rw [e] at this ⊢
      exact this
    · exact .inr ⟨e, hst.basic⟩
  · rw [Bool.or_eq_true, decide_eq_true_eq] at e
    rcases e with e | e
    · have := h.2.1 e; omega
    · have := h.1; omega
  · rw [Bool.or_eq_false_iff, decide_eq_false_iff_not] at e
    obtain ⟨e1, e2, e3⟩ := h.2.2 e.1
    have hsubA : ∀ t ∈ B, t ∈ rowAt R' x := sub_of_length_unionL (hst.ok.rise x) (by rw [hA, hnl]; omega)
    have hAx : A = rowAt R' x := by rw [← hA]; exact unionL_of_sub (hst.ok.rise x) hsubA
    have hR2 : R'.set x A = R' := by rw [hAx]; exact set_rowAt hxl
    refine ⟨by rw [hR2, e1], e2, fun i hi => ?_⟩
    by_cases hik : i = k
    · subst hik
      intro y h1 h2 t ht
      rw [hk] at h1
      cases h1
      rw [← e1] at ht ⊢
      exact hsubA t ((hB t).2 ht)
    · exact e3 i (by omega)
theorem symsN_all {N : Nat} {l : List It} (h : ∀ x ∈ l, 0 ≤ x.sym ∧ x.sym < N) : symsN N l = l.map fun x => x.sym.toNat := by
  unfold symsN
  rw [List.filter_eq_self.2]
  intro x hx
  have := h x hx
  simp
  omega
end Go.Proofs.YtckbfiigbckmeaaDoor
