/- What one production does to sets of words: First and Follow. -/
import Derived.Test.YtckbfiigbckmeaaDoorBitMath
import Derived.Test.YtckbfiigbckmeaaDoorFollowMath
namespace Go.Proofs.YtckbfiigbckmeaaDoor
open Go.RowKit

/-- The set of symbol s. -/
def WR (R : List (List Nat)) (s : Nat) : List Nat := R.getD s []
theorem WR_set {R : List (List Nat)} {l s : Nat} {A : List Nat} (hl : l < R.length) : WR (R.set l A) s = if l = s then A else WR R s := by
  unfold WR
  rw [List.getD_eq_getElem?_getD, List.getD_eq_getElem?_getD, List.getElem?_set]
  split
  · rename_i h; subst h; simp
  · rfl
structure WOk (m N : Nat) (R : List (List Nat)) : Prop where
  len : R.length = N
  words : ∀ s, s < N → Words m (WR R s)
theorem WOk.set {m N R} (h : WOk m N R) {l : Nat} {A : List Nat} (hl : l < N) (hA : Words m A) : WOk m N (R.set l A) := by
  refine ⟨by rw [List.length_set]; exact h.len, fun s hs => ?_⟩
  rw [WR_set (by rw [h.len]; exact hl)]
  split
  · exact hA
  · exact h.words s hs
/-- How much is in all sets together. -/
def bulkW (R : List (List Nat)) : Nat := bulk (R.map listW)
theorem bulkW_set {R : List (List Nat)} {l : Nat} {A : List Nat} (hl : l < R.length) : bulkW (R.set l A) + (listW (WR R l)).length = bulkW R + (listW A).length := by
  unfold bulkW WR
  rw [List.map_set]
  have := bulk_set (R := R.map listW) (s := l) (l := listW A) (by simpa using hl)
  rw [List.getElem_map] at this
  rw [List.getD_eq_getElem?_getD, List.getElem?_eq_getElem hl]
  exact this
theorem listW_length {m : Nat} {ws : List Nat} (h : Words m ws) : (listW ws).length ≤ 64 * m := by
  have := listTo_length ws.length ws
  rw [h.1] at this
  unfold listW
  rw [h.1]
  exact this
theorem bulkW_max {m N R} (h : WOk m N R) : bulkW R ≤ N * (64 * m) := by
  have := bulk_le (R := R.map listW) (k := 64 * m) (fun l hl => by
    obtain ⟨i, hi, rfl⟩ := List.getElem_of_mem hl
    rw [List.getElem_map]
    have hi' : i < R.length := by simpa using hi
    have := h.words i (by rw [← h.len]; exact hi')
    unfold WR at this
    rw [List.getD_eq_getElem?_getD, List.getElem?_eq_getElem hi'] at this
    exact listW_length this)
  rw [List.length_map, h.len] at this
  exact this

/-- Sets joined into one, up to the first symbol that can't be empty: the set, whether it has grown, whether all can be empty. -/
def begW (F : Nat → List Nat) (E : Nat → Bool) : List Nat → List Nat → List Nat × Bool × Bool
  | A, [] => (A, false, true)
  | A, x :: xs => if E x then ((begW F E (orW A (F x)) xs).1, newW A (F x) || (begW F E (orW A (F x)) xs).2.1, (begW F E (orW A (F x)) xs).2.2) else (orW A (F x), newW A (F x), false)
theorem begW_words {F E m} : ∀ {sy : List Nat} {A : List Nat}, Words m A → (∀ x ∈ sy, Words m (F x)) → Words m (begW F E A sy).1
  | [], A, h, _ => h
  | x :: xs, A, h, hF => by
    have h1 := h.or (hF x (by simp))
    rw [begW]
    split
    · exact begW_words h1 (fun y hy => hF y (by simp [hy]))
    · exact h1
theorem begW_mem {F E m} : ∀ {sy : List Nat} {A : List Nat}, Words m A → (∀ x ∈ sy, Words m (F x)) → ∀ t, t ∈ listW (begW F E A sy).1 ↔ t ∈ listW A ∨ Beg (fun x => E x = true) (fun x t => t ∈ listW (F x)) (fun _ => False) sy t
  | [], A, _, _ => fun t => by
    rw [begW]
    constructor
    · exact .inl
    · rintro (h | h)
      · exact h
      · cases h with | behind h => exact h.elim
  | x :: xs, A, h, hF => fun t => by
    have h1 := h.or (hF x (by simp))
    have e : t ∈ listW (orW A (F x)) ↔ t ∈ listW A ∨ t ∈ listW (F x) := by rw [listW_or h (hF x (by simp)), mem_unionL]
    rw [begW]
    split
    · rename_i hE
      simp only
      rw [begW_mem h1 (fun y hy => hF y (by simp [hy])), e]
      constructor
      · rintro ((h | h) | h)
        · exact .inl h
        · exact .inr (.here h)
        · exact .inr (.next hE h)
      · rintro (h | h)
        · exact .inl (.inl h)
        · cases h with
          | here h => exact .inl (.inr h)
          | next _ h => exact .inr h
    · rename_i hE
      simp only
      rw [e]
      constructor
      · rintro (h | h)
        · exact .inl h
        · exact .inr (.here h)
      · rintro (h | h)
        · exact .inl h
        · cases h with
          | here h => exact .inr h
          | next hE' _ => exact absurd hE' hE
theorem begW_through {F E} : ∀ {sy : List Nat} {A : List Nat}, (begW F E A sy).2.2 = sy.all E
  | [], A => by rw [begW]; rfl
  | x :: xs, A => by
    rw [begW]
    split
    · rename_i hE; simp only; rw [begW_through]; simp [hE]
    · rename_i hE; simp [hE]
theorem begW_no {F E} : ∀ {sy : List Nat} {A : List Nat}, (begW F E A sy).2.1 = false → (begW F E A sy).1 = A
  | [], A, _ => by rw [begW]
  | x :: xs, A, h => by
    rw [begW] at h ⊢
    split
    · rename_i hE
      rw [if_pos hE] at h
      simp only [Bool.or_eq_false_iff] at h
      have e := newW_false h.1
      simp only
      rw [e] at h ⊢
      exact begW_no h.2
    · rename_i hE
      rw [if_neg hE] at h
      exact newW_false h
theorem begW_len {F E m} : ∀ {sy : List Nat} {A : List Nat}, Words m A → (∀ x ∈ sy, Words m (F x)) → (listW A).length ≤ (listW (begW F E A sy).1).length ∧ ((begW F E A sy).2.1 = true → (listW A).length < (listW (begW F E A sy).1).length)
  | [], A, _, _ => by rw [begW]; exact ⟨Nat.le_refl _, fun h => by cases h⟩
  | x :: xs, A, h, hF => by
    have hx := hF x (by simp)
    have h1 := h.or hx
    have e1 : (listW A).length ≤ (listW (orW A (F x))).length := by rw [listW_or h hx]; exact (length_unionL _ _).1
    have e2 : newW A (F x) = true → (listW A).length < (listW (orW A (F x))).length := fun hn => by
      rw [newW_iff h hx, decide_eq_true_eq] at hn
      rw [listW_or h hx]; exact hn
    have ih := begW_len (E := E) (sy := xs) h1 (fun y hy => hF y (List.mem_cons_of_mem _ hy))
    rw [begW]
    split
    · simp only [Bool.or_eq_true]
      refine ⟨by omega, fun h => ?_⟩
      rcases h with h | h
      · have := e2 h; omega
      · have := ih.2 h; omega
    · exact ⟨e1, e2⟩
/-- A set that is within one joins nothing to it. -/
theorem within_orW {m : Nat} {A B : List Nat} (hA : Words m A) (hB : Words m B) (h : ∀ t, t ∈ listW B → t ∈ listW A) : newW A B = false ∧ orW A B = A := by
  have e : newW A B = false := by
    rw [newW_iff hA hB, decide_eq_false_iff_not, unionL_of_sub (rising_listW A) h]
    omega
  exact ⟨e, newW_false e⟩

/-! First -/
structure StW (f : Fl) (m : Nat) (R : List (List Nat)) : Prop where
  ok : WOk m f.n R
  sound : ∀ s, s < f.n → ∀ t, t ∈ listW (WR R s) → FstP f s t
  basic : ∀ t : Nat, t < f.terms.length → (t : Int) ∈ listW (WR R t)
def ClosF (f : Fl) (R : List (List Nat)) (q : Nat × List Nat) : Prop := ∀ pre x post, q.2 = pre ++ x :: post → (∀ y ∈ pre, EmpP f y) → ∀ t, t ∈ listW (WR R x) → t ∈ listW (WR R q.1)
theorem beg_split {emp : Nat → Prop} {fst : Nat → Int → Prop} {sy : List Nat} {t : Int} (h : Beg emp fst (fun _ => False) sy t) : ∃ pre x post, sy = pre ++ x :: post ∧ (∀ y ∈ pre, emp y) ∧ fst x t := by
  induction h with
  | here h => exact ⟨[], _, _, rfl, by simp, h⟩
  | next he _ ih =>
    obtain ⟨pre, x, post, rfl, h1, h2⟩ := ih
    exact ⟨_ :: pre, x, post, rfl, fun y hy => by rcases List.mem_cons.1 hy with rfl | hy; exact he; exact h1 y hy, h2⟩
  | behind h => exact h.elim
theorem beg_join {emp : Nat → Prop} {fst : Nat → Int → Prop} {pre : List Nat} {x : Nat} {post : List Nat} {t : Int} (h1 : ∀ y ∈ pre, emp y) (h2 : fst x t) : Beg emp fst (fun _ => False) (pre ++ x :: post) t := by
  induction pre with
  | nil => exact .here h2
  | cons y ys ih => exact .next (h1 y (by simp)) (ih (fun z hz => h1 z (by simp [hz])))
theorem StW.step {f : Fl} {m : Nat} {R : List (List Nat)} {E : Nat → Bool} {l : Nat} {sy : List Nat} (h : StW f m R) (hE : ∀ s, s < f.n → (E s = true ↔ EmpP f s)) (hg : (l, sy) ∈ f.gr) (hl : l < f.n) (hsy : ∀ x ∈ sy, x < f.n) :
    StW f m (R.set l (begW (WR R) E (WR R l) sy).1) ∧ ((begW (WR R) E (WR R l) sy).2.1 = true → bulkW R < bulkW (R.set l (begW (WR R) E (WR R l) sy).1)) ∧ ((begW (WR R) E (WR R l) sy).2.1 = false → R.set l (begW (WR R) E (WR R l) sy).1 = R ∧ ClosF f R (l, sy)) := by
  have hw := h.ok.words l hl
  have hF : ∀ x ∈ sy, Words m (WR R x) := fun x hx => h.ok.words x (hsy x hx)
  have hlR : l < R.length := by rw [h.ok.len]; exact hl
  have hA := begW_words (E := E) hw hF
  have hb := begW_mem (E := E) hw hF
  have hlen := begW_len (E := E) hw hF
  have hno := begW_no (F := WR R) (E := E) (sy := sy) (A := WR R l)
  generalize begW (WR R) E (WR R l) sy = r at *
  have hbk := bulkW_set (R := R) (l := l) (A := r.1) hlR
  refine ⟨⟨h.ok.set hl hA, fun s hs t ht => ?_, fun t ht => ?_⟩, fun hb' => ?_, fun hb' => ?_⟩
  · rw [WR_set hlR] at ht
    split at ht
    · rename_i e
      subst e
      rcases (hb t).1 ht with ht | ht
      · exact h.sound l hl t ht
      · obtain ⟨pre, x, post, rfl, h1, h2⟩ := beg_split ht
        exact .prod hg (fun y hy => (hE y (hsy y (by simp [hy]))).1 (h1 y hy)) (h.sound x (hsy x (by simp)) t h2)
    · exact h.sound s hs t ht
  · rw [WR_set hlR]
    split
    · rename_i e
      subst e
      exact (hb _).2 (.inl (h.basic _ ht))
    · exact h.basic t ht
  · have := hlen.2 hb'; omega
  · have e := hno hb'
    refine ⟨?_, fun pre x post hp he t ht => ?_⟩
    · rw [e]
      apply List.ext_getElem (by simp)
      intro i h1 h2
      rw [List.getElem_set]
      split
      · rename_i hi; subst hi; unfold WR; rw [List.getD_eq_getElem?_getD, List.getElem?_eq_getElem h2]; rfl
      · rfl
    · simp only at hp ⊢
      rw [← e]
      refine (hb t).2 (.inr ?_)
      rw [hp]
      exact beg_join (fun y hy => (hE y (hsy y (by rw [hp]; simp [hy]))).2 (he y hy)) ht
theorem StW.done {f : Fl} {m : Nat} {R : List (List Nat)} (h : StW f m R) (hc : ∀ q ∈ f.gr, ClosF f R q) {s : Nat} {t : Int} (hf : FstP f s t) : t ∈ listW (WR R s) := by
  induction hf with
  | term ht => exact h.basic _ ht
  | prod hm he _ ih => exact hc _ hm _ _ _ rfl he _ ih
theorem StW.gives {f : Fl} {m : Nat} {R : List (List Nat)} (h : StW f m R) (hc : ∀ q ∈ f.gr, ClosF f R q) : GivesR (FstP f) f.n (R.map listW) := by
  refine ⟨by rw [List.length_map]; exact h.ok.len, fun l hl => ?_, fun s hs t => ?_⟩
  · obtain ⟨ws, _, rfl⟩ := List.mem_map.1 hl
    exact rising_listW ws
  · have hs' : s < R.length := by rw [h.ok.len]; exact hs
    rw [inR_get (by simpa using hs'), List.getElem_map]
    have e : WR R s = R[s] := by unfold WR; rw [List.getD_eq_getElem?_getD, List.getElem?_eq_getElem hs']; rfl
    rw [← e]
    exact ⟨h.sound s hs t, fun hf => h.done hc hf⟩
/-! The sets ahead of the rounds: each terminal in its own. -/
def putsTo (m N j : Nat) : List (List Nat) := (List.range N).map fun s => if s < j then putW (List.replicate m 0) s else List.replicate m 0
theorem putsTo_len (m N j : Nat) : (putsTo m N j).length = N := by simp [putsTo]
theorem putsTo_get {m N j s : Nat} (hs : s < N) : WR (putsTo m N j) s = if s < j then putW (List.replicate m 0) s else List.replicate m 0 := by
  unfold WR putsTo
  rw [List.getD_eq_getElem?_getD, List.getElem?_map, List.getElem?_range hs]
  rfl
theorem putsTo_zero (m N : Nat) : putsTo m N 0 = List.replicate N (List.replicate m 0) := by
  unfold putsTo
  apply List.ext_getElem (by simp)
  intro i h1 h2
  simp
theorem putsTo_succ {m N j : Nat} : putsTo m N (j + 1) = (putsTo m N j).set j (putW (List.replicate m 0) j) := by
  unfold putsTo
  apply List.ext_getElem (by simp)
  intro i h1 h2
  rw [List.getElem_set]
  simp only [List.getElem_map, List.getElem_range]
  split
  · rename_i h
    split
    · rename_i e; subst e; rfl
    · rename_i e; rw [if_pos (by omega)]
  · rename_i h
    rw [if_neg (by omega), if_neg (by omega)]
theorem putsTo_ok {f : Fl} : StW f (f.terms.length / 64 + 1) (putsTo (f.terms.length / 64 + 1) f.n f.terms.length) := by
  generalize hM : f.terms.length / 64 + 1 = m at *
  have hl : ∀ s, s < f.terms.length → listW (putW (List.replicate m 0) s) = [(s : Int)] := fun s hs => by
    rw [listW_put (by rw [List.length_replicate]; omega), listW_zero]
    rfl
  refine ⟨⟨putsTo_len _ _ _, fun s hs => ?_⟩, fun s hs t ht => ?_, fun t ht => ?_⟩
  · rw [putsTo_get hs]
    split
    · exact (words_zero m).put s
    · exact words_zero m
  · rw [putsTo_get hs] at ht
    split at ht
    · rename_i h
      rw [hl s h] at ht
      simp at ht
      subst ht
      exact .term h
    · rw [listW_zero] at ht; cases ht
  · rw [putsTo_get (by unfold Fl.n; omega), if_pos ht, hl t ht]
    simp
end Go.Proofs.YtckbfiigbckmeaaDoor
