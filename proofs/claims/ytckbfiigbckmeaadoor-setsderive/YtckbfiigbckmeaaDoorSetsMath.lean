namespace Go.Proofs.YtckbfiigbckmeaaDoor

/-! Rising rows of numbers, and the least sets of a plain grammar. -/

def putL (x : Int) : List Int → List Int
  | [] => [x]
  | y :: ys => if y < x then y :: putL x ys else if y = x then y :: ys else x :: y :: ys

def unionL (a b : List Int) : List Int := b.foldl (fun l x => putL x l) a

def Rising (l : List Int) : Prop := l.Pairwise (· < ·)

theorem mem_putL {x z : Int} {l : List Int} : z ∈ putL x l ↔ z = x ∨ z ∈ l := by
  induction l with
  | nil => simp [putL]
  | cons y ys ih =>
    unfold putL
    split
    · simp [ih]; constructor
      · rintro (h | h | h) <;> simp [h]
      · rintro (h | h | h) <;> simp [h]
    · split
      · rename_i h; subst h; simp
      · simp

theorem rising_putL {x : Int} {l : List Int} (h : Rising l) : Rising (putL x l) := by
  induction l with
  | nil => simp [putL, Rising]
  | cons y ys ih =>
    have h2 := List.pairwise_cons.1 h
    unfold putL
    split
    · rename_i hlt
      refine List.pairwise_cons.2 ⟨?_, ih h2.2⟩
      intro z hz
      rcases mem_putL.1 hz with rfl | hz
      · exact hlt
      · exact h2.1 z hz
    · split
      · exact h
      · rename_i h3 h4
        refine List.pairwise_cons.2 ⟨?_, h⟩
        intro z hz
        rcases List.mem_cons.1 hz with rfl | hz
        · omega
        · have := h2.1 z hz; omega

theorem mem_unionL {z : Int} {a b : List Int} : z ∈ unionL a b ↔ z ∈ a ∨ z ∈ b := by
  unfold unionL
  induction b generalizing a with
  | nil => simp
  | cons x xs ih => simp only [List.foldl_cons]; rw [ih]; rw [mem_putL]; simp only [List.mem_cons, or_assoc, or_left_comm]

theorem rising_unionL {a b : List Int} (h : Rising a) : Rising (unionL a b) := by
  unfold unionL
  induction b generalizing a with
  | nil => exact h
  | cons x xs ih => exact ih (rising_putL h)

theorem putL_of_mem {x : Int} {l : List Int} (h : Rising l) (hx : x ∈ l) : putL x l = l := by
  induction l with
  | nil => cases hx
  | cons y ys ih =>
    have h2 := List.pairwise_cons.1 h
    unfold putL
    split
    · rename_i hlt
      rcases List.mem_cons.1 hx with rfl | hx
      · omega
      · rw [ih h2.2 hx]
    · split
      · rfl
      · rename_i h3 h4
        rcases List.mem_cons.1 hx with rfl | hx
        · exact absurd rfl h4
        · have := h2.1 x hx; omega

theorem length_putL (x : Int) (l : List Int) : l.length ≤ (putL x l).length ∧ (putL x l).length ≤ l.length + 1 := by
  induction l with
  | nil => simp [putL]
  | cons y ys ih =>
    unfold putL
    split
    · simp; omega
    · split <;> simp

theorem length_putL_new {x : Int} {l : List Int} (hx : x ∉ l) : (putL x l).length = l.length + 1 := by
  induction l with
  | nil => simp [putL]
  | cons y ys ih =>
    have hy : ¬ y = x := fun h => hx (by simp [h])
    have hys : x ∉ ys := fun h => hx (by simp [h])
    unfold putL
    split
    · simp [ih hys]
    · simp

theorem unionL_of_sub {a b : List Int} (h : Rising a) (hs : ∀ x ∈ b, x ∈ a) : unionL a b = a := by
  unfold unionL
  induction b with
  | nil => rfl
  | cons x xs ih =>
    simp only [List.foldl_cons]
    rw [putL_of_mem h (hs x (by simp))]
    exact ih (fun y hy => hs y (by simp [hy]))

theorem length_unionL (a b : List Int) : a.length ≤ (unionL a b).length ∧ (unionL a b).length ≤ a.length + b.length := by
  unfold unionL
  induction b generalizing a with
  | nil => simp
  | cons x xs ih =>
    have h1 := ih (putL x a); have h2 := length_putL x a
    simp only [List.foldl_cons, List.length_cons]; omega

theorem sub_of_length_unionL {a b : List Int} (h : Rising a) (hl : (unionL a b).length ≤ a.length) : ∀ x ∈ b, x ∈ a := by
  unfold unionL at hl
  induction b generalizing a with
  | nil => intro x hx; cases hx
  | cons y ys ih =>
    simp only [List.foldl_cons] at hl
    have h1 := length_unionL (putL y a) ys
    unfold unionL at h1
    by_cases hy : y ∈ a
    · rw [putL_of_mem h hy] at hl
      intro x hx
      rcases List.mem_cons.1 hx with rfl | hx
      · exact hy
      · exact ih h hl x hx
    · have := length_putL_new hy; omega

theorem rising_ext {a b : List Int} (ha : Rising a) (hb : Rising b) (h : ∀ x, x ∈ a ↔ x ∈ b) : a = b := by
  induction a generalizing b with
  | nil =>
    cases b with
    | nil => rfl
    | cons y ys => exact absurd ((h y).2 (by simp)) (by simp)
  | cons x xs ih =>
    have h1 := List.pairwise_cons.1 ha
    cases b with
    | nil => exact absurd ((h x).1 (by simp)) (by simp)
    | cons y ys =>
      have h2 := List.pairwise_cons.1 hb
      have hxy : x = y := by
        rcases List.mem_cons.1 ((h x).1 (by simp)) with e | e
        · exact e
        · rcases List.mem_cons.1 ((h y).2 (by simp)) with e' | e'
          · exact e'.symm
          · have := h1.1 y e'; have := h2.1 x e; omega
      subst hxy
      congr 1
      refine ih h1.2 h2.2 (fun z => ?_)
      constructor
      · intro hz
        rcases List.mem_cons.1 ((h z).1 (by simp [hz])) with e | e
        · have := h1.1 z hz; omega
        · exact e
      · intro hz
        rcases List.mem_cons.1 ((h z).2 (by simp [hz])) with e | e
        · have := h2.1 z hz; omega
        · exact e

/-- A rising row of numbers from 0 on, all below n, has at most n of them. -/
theorem rising_length {l : List Int} {n : Nat} (h : Rising l) (h0 : ∀ x ∈ l, 0 ≤ x ∧ x < n) : l.length ≤ n := by
  induction n generalizing l with
  | zero =>
    cases l with
    | nil => simp
    | cons x xs => have := h0 x (by simp); omega
  | succ n ih =>
    -- leave n out
    have key : ∀ (l : List Int) (lo : Int), Rising l → (∀ x ∈ l, lo ≤ x) → ∀ (k : Nat), (∀ x ∈ l, x < lo + k) → l.length ≤ k := by
      intro l
      induction l with
      | nil => intros; simp
      | cons x xs ihx =>
        intro lo hr hlo k hk
        have hr2 := List.pairwise_cons.1 hr
        have hx := hlo x (by simp); have hx' := hk x (by simp)
        cases k with
        | zero => omega
        | succ k =>
          have := ihx (lo + 1) hr2.2 (fun z hz => by have := hr2.1 z hz; omega) k (fun z hz => by have := hk z (by simp [hz]); omega)
          simp; omega
    exact key l 0 h (fun x hx => (h0 x hx).1) (n+1) (fun x hx => by have := (h0 x hx).2; omega)

/-! ## What can be empty, what is useful -/

abbrev Gr := List (Nat × List Nat)

inductive Der (base : Nat → Prop) (g : Gr) : Nat → Prop
  | base {s} : base s → Der base g s
  | prod {l r} : (l, r) ∈ g → (∀ x, x ∈ r → Der base g x) → Der base g l

/-- Rows of Bools: sound, and closed at a production. -/
def OnB (L : List Bool) (s : Nat) : Prop := L[s]? = some true

instance (L : List Bool) (s : Nat) : Decidable (OnB L s) := inferInstanceAs (Decidable (_ = _))

def SoundB (base : Nat → Prop) (g : Gr) (L : List Bool) : Prop := ∀ s, OnB L s → Der base g s
def ClosedB (L : List Bool) (p : Nat × List Nat) : Prop := (∀ x ∈ p.2, OnB L x) → OnB L p.1

theorem onB_set {L : List Bool} {l s : Nat} (h : OnB L s) : OnB (L.set l true) s := by
  unfold OnB at *
  rw [List.getElem?_set]
  split
  · rename_i h1; subst h1
    have : l < L.length := by
      rcases Nat.lt_or_ge l L.length with h2 | h2
      · exact h2
      · rw [List.getElem?_eq_none h2] at h; cases h
    simp [this]
  · exact h

theorem onB_set_iff {L : List Bool} {l s : Nat} (hl : l < L.length) : OnB (L.set l true) s ↔ s = l ∨ OnB L s := by
  unfold OnB
  rw [List.getElem?_set]
  constructor
  · intro h
    split at h
    · rename_i h1; exact Or.inl h1.symm
    · exact Or.inr h
  · rintro (rfl | h)
    · simp [hl]
    · split
      · simp
      · exact h

theorem soundB_set {base g} {L : List Bool} {l r} (h : SoundB base g L) (hl : l < L.length) (hm : (l, r) ∈ g) (hr : ∀ x ∈ r, OnB L x) : SoundB base g (L.set l true) := by
  intro s hs
  rcases (onB_set_iff hl).1 hs with rfl | hs
  · exact .prod hm (fun x hx => h x (hr x hx))
  · exact h s hs

theorem complete_B {base g} {L : List Bool} (hb : ∀ s, base s → OnB L s) (hc : ∀ p ∈ g, ClosedB L p) {s} (h : Der base g s) : OnB L s := by
  induction h with
  | base h => exact hb _ h
  | prod hm _ ih => exact hc _ hm ih

/-- The row that tells of each of n symbols whether it is derived so. -/
def GivesB (base : Nat → Prop) (g : Gr) (n : Nat) (L : List Bool) : Prop := L.length = n ∧ ∀ s, s < n → (OnB L s ↔ Der base g s)

theorem givesB_unique {base g n} {L M : List Bool} (h : GivesB base g n L) (k : GivesB base g n M) : L = M := by
  apply List.ext_getElem (by rw [h.1, k.1])
  intro i h1 h2
  have e : OnB L i ↔ OnB M i := by rw [h.2 i (by rw [← h.1]; exact h1), k.2 i (by rw [← k.1]; exact h2)]
  unfold OnB at e
  rw [List.getElem?_eq_getElem h1, List.getElem?_eq_getElem h2] at e
  simp at e
  cases hx : L[i] <;> cases hy : M[i] <;> simp_all

/-- How many are false. -/
def offs (L : List Bool) : Nat := (L.filter (fun b => !b)).length

theorem offs_set {L : List Bool} {l : Nat} (hl : l < L.length) (h : ¬ OnB L l) : offs (L.set l true) < offs L := by
  unfold offs
  induction L generalizing l with
  | nil => simp at hl
  | cons b bs ih =>
    cases l with
    | zero =>
      have : b = false := by
        unfold OnB at h; simp at h; exact h
      subst this; simp
    | succ l =>
      have := ih (l := l) (by simpa using hl) (by unfold OnB at *; simpa using h)
      cases b <;> simp_all

theorem offs_le (L : List Bool) : offs L ≤ L.length := List.length_filter_le _ _

/-! ## What can begin, what can follow -/

/-- What stands in rows, by their places. -/
def InR (R : List (List Int)) (s : Nat) (t : Int) : Prop := ∃ l, R[s]? = some l ∧ t ∈ l

inductive Fst (emp : Nat → Prop) (terms : Nat) (g : Gr) : Nat → Int → Prop
  | term {t : Nat} : t < terms → Fst emp terms g t t
  | prod {l pre x post t} : (l, pre ++ x :: post) ∈ g → (∀ y, y ∈ pre → emp y) → Fst emp terms g x t → Fst emp terms g l t

/-- What begins a row of symbols; with `b` behind. -/
inductive Beg (emp : Nat → Prop) (fst : Nat → Int → Prop) (b : Int → Prop) : List Nat → Int → Prop
  | here {x xs t} : fst x t → Beg emp fst b (x :: xs) t
  | next {x xs t} : emp x → Beg emp fst b xs t → Beg emp fst b (x :: xs) t
  | behind {t} : b t → Beg emp fst b [] t

/-- What can follow: the least sets. -/
inductive Fol (emp : Nat → Prop) (fst : Nat → Int → Prop) (terms : Nat) (g : Gr) : Nat → Int → Prop
  | last : Fol emp fst terms g terms terms
  | first {l pre x post t} : (l, pre ++ x :: post) ∈ g → terms ≤ x → Beg emp fst (fun _ => False) post t → Fol emp fst terms g x t
  | left {l pre x post t} : (l, pre ++ x :: post) ∈ g → terms ≤ x → (∀ y, y ∈ post → emp y) → Fol emp fst terms g l t → Fol emp fst terms g x t

theorem beg_iff {emp fst} {b : Int → Prop} {l t} : Beg emp fst b l t ↔ Beg emp fst (fun _ => False) l t ∨ (∀ y, y ∈ l → emp y) ∧ b t := by
  induction l with
  | nil =>
    constructor
    · intro h; cases h with | behind h => exact Or.inr ⟨by simp, h⟩
    · rintro (h | h)
      · cases h with | behind h => exact h.elim
      · exact .behind h.2
  | cons x xs ih =>
    constructor
    · intro h
      cases h with
      | here h => exact Or.inl (.here h)
      | next h1 h2 =>
        rcases ih.1 h2 with h3 | h3
        · exact Or.inl (.next h1 h3)
        · exact Or.inr ⟨fun y hy => by rcases List.mem_cons.1 hy with rfl | hy; exact h1; exact h3.1 y hy, h3.2⟩
    · rintro (h | h)
      · cases h with
        | here h => exact .here h
        | next h1 h2 => exact .next h1 (ih.2 (Or.inl h2))
      · exact .next (h.1 x (by simp)) (ih.2 (Or.inr ⟨fun y hy => h.1 y (by simp [hy]), h.2⟩))

theorem beg_mono {emp fst fst'} {b b' : Int → Prop} {l t} (hf : ∀ s t, fst s t → fst' s t) (hb : ∀ t, b t → b' t) (h : Beg emp fst b l t) : Beg emp fst' b' l t := by
  induction h with
  | here h => exact .here (hf _ _ h)
  | next h1 _ ih => exact .next h1 ih
  | behind h => exact .behind (hb _ h)

/-- Follow by one rule. -/
theorem fol_beg {emp fst terms g l pre x post t} (hm : (l, pre ++ x :: post) ∈ g) (hx : terms ≤ x) (h : Beg emp fst (Fol emp fst terms g l) post t) : Fol emp fst terms g x t := by
  rcases beg_iff.1 h with h | h
  · exact .first hm hx h
  · exact .left hm hx h.1 h.2

/-- Rows are closed at a production. -/
def ClosedF (emp : Nat → Prop) (R : List (List Int)) (p : Nat × List Nat) : Prop :=
  ∀ pre x post, p.2 = pre ++ x :: post → (∀ y, y ∈ pre → emp y) → ∀ t, InR R x t → InR R p.1 t

def ClosedO (emp : Nat → Prop) (fst : Nat → Int → Prop) (terms : Nat) (R : List (List Int)) (p : Nat × List Nat) : Prop :=
  ∀ pre x post, p.2 = pre ++ x :: post → terms ≤ x → ∀ t, Beg emp fst (InR R p.1) post t → InR R x t

theorem complete_F {emp terms g} {R : List (List Int)} (hb : ∀ t : Nat, t < terms → InR R t t) (hc : ∀ p ∈ g, ClosedF emp R p) {s t} (h : Fst emp terms g s t) : InR R s t := by
  induction h with
  | term h => exact hb _ h
  | prod hm he _ ih => exact hc _ hm _ _ _ rfl he _ ih

theorem complete_O {emp fst terms g} {R : List (List Int)} (hb : InR R terms terms) (hc : ∀ p ∈ g, ClosedO emp fst terms R p) {s t} (h : Fol emp fst terms g s t) : InR R s t := by
  induction h with
  | last => exact hb
  | first hm hx hbeg => exact hc _ hm _ _ _ rfl hx _ (beg_mono (fun _ _ h => h) (fun _ h => h.elim) hbeg)
  | left hm hx he _ ih => exact hc _ hm _ _ _ rfl hx _ (beg_iff.2 (Or.inr ⟨he, ih⟩))

/-- The rows that tell of each of n symbols just what P says, rising. -/
def GivesR (P : Nat → Int → Prop) (n : Nat) (R : List (List Int)) : Prop := R.length = n ∧ (∀ l ∈ R, Rising l) ∧ ∀ s, s < n → ∀ t, (InR R s t ↔ P s t)

theorem inR_get {R : List (List Int)} {s : Nat} (h : s < R.length) {t} : InR R s t ↔ t ∈ R[s] := by
  unfold InR; rw [List.getElem?_eq_getElem h]; simp

theorem givesR_unique {P n} {R S : List (List Int)} (h : GivesR P n R) (k : GivesR P n S) : R = S := by
  apply List.ext_getElem (by rw [h.1, k.1])
  intro i h1 h2
  refine rising_ext (h.2.1 _ (List.getElem_mem h1)) (k.2.1 _ (List.getElem_mem h2)) (fun t => ?_)
  rw [← inR_get h1, ← inR_get h2, h.2.2 i (by rw [← h.1]; exact h1), k.2.2 i (by rw [← k.1]; exact h2)]

theorem inR_set {R : List (List Int)} {s : Nat} {l : List Int} (hs : s < R.length) {x t} : InR (R.set s l) x t ↔ (x = s ∧ t ∈ l) ∨ (x ≠ s ∧ InR R x t) := by
  unfold InR
  rw [List.getElem?_set]
  constructor
  · rintro ⟨m, h, ht⟩
    split at h
    · rename_i e; simp at h; subst h; exact Or.inl ⟨e.symm, ht⟩
    · rename_i e; exact Or.inr ⟨fun h' => e h'.symm, m, h, ht⟩
  · rintro (⟨rfl, ht⟩ | ⟨hne, m, h, ht⟩)
    · exact ⟨l, by simp [hs], ht⟩
    · exact ⟨m, by rw [if_neg (fun h' => hne h'.symm)]; exact h, ht⟩

/-- How much is in all rows together. -/
def bulk (R : List (List Int)) : Nat := (R.map List.length).sum

theorem bulk_set {R : List (List Int)} {s : Nat} {l : List Int} (hs : s < R.length) : bulk (R.set s l) + (R[s]).length = bulk R + l.length := by
  unfold bulk
  induction R generalizing s with
  | nil => simp at hs
  | cons x xs ih =>
    cases s with
    | zero => simp; omega
    | succ s => have := ih (s := s) (by simpa using hs); simp at this ⊢; omega

theorem bulk_le {R : List (List Int)} {k : Nat} (h : ∀ l ∈ R, l.length ≤ k) : bulk R ≤ R.length * k := by
  unfold bulk
  induction R with
  | nil => simp
  | cons x xs ih =>
    have h1 := h x (by simp); have h2 := ih (fun l hl => h l (by simp [hl]))
    simp [Nat.succ_mul]; omega

end Go.Proofs.YtckbfiigbckmeaaDoor
