/- First and Follow: one production after another. -/
import Derived.Test.YtckbfiigbckmeaaDoorSetsMath
namespace Go.Proofs.YtckbfiigbckmeaaDoor

def rowAt (R : List (List Int)) (s : Nat) : List Int := R.getD s []
theorem rowAt_get {R : List (List Int)} {s : Nat} (h : s < R.length) : rowAt R s = R[s] := by unfold rowAt; rw [List.getD_eq_getElem?_getD, List.getElem?_eq_getElem h]; rfl
theorem inR_row {R : List (List Int)} {s : Nat} (h : s < R.length) {t : Int} : InR R s t ↔ t ∈ rowAt R s := by rw [inR_get h, rowAt_get h]
theorem rowAt_set {R : List (List Int)} {s x : Nat} {A : List Int} (h : s < R.length) : rowAt (R.set s A) x = if x = s then A else rowAt R x := by
  unfold rowAt
  rw [List.getD_eq_getElem?_getD, List.getD_eq_getElem?_getD, List.getElem?_set]
  by_cases e : s = x
  · subst e; simp [h]
  · rw [if_neg e, if_neg (fun h => e h.symm)]
theorem set_rowAt {R : List (List Int)} {s : Nat} (h : s < R.length) : R.set s (rowAt R s) = R := by rw [rowAt_get h]; exact List.set_getElem_self h
theorem bulk_set_row {R : List (List Int)} {s : Nat} {A : List Int} (h : s < R.length) : bulk (R.set s A) + (rowAt R s).length = bulk R + A.length := by rw [rowAt_get h]; exact bulk_set h

/-- A state of rows: rising, and nothing in them that P does not say. -/
structure OkR (P : Nat → Int → Prop) (N : Nat) (R : List (List Int)) : Prop where
  len : R.length = N
  rise : ∀ s, Rising (rowAt R s)
  sound : ∀ s, s < N → ∀ t, t ∈ rowAt R s → P s t
theorem OkR.set {P N R} (h : OkR P N R) {s : Nat} {A : List Int} (hs : s < N) (hr : Rising A) (hp : ∀ t ∈ A, P s t) : OkR P N (R.set s A) := by
  have hl : s < R.length := by rw [h.len]; exact hs
  refine ⟨by simpa using h.len, fun x => ?_, fun x hx t ht => ?_⟩
  · rw [rowAt_set hl]; split
    · exact hr
    · exact h.rise x
  · rw [rowAt_set hl] at ht
    split at ht
    · rename_i e; subst e; exact hp t ht
    · exact h.sound x hx t ht
theorem OkR.bulk_max {P N R} (h : OkR P N R) (hb : ∀ s t, P s t → 0 ≤ t ∧ t < (N + 1 : Nat)) : bulk R ≤ N * (N + 1) := by
  have := bulk_le (R := R) (k := N + 1) (fun l hl => by
    obtain ⟨i, hi, rfl⟩ := List.getElem_of_mem hl
    have e := rowAt_get hi
    rw [← e]
    exact rising_length (h.rise i) (fun x hx => hb i x (h.sound i (by rw [← h.len]; exact hi) x hx)))
  rw [h.len] at this
  exact this
theorem OkR.row_le {P N R} (h : OkR P N R) (hb : ∀ s t, P s t → 0 ≤ t ∧ t < (N + 1 : Nat)) {s : Nat} (hs : s < N) : (rowAt R s).length ≤ N + 1 :=
  rising_length (h.rise s) (fun x hx => hb s x (h.sound s hs x hx))

/-- First's terminals are terminals. -/
theorem fst_lt {emp terms g s t} (h : Fst emp terms g s t) : 0 ≤ t ∧ t < terms := by
  induction h with
  | term h => omega
  | prod _ _ _ ih => exact ih

/-- Within a production: the row of Left, the items up to place m being done. -/
structure InnF (emp : Nat → Prop) (P : Nat → Int → Prop) (R : List (List Int)) (l : Nat) (sy : List Nat) (m : Nat) (A : List Int) : Prop where
  rise : Rising A
  sup : ∀ t ∈ rowAt R l, t ∈ A
  sub : ∀ t ∈ A, P l t
  seen : ∀ x ∈ sy.take m, ∀ t ∈ rowAt R x, t ∈ A
theorem InnF.start {emp P N R l sy} (h : OkR P N R) (hl : l < N) : InnF emp P R l sy 0 (rowAt R l) :=
  ⟨h.rise l, fun _ h => h, h.sound l hl, by simp⟩
theorem take_succ_mem {sy : List Nat} {m x : Nat} (hm : m < sy.length) (h : x ∈ sy.take (m + 1)) : x ∈ sy.take m ∨ x = sy[m] := by
  rw [List.take_succ_eq_append_getElem hm] at h
  rcases List.mem_append.1 h with h | h
  · exact .inl h
  · right; simpa using h
theorem InnF.step {emp terms g N R l sy m A} (h : InnF emp (Fst emp terms g) R l sy m A) (hR : OkR (Fst emp terms g) N R) (hg : (l, sy) ∈ g) (hm : m < sy.length) (hl : l < N) (hx : sy[m] < N) (he : ∀ y ∈ sy.take m, emp y) :
    InnF emp (Fst emp terms g) R l sy (m + 1) (unionL A (rowAt (R.set l A) sy[m])) := by
  have hlr : l < R.length := by rw [hR.len]; exact hl
  refine ⟨rising_unionL h.rise, fun t ht => mem_unionL.2 (.inl (h.sup t ht)), fun t ht => ?_, fun x hxm t ht => ?_⟩
  · rcases mem_unionL.1 ht with ht | ht
    · exact h.sub t ht
    · rw [rowAt_set hlr] at ht
      split at ht
      · exact h.sub t ht
      · have e : sy = sy.take m ++ sy[m] :: sy.drop (m + 1) := by rw [← List.drop_eq_getElem_cons hm, List.take_append_drop]
        exact .prod (pre := sy.take m) (x := sy[m]) (post := sy.drop (m + 1)) (by rw [← e]; exact hg) he (hR.sound _ hx t ht)
  · rcases take_succ_mem hm hxm with hxm | rfl
    · exact mem_unionL.2 (.inl (h.seen x hxm t ht))
    · refine mem_unionL.2 ?_
      rw [rowAt_set hlr]
      split
      · rename_i e; rw [e] at ht; exact .inl (h.sup t ht)
      · exact .inr ht
/-- Where nothing came to it, the production is kept. -/
theorem InnF.closed {emp P N R l sy m A} (h : InnF emp P R l sy m A) (hR : OkR P N R) (hl : l < N) (hsy : ∀ x ∈ sy, x < N) (hn : A.length ≤ (rowAt R l).length) (hend : m = sy.length ∨ ∃ y ∈ sy.take m, ¬ emp y) : A = rowAt R l ∧ ClosedF emp R (l, sy) := by
  have hA : A = rowAt R l := by
    have e : unionL (rowAt R l) A = A := rising_ext (rising_unionL (hR.rise l)) h.rise (fun t => by rw [mem_unionL]; exact ⟨fun h' => h'.elim (h.sup t) id, .inr⟩)
    have := sub_of_length_unionL (hR.rise l) (by rw [e]; exact hn)
    exact rising_ext h.rise (hR.rise l) (fun t => ⟨this t, h.sup t⟩)
  refine ⟨hA, fun pre x post hp he t ht => ?_⟩
  simp only at hp
  have hxn : x < N := hsy x (by rw [hp]; simp)
  rw [inR_row (by rw [hR.len]; exact hxn)] at ht
  simp only
  rw [inR_row (by rw [hR.len]; exact hl), ← hA]
  refine h.seen x ?_ t ht
  have hlt : pre.length < m := by
    rcases hend with rfl | ⟨y, hy, hny⟩
    · rw [hp]; simp
    · rcases Nat.lt_or_ge pre.length m with h' | h'
      · exact h'
      · exfalso
        apply hny
        refine he y ?_
        rw [hp, List.take_append_of_le_length h'] at hy
        exact List.mem_of_mem_take hy
  rw [hp]
  have : pre ++ x :: post = (pre ++ [x]) ++ post := by simp
  rw [this, List.take_append]
  refine List.mem_append.2 (.inl ?_)
  rw [List.take_of_length_le (by simp; omega)]
  simp
theorem InnF.len {emp P N R l sy m A} (h : InnF emp P R l sy m A) (hR : OkR P N R) : (rowAt R l).length ≤ A.length := by
  have e : unionL (rowAt R l) A = A := rising_ext (rising_unionL (hR.rise l)) h.rise (fun t => by rw [mem_unionL]; exact ⟨fun h' => h'.elim (h.sup t) id, .inr⟩)
  have := (length_unionL (rowAt R l) A).1
  rw [e] at this
  exact this

/-- What a round over the productions up to place j has come to. -/
def RoundR (cl : List (List Int) → Nat × List Nat → Prop) (g : Gr) (R R' : List (List Int)) (b : Bool) (j : Nat) : Prop := bulk R ≤ bulk R' ∧ (b = true → bulk R < bulk R') ∧ (b = false → R' = R ∧ ∀ q ∈ g.take j, cl R q)
theorem RoundR.start (cl) (g : Gr) (R : List (List Int)) : RoundR cl g R R false 0 := ⟨Nat.le_refl _, by simp, fun _ => ⟨rfl, by simp⟩⟩
theorem RoundR.step {cl} {g : Gr} {R R' R2 : List (List Int)} {b b2 : Bool} {j : Nat} {q : Nat × List Nat} (h : RoundR cl g R R' b j) (hj : g.take (j + 1) = g.take j ++ [q]) (hb : bulk R' ≤ bulk R2) (h1 : b2 = true → b = true ∨ bulk R' < bulk R2) (h2 : b2 = false → b = false ∧ R2 = R' ∧ cl R' q) : RoundR cl g R R2 b2 (j + 1) := by
  refine ⟨Nat.le_trans h.1 hb, fun e => ?_, fun e => ?_⟩
  · rcases h1 e with e | e
    · have := h.2.1 e; omega
    · have := h.1; omega
  · obtain ⟨e1, e2, e3⟩ := h2 e
    obtain ⟨e4, e5⟩ := h.2.2 e1
    refine ⟨by rw [e2, e4], fun p hp => ?_⟩
    rw [hj] at hp
    rcases List.mem_append.1 hp with hp | hp
    · exact e5 p hp
    · simp at hp; subst hp; rw [← e4]; exact e3
theorem OkR.gives {P N R} (h : OkR P N R) (hc : ∀ s, s < N → ∀ t, P s t → InR R s t) : GivesR P N R := by
  refine ⟨h.len, fun l hl => ?_, fun s hs t => ⟨fun hi => ?_, hc s hs t⟩⟩
  · obtain ⟨i, hi, rfl⟩ := List.getElem_of_mem hl
    rw [← rowAt_get hi]; exact h.rise i
  · exact h.sound s hs t ((inR_row (by rw [h.len]; exact hs)).1 hi)
end Go.Proofs.YtckbfiigbckmeaaDoor
