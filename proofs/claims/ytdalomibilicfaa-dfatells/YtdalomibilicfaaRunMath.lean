/- Arcs to classes, side by side as one: what a state's key tells. -/
import Derived.Test.YtdalomibilicfaaClsMath
namespace Go.Proofs.Ytdalomibilicfaa
open Go.RowKit

/-- What is handed out: by the arc that is open (lo, hi, last), and those behind. -/
def crun (cl : Int → Int) : Int → Int → Int → List Ar → List Ar
  | lo, hi, last, [] => if last = 0 then [] else [⟨lo, hi, last⟩]
  | lo, hi, last, x :: l => if cl x.tg = last ∧ x.lo = hi + 1 then crun cl lo x.hi last l else (if last = 0 then [] else [⟨lo, hi, last⟩]) ++ crun cl x.lo x.hi (cl x.tg) l
def labA (cl : Int → Int) (l : List Ar) (c : Int) : Int := match arcOf l c with
  | some x => cl x.tg
  | none => 0
def tagA (l : List Ar) (c : Int) : Int := match arcOf l c with
  | some x => x.tg
  | none => 0
theorem labA_cons (cl : Int → Int) (x : Ar) (l : List Ar) (c : Int) : labA cl (x :: l) c = if x.lo ≤ c ∧ c ≤ x.hi then cl x.tg else labA cl l c := by
  unfold labA
  rw [arcOf]
  by_cases h : x.lo ≤ c ∧ c ≤ x.hi
  · rw [if_pos h, if_pos h]
  · rw [if_neg h, if_neg h]
theorem tagA_cons (x : Ar) (l : List Ar) (c : Int) : tagA (x :: l) c = if x.lo ≤ c ∧ c ≤ x.hi then x.tg else tagA l c := by
  unfold tagA
  rw [arcOf]
  by_cases h : x.lo ≤ c ∧ c ≤ x.hi
  · rw [if_pos h, if_pos h]
  · rw [if_neg h, if_neg h]
theorem labA_low (cl : Int → Int) {l : List Ar} {a c : Int} (h : upA l a) (hc : c < a) : labA cl l c = 0 := by
  unfold labA; rw [arcOf_low h hc]
theorem upA_mono : ∀ {l : List Ar} {a b : Int}, upA l a → b ≤ a → upA l b
  | [], _, _, _, _ => trivial
  | x :: l, a, b, h, hb => by unfold upA at h ⊢; exact ⟨by omega, h.2⟩
theorem upA_at : ∀ {l : List Ar} {a : Int}, upA l a → ∀ {x : Ar}, x ∈ l → a ≤ x.lo ∧ x.lo ≤ x.hi ∧ x.hi ≤ 255
  | y :: l, a, h, x, hx => by
    unfold upA at h
    rcases List.mem_cons.1 hx with rfl | hx
    · exact ⟨h.1, h.2.1, h.2.2.1⟩
    · have := upA_at h.2.2.2 hx
      exact ⟨by omega, this.2⟩
/-- All that is to be said of it. -/
theorem crun_all (cl : Int → Int) : ∀ (l : List Ar) (lo hi last a : Int), (last = 0 ∧ upA l a) ∨ (last ≠ 0 ∧ a ≤ lo ∧ lo ≤ hi ∧ hi ≤ 255 ∧ upA l (hi + 1)) →
    upA (crun cl lo hi last l) a ∧ (∀ x ∈ crun cl lo hi last l, x.tg ≠ 0 ∧ (x.tg = last ∨ ∃ y ∈ l, x.tg = cl y.tg)) ∧ runsA (crun cl lo hi last l) ∧ (∀ c, tagA (crun cl lo hi last l) c = if last ≠ 0 ∧ lo ≤ c ∧ c ≤ hi then last else labA cl l c) ∧ (last ≠ 0 → ∃ h' t, crun cl lo hi last l = ⟨lo, h', last⟩ :: t)
  | [], lo, hi, last, a, h => by
    unfold crun
    rcases h with ⟨rfl, _⟩ | ⟨h0, h1, h2, h3, _⟩
    · rw [if_pos rfl]
      exact ⟨trivial, fun x hx => (by cases hx), trivial, fun c => by rw [if_neg (by simp)]; rfl, fun h => absurd rfl h⟩
    · rw [if_neg h0]
      refine ⟨⟨h1, h2, h3, trivial⟩, fun x hx => ?_, trivial, fun c => ?_, fun _ => ⟨_, _, rfl⟩⟩
      · simp at hx; subst hx; exact ⟨h0, .inl rfl⟩
      · rw [tagA_cons]
        simp only [ne_eq, h0, not_false_eq_true, true_and]
        rfl
  | x :: l, lo, hi, last, a, h => by
    unfold crun
    by_cases hm : cl x.tg = last ∧ x.lo = hi + 1
    · rw [if_pos hm]
      have h' : (last = 0 ∧ upA l a) ∨ (last ≠ 0 ∧ a ≤ lo ∧ lo ≤ x.hi ∧ x.hi ≤ 255 ∧ upA l (x.hi + 1)) := by
        rcases h with ⟨h0, h1⟩ | ⟨h0, h1, h2, h3, h4⟩
        · unfold upA at h1
          exact .inl ⟨h0, upA_mono h1.2.2.2 (by omega)⟩
        · unfold upA at h4
          exact .inr ⟨h0, h1, by omega, h4.2.2.1, h4.2.2.2⟩
      obtain ⟨k1, k2, k3, k4, k5⟩ := crun_all cl l lo x.hi last a h'
      refine ⟨k1, fun y hy => ?_, k3, fun c => ?_, fun h0 => k5 h0⟩
      · obtain ⟨q1, q2⟩ := k2 y hy
        refine ⟨q1, q2.imp id (fun ⟨z, hz, e⟩ => ⟨z, by simp [hz], e⟩)⟩
      · rw [k4 c, labA_cons, hm.1]
        rcases h with ⟨h0, h1⟩ | ⟨h0, h1, h2, h3, h4⟩
        · rw [if_neg (by simp [h0]), if_neg (by simp [h0])]
          unfold upA at h1
          by_cases hc : x.lo ≤ c ∧ c ≤ x.hi
          · rw [if_pos hc, labA_low cl h1.2.2.2 (by omega), h0]
          · rw [if_neg hc]
        · unfold upA at h4
          by_cases hc : lo ≤ c ∧ c ≤ hi
          · rw [if_pos ⟨h0, hc.1, by omega⟩, if_pos ⟨h0, hc⟩]
          · rw [if_neg (fun q => hc q.2 : ¬ (last ≠ 0 ∧ lo ≤ c ∧ c ≤ hi))]
            by_cases hx : x.lo ≤ c ∧ c ≤ x.hi
            · rw [if_pos ⟨h0, by omega, hx.2⟩, if_pos hx]
            · rw [if_neg (fun q => by omega), if_neg hx]
    · rw [if_neg hm]
      have hx : upA (x :: l) a ∧ (last ≠ 0 → hi + 1 ≤ x.lo) := by
        rcases h with ⟨h0, h1⟩ | ⟨h0, h1, h2, h3, h4⟩
        · exact ⟨h1, fun q => absurd h0 q⟩
        · refine ⟨upA_mono h4 (by omega), fun _ => ?_⟩
          unfold upA at h4; exact h4.1
      have hx1 := hx.1
      unfold upA at hx1
      -- what stands behind
      have h' : ∀ b, b ≤ x.lo → (cl x.tg = 0 ∧ upA l b) ∨ (cl x.tg ≠ 0 ∧ b ≤ x.lo ∧ x.lo ≤ x.hi ∧ x.hi ≤ 255 ∧ upA l (x.hi + 1)) := by
        intro b hb
        by_cases h0 : cl x.tg = 0
        · exact .inl ⟨h0, upA_mono hx1.2.2.2 (by omega)⟩
        · exact .inr ⟨h0, hb, hx1.2.1, hx1.2.2.1, hx1.2.2.2⟩
      by_cases h0 : last = 0
      · rw [if_pos h0, List.nil_append]
        obtain ⟨k1, k2, k3, k4, k5⟩ := crun_all cl l x.lo x.hi (cl x.tg) a (h' a hx1.1)
        refine ⟨k1, fun y hy => ?_, k3, fun c => ?_, fun q => absurd h0 q⟩
        · obtain ⟨q1, q2⟩ := k2 y hy
          refine ⟨q1, .inr ?_⟩
          rcases q2 with q2 | ⟨z, hz, e⟩
          · exact ⟨x, by simp, q2⟩
          · exact ⟨z, by simp [hz], e⟩
        · rw [k4 c, labA_cons, if_neg (by simp [h0] : ¬ (last ≠ 0 ∧ lo ≤ c ∧ c ≤ hi))]
          by_cases hc : x.lo ≤ c ∧ c ≤ x.hi
          · rw [if_pos hc]
            by_cases hz : cl x.tg = 0
            · rw [if_neg (fun q => q.1 hz), labA_low cl hx1.2.2.2 (by omega), hz]
            · rw [if_pos ⟨hz, hc⟩]
          · rw [if_neg hc, if_neg (fun q => hc q.2)]
      · rw [if_neg h0, List.cons_append, List.nil_append]
        rcases h with ⟨q, _⟩ | ⟨_, h1, h2, h3, h4⟩
        · exact absurd q h0
        obtain ⟨k1, k2, k3, k4, k5⟩ := crun_all cl l x.lo x.hi (cl x.tg) (hi + 1) (h' (hi + 1) (hx.2 h0))
        refine ⟨⟨h1, h2, h3, k1⟩, fun y hy => ?_, ?_, fun c => ?_, fun _ => ⟨_, _, rfl⟩⟩
        · rcases List.mem_cons.1 hy with rfl | hy
          · exact ⟨h0, .inl rfl⟩
          · obtain ⟨q1, q2⟩ := k2 y hy
            refine ⟨q1, .inr ?_⟩
            rcases q2 with q2 | ⟨z, hz, e⟩
            · exact ⟨x, by simp, q2⟩
            · exact ⟨z, by simp [hz], e⟩
        · by_cases hz : cl x.tg = 0
          · -- the next begins behind x
            obtain ⟨m1, _⟩ := crun_all cl l x.lo x.hi (cl x.tg) (x.hi + 1) (.inl ⟨hz, hx1.2.2.2⟩)
            generalize crun cl x.lo x.hi (cl x.tg) l = R at *
            cases R with
            | nil => exact trivial
            | cons y R =>
              unfold upA at m1
              have := hx.2 h0
              exact ⟨fun q => by simp only at q; omega, k3⟩
          · obtain ⟨h'', t, e⟩ := k5 hz
            rw [e] at k3 ⊢
            refine ⟨fun q => ?_, k3⟩
            simp only at q ⊢
            exact fun q2 => hm ⟨q2.symm, q.symm⟩
        · rw [tagA_cons, k4 c, labA_cons]
          by_cases hc : lo ≤ c ∧ c ≤ hi
          · rw [if_pos hc, if_pos ⟨h0, hc⟩]
          · rw [if_neg hc, if_neg (fun q => hc q.2 : ¬ (last ≠ 0 ∧ lo ≤ c ∧ c ≤ hi))]
            by_cases hcx : x.lo ≤ c ∧ c ≤ x.hi
            · rw [if_pos hcx]
              by_cases hz : cl x.tg = 0
              · rw [if_neg (fun q => q.1 hz), labA_low cl hx1.2.2.2 (by omega), hz]
              · rw [if_pos ⟨hz, hcx⟩]
            · rw [if_neg hcx, if_neg (fun q => hcx q.2)]
def runC (cl : Int → Int) (l : List Ar) : List Ar := crun cl 0 0 0 l
theorem runC_all (cl : Int → Int) {l : List Ar} (h : upA l 0) : upA (runC cl l) 0 ∧ (∀ x ∈ runC cl l, x.tg ≠ 0 ∧ ∃ y ∈ l, x.tg = cl y.tg) ∧ runsA (runC cl l) ∧ ∀ c, tagA (runC cl l) c = labA cl l c := by
  obtain ⟨k1, k2, k3, k4, _⟩ := crun_all cl l 0 0 0 0 (.inl ⟨rfl, h⟩)
  refine ⟨k1, fun x hx => ?_, k3, fun c => ?_⟩
  · obtain ⟨q1, q2⟩ := k2 x hx
    exact ⟨q1, q2.resolve_left q1⟩
  · have := k4 c
    rw [if_neg (by simp)] at this
    exact this
theorem crun_len (cl : Int → Int) : ∀ (l : List Ar) (lo hi last : Int), (crun cl lo hi last l).length ≤ l.length + 1
  | [], lo, hi, last => by unfold crun; split <;> simp
  | x :: l, lo, hi, last => by
    unfold crun
    split
    · have := crun_len cl l lo x.hi last; simp; omega
    · have := crun_len cl l x.lo x.hi (cl x.tg)
      split <;> simp <;> omega
/-- Two rows of runs that have the same labels are the same. -/
theorem runs_same {l m : List Ar} (ul : upA l 0) (um : upA m 0) (tl : ∀ x ∈ l, x.tg ≠ 0) (tm : ∀ x ∈ m, x.tg ≠ 0) (rl : runsA l) (rm : runsA m) (h : ∀ c, tagA l c = tagA m c) : l = m := by
  have hone := runs_one (fun x : Int => x) (fun x => x) l m 0 ul um (runs_get rl) (runs_get rm) (fun c => by
    have := h c
    unfold tagA at this
    cases h1 : arcOf l c with
    | none =>
      cases h2 : arcOf m c with
      | none => rfl
      | some y =>
        rw [h1, h2] at this
        exact absurd this.symm (tm y (arcOf_mem h2).1)
    | some x =>
      cases h2 : arcOf m c with
      | none =>
        rw [h1, h2] at this
        exact absurd this (tl x (arcOf_mem h1).1)
      | some y =>
        rw [h1, h2] at this
        simp only at this
        simp [this])
  have inj : ∀ (l m : List Ar), l.map (fun x => (x.lo, x.hi, x.tg)) = m.map (fun x => (x.lo, x.hi, x.tg)) → l = m := by
    intro l
    induction l with
    | nil => intro m h; cases m with
      | nil => rfl
      | cons => simp at h
    | cons a l ih => intro m h; cases m with
      | nil => simp at h
      | cons b m =>
        simp only [List.map_cons, List.cons.injEq, Prod.mk.injEq] at h
        obtain ⟨a1, a2, a3⟩ := a
        obtain ⟨b1, b2, b3⟩ := b
        simp only at h
        rw [ih m h.2, h.1.1, h.1.2.1, h.1.2.2]
  exact inj l m hone
def tri (x : Ar) : List Int := [x.lo, x.hi, x.tg]
theorem tri_inj : ∀ {l m : List Ar}, l.flatMap tri = m.flatMap tri → l = m
  | [], [], _ => rfl
  | [], y :: m, h => by simp [tri] at h
  | x :: l, [], h => by simp [tri] at h
  | x :: l, y :: m, h => by
    simp only [List.flatMap_cons, tri, List.cons_append, List.nil_append, List.cons.injEq] at h
    obtain ⟨h1, h2, h3, h4⟩ := h
    have := tri_inj (l := l) (m := m) h4
    obtain ⟨a1, a2, a3⟩ := x
    obtain ⟨b1, b2, b3⟩ := y
    simp only at h1 h2 h3
    rw [this, h1, h2, h3]
/-- A state's key. -/
def keyA (l : List Ds) (c : List Int) (a : Int) : List Int := clsOf c a :: (runC (clsOf c) (arcsD l a)).flatMap tri
theorem upA_all {l : List Ds} (hf : fitD l) {a : Int} (h : okS l.length a) : upA (arcsD l a) 0 := by
  by_cases h0 : 0 ≤ a
  · have := (hf.at (p := a.toNat) (by unfold okS at h; omega)).1
    rwa [Int.toNat_of_nonneg h0] at this
  · unfold arcsD; rw [if_neg h0]; exact trivial
theorem lab_led (l : List Ds) (c : List Int) (a x : Int) : labA (clsOf c) (arcsD l a) x = clsOf c (ledD l a x) := by
  unfold labA ledD nextA
  cases arcOf (arcsD l a) x with
  | none => rfl
  | some y => rfl
theorem key_iff {l : List Ds} (hf : fitD l) (c : List Int) {a b : Int} (ha : okS l.length a) (hb : okS l.length b) : keyA l c a = keyA l c b ↔ clsOf c a = clsOf c b ∧ ∀ x, clsOf c (ledD l a x) = clsOf c (ledD l b x) := by
  obtain ⟨p1, p2, p3, p4⟩ := runC_all (clsOf c) (upA_all hf ha)
  obtain ⟨q1, q2, q3, q4⟩ := runC_all (clsOf c) (upA_all hf hb)
  unfold keyA
  rw [List.cons.injEq]
  constructor
  · rintro ⟨h1, h2⟩
    refine ⟨h1, fun x => ?_⟩
    rw [← lab_led, ← lab_led, ← p4, ← q4, tri_inj h2]
  · rintro ⟨h1, h2⟩
    refine ⟨h1, ?_⟩
    rw [runs_same p1 q1 (fun x hx => (p2 x hx).1) (fun x hx => (q2 x hx).1) p3 q3 (fun x => by rw [p4, q4, lab_led, lab_led]; exact h2 x)]
/-- The classes of the first round, and of the next one. -/
theorem cls_first {l : List Ds} {c : List Int} (h : c = meetL [(-1 : Int)] (l.map Ds.acc)) : Cls l 0 c := by
  have e : (List.range l.length).map (fun i : Nat => accD l (i : Nat)) = l.map Ds.acc := by
    apply List.ext_getElem
    · simp
    · intro i h1 h2
      simp only [List.length_map, List.length_range] at h1
      simp [(arcsD_mem h1).2]
  obtain ⟨h1, h2, h3, h4⟩ := numbered l.length (accD l) (c := c) (by rw [e, h]; rfl)
  exact ⟨h1, h2, h3, fun a b ha hb => by rw [h4 a b ha hb, eqK_zero]⟩
theorem cls_next {l : List Ds} (hf : fitD l) {k : Nat} {c d : List Int} {κ : Type} [DecidableEq κ] (g : List Int → κ) (hc : Cls l k c) (hg : ∀ a b, okS l.length a → okS l.length b → g (keyA l c a) = g (keyA l c b) → keyA l c a = keyA l c b) (h : d = meetL [g (keyA l c (-1))] ((List.range l.length).map fun i => g (keyA l c (i : Nat)))) : Cls l (k + 1) d := by
  obtain ⟨h1, h2, h3, h4⟩ := numbered l.length (fun a => g (keyA l c a)) (c := d) h
  refine ⟨h1, h2, h3, fun a b ha hb => ?_⟩
  rw [h4 a b ha hb, eqK_succ, ← hc.tell a b ha hb]
  constructor
  · intro he
    obtain ⟨q1, q2⟩ := (key_iff hf c ha hb).1 (hg a b ha hb he)
    exact ⟨q1, fun x => (hc.tell _ _ (led_ok hf ha x) (led_ok hf hb x)).1 (q2 x)⟩
  · rintro ⟨q1, q2⟩
    show g _ = g _
    rw [(key_iff hf c ha hb).2 ⟨q1, fun x => (hc.tell _ _ (led_ok hf ha x) (led_ok hf hb x)).2 (q2 x)⟩]
end Go.Proofs.Ytdalomibilicfaa
