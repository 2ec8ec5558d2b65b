/- Sets of bytes as rows of ranges, as plain mathematics: normal forms are unique; what borders are, and what is kept between them; no program is spoken of. -/
import GoSem.Claim
namespace Go.Proofs.Ytdkgeeimhjffdaa

abbrev Rg := Int × Int

/-- Is a byte in ranges? -/
def hasL (l : List Rg) (x : Int) : Bool := l.any fun r => decide (0 ≤ x ∧ r.1 ≤ x ∧ x < r.2)

/-- The normal form. -/
def Fit (l : List Rg) : Prop := (∀ r ∈ l, 0 ≤ r.1 ∧ r.1 < r.2) ∧ l.Pairwise fun r s => r.2 < s.1

theorem hasL_iff {l : List Rg} {x : Int} : hasL l x = true ↔ ∃ r ∈ l, 0 ≤ x ∧ r.1 ≤ x ∧ x < r.2 := by
  simp only [hasL, List.any_eq_true, decide_eq_true_eq]
theorem hasL_nil (x : Int) : hasL [] x = false := rfl
theorem hasL_cons (r : Rg) (l : List Rg) (x : Int) : hasL (r :: l) x = (decide (0 ≤ x ∧ r.1 ≤ x ∧ x < r.2) || hasL l x) := by simp [hasL]
theorem hasL_append (a b : List Rg) (x : Int) : hasL (a ++ b) x = (hasL a x || hasL b x) := by simp [hasL]

theorem Fit.tail {r : Rg} {t : List Rg} (h : Fit (r :: t)) : Fit t := ⟨fun s hs => h.1 s (List.mem_cons_of_mem _ hs), (List.pairwise_cons.1 h.2).2⟩
theorem Fit.head {r : Rg} {t : List Rg} (h : Fit (r :: t)) : ∀ s ∈ t, r.2 < s.1 := (List.pairwise_cons.1 h.2).1
theorem Fit.nil : Fit [] := ⟨by simp, List.Pairwise.nil⟩

theorem fit_le1 {r r' : Rg} {t t' : List Rg} (h : Fit (r :: t)) (h' : Fit (r' :: t')) (he : ∀ x, hasL (r :: t) x = hasL (r' :: t') x) : r'.1 ≤ r.1 := by
  have h0 := h.1 r (by simp)
  have h1 : hasL (r :: t) r.1 = true := hasL_iff.2 ⟨r, by simp, by omega, by omega, by omega⟩
  rw [he] at h1
  obtain ⟨s, hs, k0, k1, k2⟩ := hasL_iff.1 h1
  rcases List.mem_cons.1 hs with rfl | hs
  · exact k1
  · have := h'.head s hs
    have := h'.1 r' (by simp)
    omega

theorem fit_le2 {r r' : Rg} {t t' : List Rg} (h : Fit (r :: t)) (he : ∀ x, hasL (r :: t) x = hasL (r' :: t') x) (h1 : r'.1 = r.1) : r'.2 ≤ r.2 := by
  rcases Int.lt_or_le r.2 r'.2 with hlt | hle
  · exfalso
    have h0 := h.1 r (by simp)
    have h2 : hasL (r' :: t') r.2 = true := hasL_iff.2 ⟨r', by simp, by omega, by omega, by omega⟩
    rw [← he] at h2
    obtain ⟨s, hs, k0, k1, k2⟩ := hasL_iff.1 h2
    rcases List.mem_cons.1 hs with rfl | hs
    · omega
    · have := h.head s hs
      omega
  · exact hle

theorem fit_tail {r : Rg} {t t' : List Rg} (h : Fit (r :: t)) (he : ∀ x, hasL (r :: t) x = hasL (r :: t') x) (x : Int) (hx : hasL t x = true) : hasL t' x = true := by
  obtain ⟨s, hs, k0, k1, k2⟩ := hasL_iff.1 hx
  have := h.head s hs
  have h2 : hasL (r :: t) x = true := by rw [hasL_cons, hx]; simp
  rw [he, hasL_cons] at h2
  rcases Bool.or_eq_true_iff.1 h2 with h3 | h3
  · have := of_decide_eq_true h3
    omega
  · exact h3

/-- A set has one normal form. -/
theorem fit_unique : ∀ {l l' : List Rg}, Fit l → Fit l' → (∀ x, hasL l x = hasL l' x) → l = l'
  | [], [], _, _, _ => rfl
  | [], r :: t, _, h, he => by
    have h0 := h.1 r (by simp)
    have h1 : hasL (r :: t) r.1 = true := hasL_iff.2 ⟨r, by simp, by omega, by omega, by omega⟩
    rw [← he] at h1
    cases h1
  | r :: t, [], h, _, he => by
    have h0 := h.1 r (by simp)
    have h1 : hasL (r :: t) r.1 = true := hasL_iff.2 ⟨r, by simp, by omega, by omega, by omega⟩
    rw [he] at h1
    cases h1
  | r :: t, r' :: t', h, h', he => by
    have a1 : r'.1 = r.1 := by
      have := fit_le1 h h' he
      have := fit_le1 h' h (fun x => (he x).symm)
      omega
    have a2 : r'.2 = r.2 := by
      have := fit_le2 h he a1
      have := fit_le2 h' (fun x => (he x).symm) a1.symm
      omega
    obtain rfl : r' = r := Prod.ext a1 a2
    have : t = t' := fit_unique h.tail h'.tail fun x => by
      have u := fit_tail h he x
      have v := fit_tail h' (fun x => (he x).symm) x
      rcases hb : hasL t x with _ | _ <;> rcases hc : hasL t' x with _ | _ <;> simp_all
    rw [this]

theorem has_bound (l : List Rg) : ∃ X : Int, ∀ x, X ≤ x → hasL l x = false := by
  induction l with
  | nil => exact ⟨0, fun _ _ => rfl⟩
  | cons r t ih =>
    obtain ⟨X, hX⟩ := ih
    refine ⟨max X r.2, fun x hx => ?_⟩
    rw [hasL_cons, hX x (by omega)]
    simp
    omega

/-! Borders -/
abbrev Bd := Int × Bool × Bool
def lvl (ys : List Bd) (x : Int) : Bool × Bool := ys.foldl (fun d y => if y.1 ≤ x then y.2 else d) (false, false)
theorem lvl_snoc (ys : List Bd) (y : Bd) (x : Int) : lvl (ys ++ [y]) x = if y.1 ≤ x then y.2 else lvl ys x := by simp [lvl]

/-- Borders of two sets: each once, rising, and what holds from there on. -/
structure Bord (a b : List Rg) (ys : List Bd) : Prop where
  rise : ys.Pairwise fun y z => y.1 < z.1
  pos : ∀ y ∈ ys, 0 ≤ y.1
  lv : ∀ x, lvl ys x = (hasL a x, hasL b x)

abbrev Ks := List Rg × Int × Bool
def kstep (p : Bool → Bool → Bool) (st : Ks) (y : Bd) : Ks :=
  if p y.2.1 y.2.2 = st.2.2 then st else if st.2.2 = true then (st.1 ++ [(st.2.1, y.1)], y.1, false) else (st.1, y.1, true)
def kfold (p : Bool → Bool → Bool) (ys : List Bd) : Ks := ys.foldl (kstep p) ([], 0, false)
theorem kfold_snoc (p : Bool → Bool → Bool) (ys : List Bd) (y : Bd) : kfold p (ys ++ [y]) = kstep p (kfold p ys) y := by simp [kfold]

structure Kinv (p : Bool → Bool → Bool) (ys : List Bd) (st : Ks) : Prop where
  fit : Fit st.1
  ends : ∀ r ∈ st.1, ∃ y ∈ ys, r.2 ≤ y.1
  opn : st.2.2 = true → 0 ≤ st.2.1 ∧ (∃ y ∈ ys, st.2.1 ≤ y.1) ∧ ∀ r ∈ st.1, r.2 < st.2.1
  lv : ∀ x, p (lvl ys x).1 (lvl ys x).2 = (hasL st.1 x || (st.2.2 && decide (st.2.1 ≤ x)))
  len : st.1.length ≤ ys.length

theorem fit_snoc {l : List Rg} {f t : Int} (h : Fit l) (h0 : 0 ≤ f) (h1 : f < t) (hl : ∀ r ∈ l, r.2 < f) : Fit (l ++ [(f, t)]) := by
  refine ⟨fun r hr => ?_, List.pairwise_append.2 ⟨h.2, List.pairwise_singleton _ _, fun r hr s hs => ?_⟩⟩
  · rcases List.mem_append.1 hr with hr | hr
    · exact h.1 r hr
    · simp at hr; subst hr; exact ⟨h0, h1⟩
  · simp at hs; subst hs; exact hl r hr

theorem has_behind {l : List Rg} {x : Int} (h : ∀ r ∈ l, r.2 ≤ x) : hasL l x = false := by
  rcases hb : hasL l x with _ | _
  · rfl
  · obtain ⟨r, hr, _, _, k⟩ := hasL_iff.1 hb
    have := h r hr
    omega

theorem kinv_step {p : Bool → Bool → Bool} {ys : List Bd} {st : Ks} {y : Bd} (h : Kinv p ys st) (hy : ∀ z ∈ ys, z.1 < y.1) (h0 : 0 ≤ y.1) : Kinv p (ys ++ [y]) (kstep p st y) := by
  obtain ⟨l, f, o⟩ := st
  obtain ⟨fit, ends, opn, lv, len⟩ := h
  simp only at fit ends opn lv len
  have hend : ∀ r ∈ l, r.2 < y.1 := fun r hr => by
    obtain ⟨z, hz, k⟩ := ends r hr
    have := hy z hz
    omega
  have mono : ∀ v : Int, (∃ z ∈ ys, v ≤ z.1) → ∃ z ∈ ys ++ [y], v ≤ z.1 := fun v ⟨z, hz, k⟩ => ⟨z, by simp [hz], k⟩
  unfold kstep
  by_cases c1 : p y.2.1 y.2.2 = o
  · rw [if_pos c1]
    refine ⟨fit, fun r hr => mono _ (ends r hr), fun ho => ⟨(opn ho).1, mono _ (opn ho).2.1, (opn ho).2.2⟩, fun x => ?_, by simp; omega⟩
    rw [lvl_snoc]
    by_cases hx : y.1 ≤ x
    · rw [if_pos hx, c1, has_behind (fun r hr => by have := hend r hr; omega)]
      cases o with
      | false => rfl
      | true =>
        obtain ⟨_, ⟨z, hz, k⟩, _⟩ := opn rfl
        have := hy z hz
        simp
        omega
    · rw [if_neg hx]; exact lv x
  · rw [if_neg c1]
    cases o with
    | true =>
      obtain ⟨f0, ⟨z, hz, k⟩, fl⟩ := opn rfl
      have hzy := hy z hz
      have c2 : p y.2.1 y.2.2 = false := by simpa using c1
      simp only [if_true]
      refine ⟨fit_snoc fit f0 (by omega) fl, fun r hr => ?_, fun ho => (by cases ho), fun x => ?_, by simp; omega⟩
      · rcases List.mem_append.1 hr with hr | hr
        · exact mono _ (ends r hr)
        · simp at hr; subst hr; exact ⟨y, by simp, Int.le_refl _⟩
      · simp only [lvl_snoc, hasL_append, hasL_cons, hasL_nil]
        by_cases hx : y.1 ≤ x
        · rw [if_pos hx, c2, has_behind (fun r hr => by have := hend r hr; omega)]
          have : ¬ x < y.1 := by omega
          simp [this]
        · rw [if_neg hx, lv x]
          have : x < y.1 := by omega
          have h3 : (0 ≤ x ∧ f ≤ x) ↔ f ≤ x := ⟨fun h => h.2, fun h => ⟨by omega, h⟩⟩
          simp [this, h3]
    | false =>
      have c2 : p y.2.1 y.2.2 = true := by simpa using c1
      simp only [Bool.false_eq_true, if_false]
      refine ⟨fit, fun r hr => mono _ (ends r hr), fun _ => ⟨h0, ⟨y, by simp, Int.le_refl _⟩, hend⟩, fun x => ?_, by simp; omega⟩
      rw [lvl_snoc]
      by_cases hx : y.1 ≤ x
      · rw [if_pos hx, c2]; simp [hx]
      · rw [if_neg hx, lv x]; simp [hx]

theorem kinv_fold {p : Bool → Bool → Bool} : ∀ (zs pre : List Bd) (st : Ks), Kinv p pre st → (pre ++ zs).Pairwise (fun y z => y.1 < z.1) → (∀ y ∈ zs, 0 ≤ y.1) → Kinv p (pre ++ zs) (zs.foldl (kstep p) st)
  | [], pre, st, h, _, _ => by simpa using h
  | y :: zs, pre, st, h, hr, hp => by
    have h1 : ∀ z ∈ pre, z.1 < y.1 := fun z hz => (List.pairwise_append.1 hr).2.2 z hz y (by simp)
    have h2 := kinv_step h h1 (hp y (by simp))
    have h3 := kinv_fold zs (pre ++ [y]) (kstep p st y) h2 (by simpa using hr) (fun z hz => hp z (by simp [hz]))
    simpa using h3

/-- What is kept between borders: the normal form of the bytes that stay. -/
theorem keep_fit {p : Bool → Bool → Bool} {a b : List Rg} {ys : List Bd} (hp : p false false = false) (h : Bord a b ys) :
    Fit (kfold p ys).1 ∧ (∀ x, hasL (kfold p ys).1 x = p (hasL a x) (hasL b x)) ∧ (kfold p ys).1.length ≤ ys.length := by
  have hk : Kinv p ys (kfold p ys) := by
    have := kinv_fold (p := p) ys [] ([], 0, false) ⟨Fit.nil, by simp, by simp, by simp [lvl, hp, hasL_nil], by simp⟩ (by simpa using h.rise) h.pos
    simpa [kfold] using this
  refine ⟨hk.fit, fun x => ?_, hk.len⟩
  have hc : (kfold p ys).2.2 = false := by
    rcases hb : (kfold p ys).2.2 with _ | _
    · rfl
    · obtain ⟨A, hA⟩ := has_bound a
      obtain ⟨B, hB⟩ := has_bound b
      have h1 := hk.lv (max (max A B) (kfold p ys).2.1)
      rw [h.lv, hA _ (by omega), hB _ (by omega), hp, hb] at h1
      simp at h1
      omega
  have h2 := hk.lv x
  rw [h.lv, hc] at h2
  simpa using h2.symm

/-! Where ranges begin and end -/
abbrev Mk := Int × Int × Int
def mk1 (r : Rg) : List Mk := if max r.1 0 < r.2 then [(max r.1 0, 1, 0), (r.2, -1, 0)] else []
def mk2 (r : Rg) : List Mk := if max r.1 0 < r.2 then [(max r.1 0, 0, 1), (r.2, 0, -1)] else []
def marksL (a b : List Rg) : List Mk := a.flatMap mk1 ++ b.flatMap mk2
def sA (x : Int) : List Mk → Int
  | [] => 0
  | m :: t => (if m.1 ≤ x then m.2.1 else 0) + sA x t
def sB (x : Int) : List Mk → Int
  | [] => 0
  | m :: t => (if m.1 ≤ x then m.2.2 else 0) + sB x t
theorem sA_append (x : Int) (a b : List Mk) : sA x (a ++ b) = sA x a + sA x b := by
  induction a with
  | nil => simp [sA]
  | cons m t ih => simp only [List.cons_append, sA, ih]; omega
theorem sB_append (x : Int) (a b : List Mk) : sB x (a ++ b) = sB x a + sB x b := by
  induction a with
  | nil => simp [sB]
  | cons m t ih => simp only [List.cons_append, sB, ih]; omega
theorem sA_perm (x : Int) {a b : List Mk} (h : a.Perm b) : sA x a = sA x b := by
  induction h with
  | nil => rfl
  | cons m _ ih => simp only [sA, ih]
  | swap m n l => simp only [sA]; omega
  | trans _ _ h1 h2 => exact h1.trans h2
theorem sB_perm (x : Int) {a b : List Mk} (h : a.Perm b) : sB x a = sB x b := by
  induction h with
  | nil => rfl
  | cons m _ ih => simp only [sB, ih]
  | swap m n l => simp only [sB]; omega
  | trans _ _ h1 h2 => exact h1.trans h2
theorem sA_mk1 (x : Int) (a : List Rg) : 0 ≤ sA x (a.flatMap mk1) ∧ (0 < sA x (a.flatMap mk1) ↔ hasL a x = true) := by
  induction a with
  | nil => simp [sA, hasL_nil]
  | cons r t ih =>
    rw [List.flatMap_cons, sA_append, hasL_cons, Bool.or_eq_true, ← ih.2, decide_eq_true_eq]
    obtain ⟨i1, _⟩ := ih
    generalize sA x (t.flatMap mk1) = q at *
    unfold mk1
    split
    · simp only [sA]
      split <;> split <;> omega
    · simp only [sA]
      omega
theorem sB_mk2 (x : Int) (a : List Rg) : 0 ≤ sB x (a.flatMap mk2) ∧ (0 < sB x (a.flatMap mk2) ↔ hasL a x = true) := by
  induction a with
  | nil => simp [sB, hasL_nil]
  | cons r t ih =>
    rw [List.flatMap_cons, sB_append, hasL_cons, Bool.or_eq_true, ← ih.2, decide_eq_true_eq]
    obtain ⟨i1, _⟩ := ih
    generalize sB x (t.flatMap mk2) = q at *
    unfold mk2
    split
    · simp only [sB]
      split <;> split <;> omega
    · simp only [sB]
      omega
theorem sA_mk2 (x : Int) (a : List Rg) : sA x (a.flatMap mk2) = 0 := by
  induction a with
  | nil => rfl
  | cons r t ih =>
    rw [List.flatMap_cons, sA_append, ih]
    unfold mk2
    split <;> simp [sA]
theorem sB_mk1 (x : Int) (a : List Rg) : sB x (a.flatMap mk1) = 0 := by
  induction a with
  | nil => rfl
  | cons r t ih =>
    rw [List.flatMap_cons, sB_append, ih]
    unfold mk1
    split <;> simp [sB]
theorem sA_marks (x : Int) (a b : List Rg) : decide (0 < sA x (marksL a b)) = hasL a x := by
  have h := sA_mk1 x a
  rw [marksL, sA_append, sA_mk2]
  rcases hb : hasL a x with _ | _ <;> simp [hb] at h ⊢ <;> omega
theorem sB_marks (x : Int) (a b : List Rg) : decide (0 < sB x (marksL a b)) = hasL b x := by
  have h := sB_mk2 x b
  rw [marksL, sB_append, sB_mk1]
  rcases hb : hasL b x with _ | _ <;> simp [hb] at h ⊢ <;> omega

/-- What each mark is. -/
def MkOk (m : Mk) : Prop := 0 ≤ m.1 ∧ m.1 ≤ 9223372036854775807 ∧ -1 ≤ m.2.1 ∧ m.2.1 ≤ 1 ∧ -1 ≤ m.2.2 ∧ m.2.2 ≤ 1
def RgOk (r : Rg) : Prop := -9223372036854775808 ≤ r.1 ∧ r.1 ≤ 9223372036854775807 ∧ -9223372036854775808 ≤ r.2 ∧ r.2 ≤ 9223372036854775807
theorem mk1_ok {r : Rg} (h : RgOk r) : ∀ m ∈ mk1 r, MkOk m := by
  intro m hm
  unfold RgOk at h
  unfold mk1 at hm
  split at hm
  · simp at hm
    rcases hm with rfl | rfl <;> (simp only [MkOk]; omega)
  · simp at hm
theorem mk2_ok {r : Rg} (h : RgOk r) : ∀ m ∈ mk2 r, MkOk m := by
  intro m hm
  unfold RgOk at h
  unfold mk2 at hm
  split at hm
  · simp at hm
    rcases hm with rfl | rfl <;> (simp only [MkOk]; omega)
  · simp at hm
theorem marks_ok {a b : List Rg} (ha : ∀ r ∈ a, RgOk r) (hb : ∀ r ∈ b, RgOk r) : ∀ m ∈ marksL a b, MkOk m := by
  intro m hm
  rcases List.mem_append.1 hm with h | h
  · obtain ⟨r, hr, h⟩ := List.mem_flatMap.1 h; exact mk1_ok (ha r hr) m h
  · obtain ⟨r, hr, h⟩ := List.mem_flatMap.1 h; exact mk2_ok (hb r hr) m h
theorem mk1_len (a : List Rg) : (a.flatMap mk1).length ≤ 2 * a.length := by
  induction a with
  | nil => simp
  | cons r t ih =>
    rw [List.flatMap_cons, List.length_append, List.length_cons]
    have : (mk1 r).length ≤ 2 := by unfold mk1; split <;> simp
    omega
theorem mk2_len (a : List Rg) : (a.flatMap mk2).length ≤ 2 * a.length := by
  induction a with
  | nil => simp
  | cons r t ih =>
    rw [List.flatMap_cons, List.length_append, List.length_cons]
    have : (mk2 r).length ≤ 2 := by unfold mk2; split <;> simp
    omega
theorem marks_len (a b : List Rg) : (marksL a b).length ≤ 2 * (a.length + b.length) := by
  have := mk1_len a
  have := mk2_len b
  rw [marksL, List.length_append]
  omega

/-- Sums of the whole. -/
def tA : List Mk → Int
  | [] => 0
  | m :: t => m.2.1 + tA t
def tB : List Mk → Int
  | [] => 0
  | m :: t => m.2.2 + tB t
theorem tA_snoc (l : List Mk) (m : Mk) : tA (l ++ [m]) = tA l + m.2.1 := by
  induction l with
  | nil => simp [tA]
  | cons n t ih => simp only [List.cons_append, tA, ih]; omega
theorem tB_snoc (l : List Mk) (m : Mk) : tB (l ++ [m]) = tB l + m.2.2 := by
  induction l with
  | nil => simp [tB]
  | cons n t ih => simp only [List.cons_append, tB, ih]; omega
theorem tA_le {l : List Mk} (h : ∀ m ∈ l, MkOk m) : -l.length ≤ tA l ∧ tA l ≤ l.length := by
  induction l with
  | nil => simp [tA]
  | cons n t ih =>
    have h1 := ih fun m hm => h m (by simp [hm])
    have h2 := h n (by simp)
    simp only [MkOk] at h2
    simp only [tA, List.length_cons]
    omega
theorem tB_le {l : List Mk} (h : ∀ m ∈ l, MkOk m) : -l.length ≤ tB l ∧ tB l ≤ l.length := by
  induction l with
  | nil => simp [tB]
  | cons n t ih =>
    have h1 := ih fun m hm => h m (by simp [hm])
    have h2 := h n (by simp)
    simp only [MkOk] at h2
    simp only [tB, List.length_cons]
    omega
theorem sA_all {x : Int} {l : List Mk} (h : ∀ m ∈ l, m.1 ≤ x) : sA x l = tA l := by
  induction l with
  | nil => rfl
  | cons n t ih => simp only [sA, tA, if_pos (h n (by simp)), ih fun m hm => h m (by simp [hm])]
theorem sB_all {x : Int} {l : List Mk} (h : ∀ m ∈ l, m.1 ≤ x) : sB x l = tB l := by
  induction l with
  | nil => rfl
  | cons n t ih => simp only [sB, tB, if_pos (h n (by simp)), ih fun m hm => h m (by simp [hm])]

/-- How far the borders of a row of marks are told. -/
structure Binv (P R : List Mk) (ys : List Bd) : Prop where
  rise : ys.Pairwise fun y z => y.1 < z.1
  pos : ∀ y ∈ ys, 0 ≤ y.1
  ahead : ∀ y ∈ ys, ∀ m ∈ R, y.1 < m.1
  lv : ∀ x, (∀ m ∈ R, x < m.1) → lvl ys x = (decide (0 < sA x P), decide (0 < sB x P))
  len : ys.length ≤ P.length

theorem binv_nil (R : List Mk) : Binv [] R [] := ⟨List.Pairwise.nil, by simp, by simp, by simp [lvl, sA, sB], by simp⟩
theorem binv_skip {P R : List Mk} {m : Mk} {ys : List Bd} (h : Binv P (m :: R) ys) (hs : ∃ n ∈ R, n.1 = m.1) : Binv (P ++ [m]) R ys := by
  obtain ⟨n, hn, hnm⟩ := hs
  refine ⟨h.rise, h.pos, fun y hy k hk => h.ahead y hy k (by simp [hk]), fun x hx => ?_, by have := h.len; simp; omega⟩
  have hxm : x < m.1 := by have := hx n hn; omega
  rw [h.lv x (by intro k hk; rcases List.mem_cons.1 hk with rfl | hk; exact hxm; exact hx k hk), sA_append, sB_append]
  have : ¬ m.1 ≤ x := by omega
  simp [sA, sB, this]
theorem binv_give {P R : List Mk} {m : Mk} {ys : List Bd} (h : Binv P (m :: R) ys) (h0 : 0 ≤ m.1) (hP : ∀ k ∈ P, k.1 ≤ m.1) (hR : ∀ k ∈ R, m.1 < k.1) :
    Binv (P ++ [m]) R (ys ++ [(m.1, decide (0 < tA (P ++ [m])), decide (0 < tB (P ++ [m])))]) := by
  refine ⟨List.pairwise_append.2 ⟨h.rise, List.pairwise_singleton _ _, fun y hy z hz => ?_⟩, fun y hy => ?_, fun y hy k hk => ?_, fun x hx => ?_, by have := h.len; simp; omega⟩
  · simp at hz; subst hz; exact h.ahead y hy m (by simp)
  · rcases List.mem_append.1 hy with hy | hy
    · exact h.pos y hy
    · simp at hy; subst hy; exact h0
  · rcases List.mem_append.1 hy with hy | hy
    · exact h.ahead y hy k (by simp [hk])
    · simp at hy; subst hy; exact hR k hk
  · rw [lvl_snoc]
    by_cases hm : m.1 ≤ x
    · rw [if_pos hm, sA_all, sB_all]
      all_goals
        intro k hk
        rcases List.mem_append.1 hk with hk | hk
        · have := hP k hk; omega
        · simp at hk; subst hk; exact hm
    · rw [if_neg hm, h.lv x (by intro k hk; rcases List.mem_cons.1 hk with rfl | hk; omega; exact hx k hk), sA_append, sB_append]
      simp [sA, sB, hm]
theorem binv_bord {a b : List Rg} {M : List Mk} {ys : List Bd} (h : Binv M [] ys) (hM : M.Perm (marksL a b)) : Bord a b ys := by
  refine ⟨h.rise, h.pos, fun x => ?_⟩
  rw [h.lv x (by simp), sA_perm x hM, sB_perm x hM, sA_marks, sB_marks]
end Go.Proofs.Ytdkgeeimhjffdaa
