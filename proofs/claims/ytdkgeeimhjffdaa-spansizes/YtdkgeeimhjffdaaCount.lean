/- The size of a normal form is how many bytes it has: counted, and what follows for either, both, and one without the other. -/
import Derived.Test.YtdkgeeimhjffdaaAlgebra
namespace Go.Proofs.Ytdkgeeimhjffdaa

def cntN (f : Int → Bool) : Nat → Nat
  | 0 => 0
  | n + 1 => cntN f n + (f n).toNat
theorem cnt_congr {f g : Int → Bool} (h : ∀ x, f x = g x) (n : Nat) : cntN f n = cntN g n := by
  induction n with
  | zero => rfl
  | succ n ih => simp only [cntN, ih, h]
theorem cnt_le (f : Int → Bool) (n : Nat) : cntN f n ≤ n := by
  induction n with
  | zero => exact Nat.le_refl _
  | succ n ih => simp only [cntN]; cases f n <;> simp <;> omega
theorem cnt_or {f g : Int → Bool} (h : ∀ x, ¬ (f x = true ∧ g x = true)) (n : Nat) : cntN (fun x => f x || g x) n = cntN f n + cntN g n := by
  induction n with
  | zero => rfl
  | succ n ih =>
    have := h n
    simp only [cntN, ih]
    revert this
    cases f n <;> cases g n <;> simp <;> omega
theorem cnt_both (f g : Int → Bool) (n : Nat) : cntN (fun x => f x || g x) n + cntN (fun x => f x && g x) n = cntN f n + cntN g n := by
  induction n with
  | zero => rfl
  | succ n ih =>
    simp only [cntN]
    cases f n <;> cases g n <;> simp <;> omega
theorem cnt_less (f g : Int → Bool) (n : Nat) : cntN (fun x => f x && !g x) n + cntN (fun x => f x && g x) n = cntN f n := by
  induction n with
  | zero => rfl
  | succ n ih =>
    simp only [cntN]
    cases f n <;> cases g n <;> simp <;> omega
theorem cnt_iv (a b : Int) (ha : 0 ≤ a) (hab : a ≤ b) (n : Nat) : (cntN (fun x => decide (0 ≤ x ∧ a ≤ x ∧ x < b)) n : Int) = min b n - min a n := by
  induction n with
  | zero => simp [cntN]; omega
  | succ n ih =>
    simp only [cntN]
    by_cases h : 0 ≤ (n : Int) ∧ a ≤ n ∧ (n : Int) < b
    · rw [decide_eq_true h]; simp only [Bool.toNat_true]; omega
    · rw [decide_eq_false h]; simp only [Bool.toNat_false]; omega
theorem size_cnt (n : Nat) : ∀ {l : List Rg}, Fit l → (∀ r ∈ l, r.2 ≤ n) → sizeN l = cntN (hasL l) n
  | [], _, _ => by
    have : ∀ n, cntN (hasL []) n = 0 := fun n => by
      induction n with
      | zero => rfl
      | succ n ih => simp [cntN, ih, hasL_nil]
    simp [sizeN, this]
  | r :: t, hf, hr => by
    have h0 := hf.1 r (by simp)
    have h1 := hr r (by simp)
    have h2 := size_cnt n hf.tail (fun s hs => hr s (by simp [hs]))
    have h3 : cntN (hasL (r :: t)) n = cntN (fun x => decide (0 ≤ x ∧ r.1 ≤ x ∧ x < r.2)) n + cntN (hasL t) n := by
      rw [← cnt_or]
      · exact cnt_congr (fun x => hasL_cons r t x) n
      · rintro x ⟨k1, k2⟩
        obtain ⟨s, hs, _, k3, _⟩ := hasL_iff.1 k2
        have := hf.head s hs
        have := of_decide_eq_true k1
        omega
    have h4 := cnt_iv r.1 r.2 h0.1 (by omega) n
    simp only [sizeN]
    rw [h3, h2]
    omega

/-- The ends of a set whose bytes all lie below n. -/
theorem ends_le {rs : List Rg} {n : Int} (hf : Fit rs) (h : ∀ x, hasL rs x = true → x < n) : ∀ r ∈ rs, r.2 ≤ n := by
  intro r hr
  have h0 := hf.1 r hr
  have := h (r.2 - 1) (hasL_iff.2 ⟨r, hr, by omega, by omega, by omega⟩)
  omega
theorem below_has {rs : List Rg} {n : Int} (h : ∀ r ∈ rs, r.2 ≤ n) : ∀ x, hasL rs x = true → x < n := by
  intro x hx
  obtain ⟨r, hr, _, _, k⟩ := hasL_iff.1 hx
  have := h r hr
  omega
theorem last_le {rs : List Rg} {n : Int} (hf : Fit rs) (hl : ∀ k, k + 1 = rs.length → ∀ r, rs[k]? = some r → r.2 ≤ n) : ∀ r ∈ rs, r.2 ≤ n := by
  intro r hr
  obtain ⟨i, hi, rfl⟩ := List.getElem_of_mem hr
  obtain ⟨k, hk⟩ : ∃ k, k + 1 = rs.length := ⟨rs.length - 1, by omega⟩
  have h1 := hl k hk rs[k] (by simp [show k < rs.length by omega])
  rcases Nat.lt_or_ge i k with hlt | hge
  · have := List.pairwise_iff_getElem.1 hf.2 i k hi (by omega) hlt
    have := hf.1 _ (List.getElem_mem (show k < rs.length by omega))
    omega
  · obtain rfl : i = k := by omega
    exact h1

/-- Sizes of what either has, both have, and one without the other. -/
theorem sizes_set {xs ys js ms ls a b : List Rg} {n : Nat} (hx : Fit xs) (hy : Fit ys) (hj : Fit js) (hm : Fit ms) (hl : Fit ls) (nx : ∀ r ∈ xs, r.2 ≤ n) (ny : ∀ r ∈ ys, r.2 ≤ n)
    (ex : ∀ x, hasL xs x = hasL a x) (ey : ∀ x, hasL ys x = hasL b x) (ej : ∀ x, hasL js x = (hasL a x || hasL b x)) (em : ∀ x, hasL ms x = (hasL a x && hasL b x)) (el : ∀ x, hasL ls x = (hasL a x && !hasL b x)) :
    sizeN js + sizeN ms = sizeN xs + sizeN ys ∧ sizeN ls + sizeN ms = sizeN xs ∧ (0 ≤ sizeN js ∧ sizeN js ≤ n) ∧ (0 ≤ sizeN ms ∧ sizeN ms ≤ n) ∧ (0 ≤ sizeN ls ∧ sizeN ls ≤ n) ∧ (0 ≤ sizeN xs ∧ sizeN xs ≤ n) ∧ (0 ≤ sizeN ys ∧ sizeN ys ≤ n) := by
  have ba : ∀ x, hasL a x = true → x < (n : Int) := fun x h => below_has nx x (by rw [ex]; exact h)
  have bb : ∀ x, hasL b x = true → x < (n : Int) := fun x h => below_has ny x (by rw [ey]; exact h)
  have nj := ends_le (n := (n : Int)) hj fun x h => by
    rw [ej] at h
    rcases Bool.or_eq_true_iff.1 h with h | h
    · exact ba x h
    · exact bb x h
  have nm := ends_le (n := (n : Int)) hm fun x h => by rw [em] at h; exact ba x (Bool.and_eq_true_iff.1 h).1
  have nl := ends_le (n := (n : Int)) hl fun x h => by rw [el] at h; exact ba x (Bool.and_eq_true_iff.1 h).1
  have sx := size_cnt n hx nx
  have sy := size_cnt n hy ny
  have sj := size_cnt n hj nj
  have sm := size_cnt n hm nm
  have sl := size_cnt n hl nl
  rw [cnt_congr ex] at sx
  rw [cnt_congr ey] at sy
  rw [cnt_congr ej] at sj
  rw [cnt_congr em] at sm
  rw [cnt_congr el] at sl
  have c1 := cnt_both (hasL a) (hasL b) n
  have c2 := cnt_less (hasL a) (hasL b) n
  have k1 := cnt_le (hasL a) n
  have k2 := cnt_le (hasL b) n
  have k3 := cnt_le (fun x => hasL a x || hasL b x) n
  have k4 := cnt_le (fun x => hasL a x && hasL b x) n
  have k5 := cnt_le (fun x => hasL a x && !hasL b x) n
  omega

theorem sizes_two {xs ys js ms a b : List Rg} {n : Nat} (hx : Fit xs) (hy : Fit ys) (hj : Fit js) (hm : Fit ms) (nx : ∀ r ∈ xs, r.2 ≤ n) (ny : ∀ r ∈ ys, r.2 ≤ n)
    (ex : ∀ x, hasL xs x = hasL a x) (ey : ∀ x, hasL ys x = hasL b x) (ej : ∀ x, hasL js x = (hasL a x || hasL b x)) (em : ∀ x, hasL ms x = (hasL a x && hasL b x)) :
    sizeN js + sizeN ms = sizeN xs + sizeN ys ∧ (0 ≤ sizeN js ∧ sizeN js ≤ n) ∧ (0 ≤ sizeN ms ∧ sizeN ms ≤ n) ∧ (0 ≤ sizeN xs ∧ sizeN xs ≤ n) ∧ (0 ≤ sizeN ys ∧ sizeN ys ≤ n) := by
  have ba : ∀ x, hasL a x = true → x < (n : Int) := fun x h => below_has nx x (by rw [ex]; exact h)
  have bb : ∀ x, hasL b x = true → x < (n : Int) := fun x h => below_has ny x (by rw [ey]; exact h)
  have nj := ends_le (n := (n : Int)) hj fun x h => by
    rw [ej] at h
    rcases Bool.or_eq_true_iff.1 h with h | h
    · exact ba x h
    · exact bb x h
  have nm := ends_le (n := (n : Int)) hm fun x h => by rw [em] at h; exact ba x (Bool.and_eq_true_iff.1 h).1
  have sx := size_cnt n hx nx
  have sy := size_cnt n hy ny
  have sj := size_cnt n hj nj
  have sm := size_cnt n hm nm
  rw [cnt_congr ex] at sx
  rw [cnt_congr ey] at sy
  rw [cnt_congr ej] at sj
  rw [cnt_congr em] at sm
  have c1 := cnt_both (hasL a) (hasL b) n
  have k1 := cnt_le (hasL a) n
  have k2 := cnt_le (hasL b) n
  have k3 := cnt_le (fun x => hasL a x || hasL b x) n
  have k4 := cnt_le (fun x => hasL a x && hasL b x) n
  omega
end Go.Proofs.Ytdkgeeimhjffdaa
