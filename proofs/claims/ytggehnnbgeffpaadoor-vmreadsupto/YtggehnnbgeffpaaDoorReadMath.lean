/- The document's reader of programs on lists: its words and numbers are the program's. -/
import Derived.Test.YtggehnnbgeffpaaDoorBackMath
namespace Go.Proofs.YtggehnnbgeffpaaDoor
open Go.Shelf Go.RowKit Go.Lib Go.Proofs

/-- The words of the document's answer: what is left, where it stands, what is read of a word. -/
def pendW (i : Nat) (pend : List UInt8) : List (Nat × List UInt8) := if pend = [] then [] else [(i - pend.length, pend)]
def rwN : List UInt8 → Nat → List UInt8 → List (Nat × List UInt8)
  | [], i, pend => pendW i pend
  | c :: t, i, pend => if c ≠ 32 ∧ c ≠ 59 then rwN t (i + 1) (pend ++ [c]) else pendW i pend ++ ((if c = 59 then [(i, [59])] else []) ++ rwN t (i + 1) [])
theorem rw_word : ∀ (u t : List UInt8) (i : Nat) (pend : List UInt8), (∀ b ∈ u, b ≠ 32 ∧ b ≠ 59) → rwN (u ++ t) i pend = rwN t (i + u.length) (pend ++ u)
  | [], t, i, pend, _ => by simp
  | c :: u, t, i, pend, h => by
    rw [List.cons_append, rwN, if_pos (h c (by simp)), rw_word u t (i + 1) (pend ++ [c]) (fun b hb => h b (by simp [hb]))]
    simp only [List.length_cons, List.append_assoc, List.cons_append, List.nil_append]
    rw [show i + 1 + u.length = i + (u.length + 1) by omega]
theorem rw_sep (t : List UInt8) (i : Nat) (pend : List UInt8) (hs : Sep t) : rwN t i pend = pendW i pend ++ rwN t i [] := by
  rcases hs with rfl | ⟨r, rfl | rfl⟩
  · simp [rwN, pendW]
  · simp [rwN, pendW]
  · simp [rwN, pendW]
theorem split_word : ∀ l : List UInt8, ∃ u t, l = u ++ t ∧ (∀ b ∈ u, b ≠ 32 ∧ b ≠ 59) ∧ Sep t
  | [] => ⟨[], [], rfl, by simp, .inl rfl⟩
  | c :: l => by
    by_cases h : c ≠ 32 ∧ c ≠ 59
    · obtain ⟨u, t, rfl, hu, ht⟩ := split_word l
      refine ⟨c :: u, t, rfl, fun b hb => ?_, ht⟩
      rcases List.mem_cons.1 hb with rfl | hb
      · exact h
      · exact hu b hb
    · refine ⟨[], c :: l, rfl, by simp, .inr ⟨l, ?_⟩⟩
      by_cases h1 : c = 32
      · exact .inl (by rw [h1])
      · by_cases h2 : c = 59
        · exact .inr (by rw [h2])
        · exact absurd ⟨h1, h2⟩ h
theorem words_rw : ∀ (f : Nat) (l : List UInt8) (k : Nat), l.length ≤ f → wordsF f l k = rwN l k []
  | 0, l, k, h => by
    obtain rfl : l = [] := List.length_eq_zero_iff.1 (by omega)
    simp [wordsF, rwN, pendW]
  | f + 1, [], k, _ => by simp [wordsF, rwN, pendW]
  | f + 1, c :: l, k, h => by
    have hf : l.length ≤ f := by simpa using h
    by_cases h1 : c = 32
    · subst h1
      have e : wlenN (32 :: l) = 1 := by simp [wlenN, Lib.indexAny]
      simp only [wordsF, if_true, e]
      rw [rwN, if_neg (by simp)]
      simp [pendW, words_rw f l (k + 1) hf]
    · by_cases h2 : c = 59
      · subst h2
        have e : wlenN (59 :: l) = 1 := by simp [wlenN, Lib.indexAny]
        simp only [wordsF]
        rw [if_neg (by decide), e, rwN, if_neg (by simp)]
        simp [pendW, words_rw f l (k + 1) hf]
      · obtain ⟨u, t, rfl, hu, ht⟩ := split_word l
        have hw : ∀ b ∈ c :: u, b ≠ 32 ∧ b ≠ 59 := fun b hb => by
          rcases List.mem_cons.1 hb with rfl | hb
          · exact ⟨h1, h2⟩
          · exact hu b hb
        have hl : wlenN ((c :: u) ++ t) = (c :: u).length := by
          unfold wlenN
          rw [ix_word _ _ hw ht]
          by_cases hr : t = []
          · subst hr; simp
          · rw [if_neg hr, if_neg (by omega)]; simp
        have e : c :: (u ++ t) = (c :: u) ++ t := rfl
        simp only [wordsF]
        rw [if_neg h1, e, hl, rw_word (c :: u) t k [] hw, List.take_left, List.drop_left, words_rw f t _ (by simp at hf; omega), rw_sep t _ ([] ++ (c :: u)) ht]
        simp [pendW]
theorem words_is (s : List UInt8) : wordsN s = rwN s 0 [] := words_rw _ _ _ (Nat.le_refl _)
theorem rw_facts : ∀ (l : List UInt8) (i : Nat) (pend : List UInt8) (n : Nat), pend.length ≤ i → i + l.length ≤ n → ∀ x ∈ rwN l i pend, x.2 ≠ [] ∧ x.1 + x.2.length ≤ n
  | [], i, pend, n, hp, hn, x, hx => by
    simp only [rwN, pendW] at hx
    split at hx
    · simp at hx
    · simp at hx
      subst hx
      simp_all
      try omega
  | c :: l, i, pend, n, hp, hn, x, hx => by
    simp only [rwN] at hx
    simp at hn
    split at hx
    · exact rw_facts l (i + 1) (pend ++ [c]) n (by simp; omega) (by omega) x hx
    · simp only [List.mem_append] at hx
      rcases hx with hx | hx | hx
      · simp only [pendW] at hx
        split at hx
        · simp at hx
        · simp at hx
          subst hx
          simp_all
          try omega
      · split at hx
        · simp at hx
          subst hx
          simp
          omega
        · simp at hx
      · exact rw_facts l (i + 1) [] n (by simp) (by omega) x hx
theorem words_facts {s : List UInt8} {x : Nat × List UInt8} (hx : x ∈ wordsN s) : x.2 ≠ [] ∧ x.1 + x.2.length ≤ s.length := by
  rw [words_is] at hx
  exact rw_facts s 0 [] s.length (by simp) (by omega) x hx
theorem rw_len : ∀ (l : List UInt8) (i : Nat) (pend : List UInt8), (rwN l i pend).length ≤ 2 * l.length + 1
  | [], i, pend => by simp only [rwN, pendW]; split <;> simp
  | c :: l, i, pend => by
    have h1 := rw_len l (i + 1) (pend ++ [c])
    have h2 := rw_len l (i + 1) []
    simp only [rwN]
    split
    · simp; omega
    · simp only [List.length_append, List.length_cons]
      have : (pendW i pend).length ≤ 1 := by simp only [pendW]; split <;> simp
      split <;> simp <;> omega

/-- Numbers. -/
def digB (c : UInt8) : Bool := decide (48 ≤ c.toNat ∧ c.toNat ≤ 57)
def valN (l : List UInt8) : Nat := l.foldl (fun n c => n * 10 + (c.toNat - 48)) 0
def rnumN (w : List UInt8) : Option Int :=
  if w.all digB ∧ w.length ≤ 3 ∧ w ≠ [] ∧ valN w ≤ 255 ∧ (w[0]? ≠ some 48 ∨ w.length = 1) then some (valN w : Int) else none
theorem rnum_itoa : ∀ n : Fin 256, rnumN (Lib.itoa (n.1 : Int)) = some (n.1 : Int) := by decide +kernel
theorem rnum1 : ∀ a : Fin 10, Lib.itoa ((valN [UInt8.ofNat (48 + a.1)] : Nat) : Int) = [UInt8.ofNat (48 + a.1)] := by decide +kernel
theorem rnum2 : ∀ a b : Fin 10, a.1 ≠ 0 → Lib.itoa ((valN [UInt8.ofNat (48 + a.1), UInt8.ofNat (48 + b.1)] : Nat) : Int) = [UInt8.ofNat (48 + a.1), UInt8.ofNat (48 + b.1)] := by decide +kernel
theorem rnum3 : ∀ a b c : Fin 10, a.1 ≠ 0 → a.1 ≤ 2 → Lib.itoa ((valN [UInt8.ofNat (48 + a.1), UInt8.ofNat (48 + b.1), UInt8.ofNat (48 + c.1)] : Nat) : Int) = [UInt8.ofNat (48 + a.1), UInt8.ofNat (48 + b.1), UInt8.ofNat (48 + c.1)] := by decide +kernel
theorem dig_of {c : UInt8} (h : digB c = true) : ∃ a : Fin 10, c = UInt8.ofNat (48 + a.1) := by
  have : 48 ≤ c.toNat ∧ c.toNat ≤ 57 := by simpa [digB] using h
  refine ⟨⟨c.toNat - 48, by omega⟩, ?_⟩
  rw [show 48 + (c.toNat - 48) = c.toNat by omega]
  simp
theorem dig_zero {a : Fin 10} (h : UInt8.ofNat (48 + a.1) ≠ 48) : a.1 ≠ 0 := fun e => h (by rw [e]; rfl)
theorem rnum_back {w : List UInt8} {v : Int} (h : rnumN w = some v) : Lib.itoa v = w ∧ 0 ≤ v ∧ v ≤ 255 := by
  unfold rnumN at h
  split at h
  · rename_i hc
    cases h
    obtain ⟨h1, h2, h3, h4, h5⟩ := hc
    refine ⟨?_, by omega, by omega⟩
    match w, h1, h2, h3, h4, h5 with
    | [], _, _, h3, _, _ => exact absurd rfl h3
    | [a], h1, _, _, _, _ =>
      obtain ⟨a, rfl⟩ := dig_of (c := a) (by simpa using h1)
      exact rnum1 a
    | [a, b], h1, _, _, _, h5 =>
      simp only [List.all_cons, List.all_nil, Bool.and_true, Bool.and_eq_true] at h1
      obtain ⟨a, rfl⟩ := dig_of h1.1
      obtain ⟨b, rfl⟩ := dig_of h1.2
      exact rnum2 a b (dig_zero (by simpa using h5))
    | [a, b, c], h1, _, _, h4, h5 =>
      simp only [List.all_cons, List.all_nil, Bool.and_true, Bool.and_eq_true] at h1
      obtain ⟨a, rfl⟩ := dig_of h1.1
      obtain ⟨b, rfl⟩ := dig_of h1.2.1
      obtain ⟨c, rfl⟩ := dig_of h1.2.2
      have ha : a.1 ≤ 2 := by
        have e : (UInt8.ofNat (48 + a.1)).toNat = 48 + a.1 := by
          rw [UInt8.toNat_ofNat']
          have := a.2
          omega
        simp only [valN, List.foldl_cons, List.foldl_nil, e] at h4
        omega
      exact rnum3 a b c (dig_zero (by simpa using h5)) ha
    | _ :: _ :: _ :: _ :: _, _, h2, _, _, _ => simp at h2
  · cases h
theorem numV_zero (w : List UInt8) : numV w 0 = rnumN w := by
  cases h : rnumN w with
  | some v =>
    obtain ⟨rfl, h1, h2⟩ := rnum_back h
    exact numV_of ⟨h1, h2⟩ h1
  | none =>
    unfold numV
    split
    · rename_i v hv
      rw [if_neg]
      rintro ⟨rfl, h1, h2⟩
      have := rnum_itoa ⟨v.toNat, by omega⟩
      simp only [show ((v.toNat : Nat) : Int) = v by omega] at this
      rw [this] at h
      cases h
    · rfl
theorem numV_least (w : List UInt8) (least : Int) (h0 : 0 ≤ least) : numV w least = match rnumN w with
    | some v => if v < least then none else some v
    | none => none := by
  rw [← numV_zero]
  unfold numV
  cases Lib.atoiAll w with
  | ok v =>
    simp only
    by_cases h1 : Lib.itoa v = w ∧ 0 ≤ v ∧ v ≤ 255
    · rw [if_pos h1]
      simp only
      by_cases h2 : v < least
      · rw [if_neg (by omega), if_pos h2]
      · rw [if_pos ⟨h1.1, by omega, h1.2.2⟩, if_neg h2]
    · rw [if_neg h1, if_neg (by rintro ⟨a, b, c⟩; exact h1 ⟨a, by omega, c⟩)]
  | «syntax» => rfl
  | range => rfl
end Go.Proofs.YtggehnnbgeffpaaDoor
