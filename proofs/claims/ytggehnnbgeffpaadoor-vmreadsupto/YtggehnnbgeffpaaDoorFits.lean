/- What Parse tells is fit. -/
import Derived.Test.YtggehnnbgeffpaaDoorRefRead1
namespace Go.Proofs.YtggehnnbgeffpaaDoor
open Go.Shelf Go.RowKit Go.Lib Go.Proofs

theorem parseF_ne : ∀ (ws : List (Nat × List UInt8)) (r : Rd) (e a : Int), parseF r ws = .inl (e, a) → e ≠ 0
  | [], _, _, _, h => by cases h
  | x :: ws, r, e, a, h => by
    rw [parseF] at h
    split at h
    · exact parseF_ne ws _ e a h
    · rename_i hne
      cases h
      exact hne
theorem parseN_ne {s : List UInt8} {e a : Int} (h : parseN s = .inl (e, a)) : e ≠ 0 := by
  unfold parseN at h
  split at h
  · rename_i f hf
    cases h
    exact parseF_ne _ _ _ _ hf
  · split at h
    · cases h; decide
    · split at h
      · cases h; decide
      · cases h
structure NumsOk (k : Nat) (l : List Int) : Prop where
  k1 : 1 ≤ k
  k7 : k ≤ 7
  len : l.length ≤ (takersN k).length
  num : ∀ v ∈ l, 0 ≤ v ∧ v ≤ 255
  two : k = 1 → ∀ a b t, l = a :: b :: t → a ≤ b
theorem insN_good {k : Nat} {l : List Int} (h : NumsOk k l) (hl : l.length = (takersN k).length) : fitB 255 (insN k l) = true := by
  obtain ⟨k1, k7, _, hn, h2⟩ := h
  have hk : k = 1 ∨ k = 2 ∨ k = 3 ∨ k = 4 ∨ k = 5 ∨ k = 6 ∨ k = 7 := by omega
  rcases hk with rfl | rfl | rfl | rfl | rfl | rfl | rfl
  · match l, hl with
    | [a, b, c], _ =>
      have := h2 rfl a b [c] rfl
      have ha := hn a (by simp)
      have hb := hn b (by simp)
      have hc := hn c (by simp)
      simp [fitB, insN, useX, useY, useZ, numB]
      omega
  · match l, hl with
    | [a, b], _ =>
      have ha := hn a (by simp)
      have hb := hn b (by simp)
      simp [fitB, insN, useX, useY, useZ, numB]
      omega
  · match l, hl with
    | [a], _ =>
      have ha := hn a (by simp)
      simp [fitB, insN, useX, useY, useZ, numB]
      omega
  · match l, hl with
    | [a], _ =>
      have ha := hn a (by simp)
      simp [fitB, insN, useX, useY, useZ, numB]
      omega
  · match l, hl with
    | [a], _ =>
      have ha := hn a (by simp)
      simp [fitB, insN, useX, useY, useZ, numB]
      omega
  · simp [fitB, insN, useX, useY, useZ, numB]
  · simp [fitB, insN, useX, useY, useZ, numB]
def RInv (r : Rd) : Prop :=
  (r.want = [.op] ∧ (∀ i ∈ r.prog, fitB 255 i = true) ∧ r.prog.length ≤ 64) ∨
  (∃ p k l ends a, r = ⟨p ++ [insN k l], ends ++ [a], (takersN k).drop l.length⟩ ∧ NumsOk k l ∧ (∀ i ∈ p, fitB 255 i = true) ∧ p.length + 1 ≤ 64)
theorem kind_pos {w : List UInt8} {k : Nat} (h : kindN w = some k) (hw : w ≠ []) : 1 ≤ k ∧ k ≤ 7 := by
  have h8 : k < 8 := by
    unfold kindN at h
    have := List.mem_of_find?_eq_some h
    simpa using this
  have hwo : wordL k = w := by
    unfold kindN at h
    have := List.find?_some h
    simpa using this
  cases k with
  | zero => exact absurd hwo.symm hw
  | succ _ => omega
theorem RInv.take {r : Rd} (h : RInv r) {a : Int} {w : List UInt8} (hw : w ≠ []) (h0 : (takeN r a w).1 = 0) : RInv (takeN r a w).2 := by
  rcases h with ⟨h1, h2, h3⟩ | ⟨p, k, l, ends, a0, rfl, hN, hp, hp64⟩
  · obtain ⟨p, ends, want⟩ := r
    simp only at h1 h2 h3
    subst h1
    cases hk : kindN w with
    | none => rw [take_op_none hk] at h0; simp at h0
    | some k =>
      by_cases h64 : p.length = 64
      · rw [take_op_many hk h64] at h0; simp at h0
      · rw [take_op_ok hk h64]
        have hkk := kind_pos hk hw
        refine .inr ⟨p, k, [], ends, a, ?_, ⟨hkk.1, hkk.2, by simp, by simp, fun _ a b t e => by simp at e⟩, h2, by omega⟩
        rw [insN_nil hkk.1 hkk.2]
        rfl
  · by_cases hl : l.length < (takersN k).length
    · have hge : 0 ≤ l.getD 0 0 := by
        cases l with
        | nil => exact Int.le_refl _
        | cons b t => exact (hN.num b (by simp)).1
      have ht := take_num (p := p) (ends := ends) (a := a) (a0 := a0) (w := w) hN.k1 hN.k7 hl hge
      by_cases hb : badNum k l w
      · rw [ht.1 hb] at h0; simp at h0
      · cases hv : rnumN w with
        | none => exact absurd (.inl hv) hb
        | some v =>
          rw [ht.2 v hb hv]
          refine .inr ⟨p, k, l ++ [v], ends, a, ?_, ⟨hN.k1, hN.k7, by simp; omega, ?_, ?_⟩, hp, hp64⟩
          · simp
          · intro u hu
            rcases List.mem_append.1 hu with hu | hu
            · exact hN.num u hu
            · simp at hu
              subst hu
              exact (rnum_back hv).2
          · intro hk1 x y t e
            match l, e with
            | [b], e =>
              simp at e
              obtain ⟨rfl, rfl, rfl⟩ := e
              by_cases hlt : v < b
              · exact absurd (.inr ⟨v, hv, hk1, rfl, hlt⟩) hb
              · omega
            | b :: c :: t', e =>
              simp at e
              obtain ⟨rfl, rfl, _⟩ := e
              exact hN.two hk1 b c t' rfl
    · have hle := hN.len
      have hd : (takersN k).drop l.length = [] := List.drop_of_length_le (by omega)
      rw [hd] at h0 ⊢
      by_cases hs : w = [59]
      · rw [(take_semi (p := p ++ [insN k l]) (ends := ends ++ [a0]) (a := a) (w := w)).1 hs]
        refine .inl ⟨rfl, fun i hi => ?_, by simp; omega⟩
        rcases List.mem_append.1 hi with hi | hi
        · exact hp i hi
        · simp at hi
          subst hi
          exact insN_good hN (by omega)
      · rw [(take_semi (p := p ++ [insN k l]) (ends := ends ++ [a0]) (a := a) (w := w)).2 hs] at h0
        simp at h0
theorem RInv.parse : ∀ (ws : List (Nat × List UInt8)) (r r' : Rd), RInv r → (∀ x ∈ ws, x.2 ≠ []) → parseF r ws = .inr r' → RInv r'
  | [], r, r', h, _, e => by cases e; exact h
  | x :: ws, r, r', h, hw, e => by
    rw [parseF] at e
    split at e
    · rename_i h0
      exact RInv.parse ws _ r' (h.take (hw x (by simp)) h0) (fun y hy => hw y (by simp [hy])) e
    · cases e
theorem fitB_far {i : Ins} {n : Nat} (h : fitB 255 i = true) (hz : ¬ (n : Int) < i.z) : fitB n i = true := by
  unfold fitB at h ⊢
  simp only [Bool.and_eq_true] at h ⊢
  refine ⟨h.1, ?_⟩
  have h2 := h.2
  unfold numB at h2 ⊢
  simp only [Bool.and_eq_true, decide_eq_true_eq] at h2 ⊢
  refine ⟨h2.1, ?_⟩
  have := h2.2
  split at this
  · rename_i hu; rw [if_pos hu]; omega
  · rename_i hu; rw [if_neg hu]; exact this
theorem parseN_fit {s : List UInt8} {p : List Ins} (h : parseN s = .inr p) : fitP p = true ∧ ∀ i ∈ p, InsOk i := by
  unfold parseN at h
  split at h
  · cases h
  · rename_i r hr
    split at h
    · cases h
    · rename_i hwant
      split at h
      · cases h
      · rename_i hfar
        cases h
        have hI := RInv.parse _ r0 r (.inl ⟨rfl, by simp [r0], by simp [r0]⟩) (fun x hx => (words_facts hx).1) hr
        have hwn : r.want = [] := Classical.not_not.1 hwant
        have hgood : (∀ i ∈ r.prog, fitB 255 i = true) ∧ 1 ≤ r.prog.length ∧ r.prog.length ≤ 64 := by
          rcases hI with ⟨h1, _⟩ | ⟨p, k, l, ends, a, rfl, hN, hp, hp64⟩
          · rw [hwn] at h1; simp at h1
          · refine ⟨fun i hi => ?_, by simp, by simp; omega⟩
            rcases List.mem_append.1 hi with hi | hi
            · exact hp i hi
            · simp at hi
              subst hi
              have hd : (takersN k).length - l.length = 0 := by
                have := congrArg List.length hwn
                simpa using this
              exact insN_good hN (by have := hN.len; omega)
        obtain ⟨hg, h1, h64⟩ := hgood
        constructor
        · unfold fitP
          simp only [Bool.and_eq_true, decide_eq_true_eq, List.all_eq_true]
          refine ⟨⟨h1, h64⟩, fun i hi => fitB_far (hg i hi) ?_⟩
          unfold farN at hfar
          rw [List.findIdx?_eq_none_iff] at hfar
          have := hfar i hi
          simpa using this
        · intro i hi
          obtain ⟨f1, f2, f3, f4⟩ := fitB_facts (n := 255) (hg i hi)
          exact ⟨by omega, by omega, by omega, by omega⟩
end Go.Proofs.YtggehnnbgeffpaaDoor
