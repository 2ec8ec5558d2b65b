/- From the root, the next node, and the next, goes through all, and their paths rise. -/
import Derived.Test.YtmkkjjhlppagpaaCNext
import Derived.Test.YtmkkjjhlppagpaaCWalk
import Derived.Test.YtmkkjjhlppagpaaCOrd
namespace Go.Proofs.Ytmkkjjhlppagpaa
open Go.RowKit

def chainP (R : List Int → List Int → Prop) : List (List Int) → Prop
  | [] => True
  | [_] => True
  | a :: b :: l => R a b ∧ chainP R (b :: l)
theorem chainP_cons {R : List Int → List Int → Prop} {a : List Int} {l : List (List Int)} (h : chainP R l) (h2 : ∀ y, l.head? = some y → R a y) : chainP R (a :: l) := by
  cases l with
  | nil => trivial
  | cons b l => exact ⟨h2 b rfl, h⟩
theorem chainP_app {R : List Int → List Int → Prop} : ∀ {a b : List (List Int)}, chainP R a → chainP R b → (∀ x y, a.getLast? = some x → b.head? = some y → R x y) → chainP R (a ++ b)
  | [], b, _, hb, _ => hb
  | [x], b, _, hb, h => chainP_cons hb (fun y hy => h x y rfl hy)
  | x :: y :: l, b, ha, hb, h => ⟨ha.1, chainP_app (a := y :: l) ha.2 hb (fun u v hu hv => h u v (by rw [List.getLast?_cons_cons]; exact hu) hv)⟩
theorem chainP_map {R Q : List Int → List Int → Prop} {f : List Int → List Int} (hf : ∀ x y, R x y → Q (f x) (f y)) : ∀ {a : List (List Int)}, chainP R a → chainP Q (a.map f)
  | [], _ => trivial
  | [_], _ => trivial
  | _ :: _ :: _, h => ⟨hf _ _ h.1, chainP_map hf (a := _ :: _) h.2⟩
theorem chainP_at {R : List Int → List Int → Prop} : ∀ {l : List (List Int)}, chainP R l → ∀ (i : Nat) (h : i + 1 < l.length), R l[i] l[i + 1]
  | [], _, i, h => by simp at h
  | [_], _, i, h => by simp at h
  | a :: b :: l, hc, 0, h => hc.1
  | a :: b :: l, hc, i + 1, h => chainP_at (l := b :: l) hc.2 i (by simpa using h)
theorem allL_map (p q : List Int) : ∀ (l : List Nd) (i : Nat), (∀ k ∈ l, ∀ q, allP (p ++ q) k = (allP q k).map (p ++ ·)) → allL (p ++ q) i l = (allL q i l).map (p ++ ·)
  | [], _, _ => by simp [allL]
  | t :: l, i, h => by
    rw [allL, allL, List.map_append, List.append_assoc, h t (by simp), allL_map p q l (i + 1) (fun k hk => h k (by simp [hk]))]
theorem allP_map (p : List Int) (t : Nd) : ∀ q, allP (p ++ q) t = (allP q t).map (p ++ ·) := by
  induction t using nd_ind with
  | h t ih =>
    intro q
    rw [allP_mk, allP_mk, List.map_cons, allL_map p q t.kids 0 ih]
theorem allP_one (j : Int) (t : Nd) : allP [j] t = (allP [] t).map (j :: ·) := by
  have := allP_map [j] t []
  simpa using this
theorem findN_cons {t : Nd} {j : Nat} (hj : j < t.kids.length) (q : List Int) : findN t ((j : Int) :: q) = findN t.kids[j] q := by
  rw [findN_yes (by omega) (by simpa using hj)]
  simp
theorem asideN_cons {t : Nd} {j : Nat} (hj : j < t.kids.length) (q : List Int) (i d : Int) : asideN t ((j : Int) :: (q ++ [i])) d = (asideN t.kids[j] (q ++ [i]) d).map ((j : Int) :: ·) := by
  rw [← List.cons_append, asideN_snoc, asideN_snoc, findN_cons hj]
  cases findN t.kids[j] q with
  | none => rfl
  | some x =>
    simp only
    split <;> rfl
theorem rev_ind {P : List Int → Prop} (h0 : P []) (h1 : ∀ q i, P q → P (q ++ [i])) (l : List Int) : P l := by
  have : ∀ n (l : List Int), l.length = n → P l := fun n => by
    induction n with
    | zero => intro l hl; rw [List.eq_nil_of_length_eq_zero hl]; exact h0
    | succ n ih =>
      intro l hl
      have hne : l ≠ [] := by rintro rfl; simp at hl
      obtain ⟨q, i, rfl⟩ := snoc_of l hne
      exact h1 q i (ih q (by simpa using hl))
  exact this _ l rfl
theorem upR_cons {t : Nd} {j : Nat} (hj : j < t.kids.length) (q : List Int) : upR t ((j : Int) :: q) = match upR t.kids[j] q with
    | some r => some ((j : Int) :: r)
    | none => if hasI t ((j : Int) + 1) = true then some [(j : Int) + 1] else none := by
  induction q using rev_ind with
  | h0 =>
    have h := upR_snoc t [] (j : Int)
    rw [List.nil_append] at h
    have ha := asideN_snoc t [] (j : Int) 1
    rw [List.nil_append] at ha
    have hh : hasI t (j : Int) = true := hasI_iff.2 ⟨by omega, by simpa using hj⟩
    rw [h, ha, upR_nil, upR_nil]
    simp only [findN, hh, true_and, List.nil_append]
    split <;> simp_all
  | h1 q i ih =>
    rw [← List.cons_append, upR_snoc, upR_snoc, List.cons_append, asideN_cons hj, ih]
    cases asideN t.kids[j] (q ++ [i]) 1 with
    | some r => rfl
    | none => rfl
theorem nextN_cons {t : Nd} {j : Nat} (hj : j < t.kids.length) {q : List Int} (hq : (findN t.kids[j] q).isSome = true) : nextN t ((j : Int) :: q) = match nextN t.kids[j] q with
    | some r => some ((j : Int) :: r)
    | none => if hasI t ((j : Int) + 1) = true then some [(j : Int) + 1] else none := by
  unfold nextN
  rw [findN_cons hj]
  cases hx : findN t.kids[j] q with
  | none => rw [hx] at hq; cases hq
  | some x =>
    simp only
    by_cases h0 : hasI x 0 = true
    · rw [if_pos h0, if_pos h0]; rfl
    · rw [if_neg h0, if_neg h0, upR_cons hj]
/-- One path, and the next one. -/
def StepR (t : Nd) (x y : List Int) : Prop := nextN t x = some y ∧ ordN x y = -1
def WalkOk (t : Nd) (l : List (List Int)) : Prop := chainP (StepR t) l ∧ (∀ q ∈ l, (findN t q).isSome = true) ∧ ∀ z, l.getLast? = some z → nextN t z = none
theorem getLast_map (f : List Int → List Int) (l : List (List Int)) {z : List Int} (h : (l.map f).getLast? = some z) : ∃ y, l.getLast? = some y ∧ z = f y := by
  rw [List.getLast?_map] at h
  cases hl : l.getLast? with
  | none => rw [hl] at h; cases h
  | some y => rw [hl] at h; exact ⟨y, rfl, by simpa using h.symm⟩
theorem walk_kids {t : Nd} (ih : ∀ k ∈ t.kids, WalkOk k (allP [] k)) : ∀ (m j : Nat), t.kids.length - j = m → WalkOk t (allL [] j (t.kids.drop j)) ∧ (j < t.kids.length → (allL [] j (t.kids.drop j)).head? = some [(j : Int)] ∧ allL [] j (t.kids.drop j) ≠ []) := by
  intro m
  induction m with
  | zero =>
    intro j hj
    rw [List.drop_of_length_le (by omega)]
    exact ⟨⟨trivial, by simp [allL], by simp [allL]⟩, fun h => by omega⟩
  | succ m ihm =>
    intro j hj
    have hlt : j < t.kids.length := by omega
    obtain ⟨⟨a1, a2, a3⟩, a4⟩ := ihm (j + 1) (by omega)
    obtain ⟨b1, b2, b3⟩ := ih t.kids[j] (List.getElem_mem hlt)
    have he : allL [] j (t.kids.drop j) = (allP [] t.kids[j]).map ((j : Int) :: ·) ++ allL [] (j + 1) (t.kids.drop (j + 1)) := by
      rw [List.drop_eq_getElem_cons hlt, allL, List.nil_append, allP_one]
    have hf : ∀ q ∈ allP [] t.kids[j], (findN t ((j : Int) :: q)).isSome = true := fun q hq => by rw [findN_cons hlt]; exact b2 q hq
    have hc : chainP (StepR t) ((allP [] t.kids[j]).map ((j : Int) :: ·)) := chainP_map (R := StepR t.kids[j]) (fun x y hxy => by
      have hs : (findN t.kids[j] x).isSome = true := by
        have := hxy.1
        unfold nextN at this
        cases hx : findN t.kids[j] x with
        | none => rw [hx] at this; cases this
        | some _ => rfl
      refine ⟨by rw [nextN_cons hlt hs, hxy.1], ?_⟩
      rw [ordN, if_neg (by omega), if_neg (by omega)]
      exact hxy.2) b1
    have hmem : ∀ z, (allP [] t.kids[j]).getLast? = some z → (findN t.kids[j] z).isSome = true := fun z hz => b2 z (List.mem_of_getLast? hz)
    have hhd : (allP [] t.kids[j]).head? = some [] := by rw [allP_mk]; rfl
    have hne : (allP [] t.kids[j]).map ((j : Int) :: ·) ≠ [] := by rw [allP_mk]; simp
    rw [he]
    refine ⟨⟨chainP_app hc a1 (fun x y hx hy => ?_), fun q hq => ?_, fun z hz => ?_⟩, fun _ => ⟨?_, by simp [hne]⟩⟩
    · obtain ⟨z, hz, rfl⟩ := getLast_map _ _ hx
      by_cases hl : j + 1 < t.kids.length
      · have h1 := (a4 hl).1
        rw [hy] at h1
        obtain rfl := Option.some.inj h1
        refine ⟨?_, ?_⟩
        · rw [nextN_cons hlt (hmem z hz), b3 z hz]
          simp only
          rw [if_pos (hasI_iff.2 ⟨by omega, by omega⟩)]
          simp
        · rw [ordN, if_pos (by omega)]
      · rw [List.drop_of_length_le (by omega)] at hy
        simp [allL] at hy
    · rcases List.mem_append.1 hq with h | h
      · obtain ⟨q', hq', rfl⟩ := List.mem_map.1 h
        exact hf q' hq'
      · exact a2 q h
    · by_cases hl : j + 1 < t.kids.length
      · obtain ⟨u, hu⟩ : ∃ u, (allL [] (j + 1) (t.kids.drop (j + 1))).getLast? = some u := by
          cases hq : (allL [] (j + 1) (t.kids.drop (j + 1))).getLast? with
          | none => exact absurd (List.getLast?_eq_none_iff.1 hq) (a4 hl).2
          | some u => exact ⟨u, rfl⟩
        rw [List.getLast?_append, hu] at hz
        exact a3 z (by rw [hu]; exact hz)
      · rw [List.drop_of_length_le (by omega)] at hz
        simp only [allL, List.append_nil] at hz
        obtain ⟨y, hy, rfl⟩ := getLast_map _ _ hz
        rw [nextN_cons hlt (hmem y hy), b3 y hy]
        simp only
        rw [if_neg]
        intro hh
        have := (hasI_iff.1 hh).2
        omega
    · rw [List.head?_append, List.head?_map, hhd]
      rfl
theorem walk_ok (t : Nd) : WalkOk t (allP [] t) := by
  induction t using nd_ind with
  | h t ih =>
    obtain ⟨⟨a1, a2, a3⟩, a4⟩ := walk_kids ih t.kids.length 0 (by omega)
    rw [List.drop_zero] at a1 a2 a3 a4
    rw [allP_mk]
    by_cases h0 : 0 < t.kids.length
    · obtain ⟨b1, b2⟩ := a4 h0
      refine ⟨chainP_cons a1 (fun y hy => ?_), fun q hq => ?_, fun z hz => ?_⟩
      · rw [hy] at b1
        obtain rfl := Option.some.inj b1
        refine ⟨?_, rfl⟩
        unfold nextN
        simp only [findN]
        rw [if_pos (hasI_iff.2 ⟨by omega, by simpa using h0⟩)]
        rfl
      · rcases List.mem_cons.1 hq with rfl | hq
        · rfl
        · exact a2 q hq
      · obtain ⟨x, l, hl⟩ := List.exists_cons_of_ne_nil b2
        rw [hl, List.getLast?_cons_cons, ← hl] at hz
        exact a3 z hz
    · have hk : t.kids = [] := List.eq_nil_of_length_eq_zero (by omega)
      rw [hk]
      simp only [allL]
      refine ⟨trivial, fun q hq => ?_, fun z hz => ?_⟩
      · rw [List.mem_singleton] at hq; subst hq; rfl
      · obtain rfl : [] = z := by simpa using hz
        unfold nextN
        simp only [findN]
        rw [if_neg (by intro hh; have := (hasI_iff.1 hh).2; omega), upR_nil]
/-- As the law asks it. -/
theorem walk_at (t : Nd) : (∀ (i : Nat) (h : i + 1 < (allP [] t).length), nextN t (allP [] t)[i] = some (allP [] t)[i + 1] ∧ ordN (allP [] t)[i] (allP [] t)[i + 1] = -1) ∧ (∀ (i : Nat) (h : i < (allP [] t).length), i + 1 = (allP [] t).length → nextN t (allP [] t)[i] = none) ∧ ∃ l, allP [] t = [] :: l := by
  obtain ⟨h1, _, h3⟩ := walk_ok t
  refine ⟨fun i h => chainP_at h1 i h, fun i h he => h3 _ ?_, _, allP_mk [] t⟩
  rw [List.getLast?_eq_getElem?, List.getElem?_eq_getElem (by omega)]
  congr 2
  omega
end Go.Proofs.Ytmkkjjhlppagpaa
