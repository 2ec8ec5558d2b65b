/- Stacks: what Push keeps: numbers carried over, fitness, the nodes behind. -/
import Derived.Test.YtjpbfckdiojghaaPPaths
import Derived.Test.YtjpbfckdiojghaaPPush2
namespace Go.Proofs.Ytjpbfckdiojghaa
open Go.RowKit

/-- The number of a node behind a push. -/
def sg (l : List Gn) (st pl : Int) (j : Int) : Int := if thereB l (pl, st) = true then j else inc1 (posG l (pl, st)) j
def sgG (l : List Gn) (st pl : Int) (x : Gn) : Gn := ⟨x.st, x.pl, x.links.map (sg l st pl)⟩
theorem sg_lt {l : List Gn} {st pl : Int} {i j : Int} (h : i < j) : sg l st pl i < sg l st pl j := by
  unfold sg inc1
  split
  · exact h
  · split <;> split <;> omega
theorem sg_ge {l : List Gn} {st pl : Int} {j : Int} (h : 0 ≤ j) : 0 ≤ sg l st pl j := by
  unfold sg inc1
  split
  · exact h
  · split <;> omega
theorem from1_sg (l : List Gn) (f st pl : Int) : from1 l f st pl = sg l st pl f := by unfold from1 sg; rfl
theorem openG_sg {i0 : Nat} {x : Gn} {l : List Gn} (h : i0 ≤ l.length) (j : Int) (hj : 0 ≤ j) : (openG i0 x l)[(inc1 i0 j).toNat]? = (l[j.toNat]?).map (incG i0) := by
  unfold openG inc1
  obtain ⟨k, rfl⟩ : ∃ k : Nat, j = k := ⟨j.toNat, by omega⟩
  by_cases hk : (i0 : Int) ≤ k
  · rw [if_pos hk, show ((k : Int) + 1).toNat = k + 1 by omega, List.getElem?_append_right (by simp; omega), List.getElem?_drop]
    simp only [List.length_append, List.length_take, List.length_map, List.length_singleton, Nat.min_eq_left h, Int.toNat_natCast]
    rw [show i0 + (k + 1 - (i0 + 1)) = k by omega, List.getElem?_map]
  · rw [if_neg hk, Int.toNat_natCast, List.append_assoc, List.getElem?_append_left (by simp; omega), List.getElem?_take_of_lt (by omega), List.getElem?_map]
theorem openG_inv {i0 : Nat} {x : Gn} {l : List Gn} (h : i0 ≤ l.length) {k : Nat} {y : Gn} (hy : (openG i0 x l)[k]? = some y) : (k = i0 ∧ y = x) ∨ ∃ j : Int, 0 ≤ j ∧ (inc1 i0 j).toNat = k ∧ ∃ z, l[j.toNat]? = some z ∧ y = incG i0 z := by
  rcases Nat.lt_trichotomy k i0 with hk | hk | hk
  · right
    have e : (inc1 i0 (k : Int)).toNat = k := by unfold inc1; rw [if_neg (by omega)]; omega
    refine ⟨k, by omega, e, ?_⟩
    have := openG_sg (x := x) h (k : Int) (by omega)
    rw [e, hy] at this
    cases hz : l[(k : Int).toNat]? with
    | none => rw [hz] at this; cases this
    | some z => rw [hz] at this; exact ⟨z, rfl, by simpa using this⟩
  · left
    subst hk
    rw [openG_at h] at hy
    exact ⟨rfl, (Option.some.inj hy).symm⟩
  · right
    have e : (inc1 i0 ((k - 1 : Nat) : Int)).toNat = k := by unfold inc1; rw [if_pos (by omega)]; omega
    refine ⟨(k - 1 : Nat), by omega, e, ?_⟩
    have := openG_sg (x := x) h ((k - 1 : Nat) : Int) (by omega)
    rw [e, hy] at this
    cases hz : l[((k - 1 : Nat) : Int).toNat]? with
    | none => rw [hz] at this; cases this
    | some z => rw [hz] at this; exact ⟨z, rfl, by simpa using this⟩
theorem base_sg (l : List Gn) (st pl : Int) (j : Int) (hj : 0 ≤ j) : (base1 l st pl)[(sg l st pl j).toNat]? = (l[j.toNat]?).map (sgG l st pl) := by
  unfold base1 sgG sg
  cases ht : thereB l (pl, st) with
  | true => simp
  | false =>
    simp only [Bool.false_eq_true, if_false]
    exact openG_sg (posG_le _ _) j hj
theorem base_inv {l : List Gn} {st pl : Int} {k : Nat} {y : Gn} (hy : (base1 l st pl)[k]? = some y) : (thereB l (pl, st) = false ∧ k = posG l (pl, st) ∧ y = ⟨st, pl, []⟩) ∨ ∃ j : Int, 0 ≤ j ∧ (sg l st pl j).toNat = k ∧ ∃ z, l[j.toNat]? = some z ∧ y = sgG l st pl z := by
  unfold base1 at hy
  unfold sgG sg
  cases ht : thereB l (pl, st) with
  | true =>
    rw [ht] at hy
    right
    refine ⟨k, by omega, by simp, y, by simpa using hy, by simp⟩
  | false =>
    rw [ht] at hy
    simp only [Bool.false_eq_true, if_false] at hy ⊢
    rcases openG_inv (posG_le _ _) hy with ⟨h1, h2⟩ | h
    · exact .inl ⟨by simp, h1, h2⟩
    · exact .inr h
/-- The links behind a push. -/
def lkP (l : List Gn) (f st pl : Int) (k : Nat) (L : List Int) : List Int := if posG l (pl, st) = k then putL (sg l st pl f) L else L
theorem push_at (l : List Gn) (f st pl : Int) (k : Nat) : (pushL l f st pl)[k]? = ((base1 l st pl)[k]?).map fun y => ⟨y.st, y.pl, lkP l f st pl k y.links⟩ := by
  unfold pushL lkP
  rw [List.getElem?_modify, from1_sg]
  cases (base1 l st pl)[k]? with
  | none => rfl
  | some y =>
    by_cases e : posG l (pl, st) = k
    · simp [e]
    · simp [e]
theorem push_sg (l : List Gn) (f st pl : Int) {j : Int} (hj : 0 ≤ j) {x : Gn} (hx : l[j.toNat]? = some x) : (pushL l f st pl)[(sg l st pl j).toNat]? = some ⟨x.st, x.pl, lkP l f st pl (sg l st pl j).toNat (x.links.map (sg l st pl))⟩ := by
  rw [push_at, base_sg l st pl j hj, hx]
  rfl
theorem push_inv {l : List Gn} {f st pl : Int} {k : Nat} {y : Gn} (hy : (pushL l f st pl)[k]? = some y) : (thereB l (pl, st) = false ∧ k = posG l (pl, st) ∧ y = ⟨st, pl, [sg l st pl f]⟩) ∨ ∃ j : Int, 0 ≤ j ∧ (sg l st pl j).toNat = k ∧ ∃ z, l[j.toNat]? = some z ∧ y = ⟨z.st, z.pl, lkP l f st pl k (z.links.map (sg l st pl))⟩ := by
  rw [push_at] at hy
  cases hb : (base1 l st pl)[k]? with
  | none => rw [hb] at hy; cases hy
  | some u =>
    rw [hb] at hy
    have e := Option.some.inj hy
    rcases base_inv hb with ⟨h1, h2, h3⟩ | ⟨j, h1, h2, z, h3, h4⟩
    · left
      refine ⟨h1, h2, ?_⟩
      rw [← e, h3]
      show (⟨st, pl, if posG l (pl, st) = k then putL (sg l st pl f) [] else []⟩ : Gn) = _
      rw [if_pos h2.symm]
      rfl
    · right
      refine ⟨j, h1, h2, z, h3, ?_⟩
      rw [← e, h4]
      rfl
theorem push_len (l : List Gn) (f st pl : Int) : (pushL l f st pl).length = if thereB l (pl, st) = true then l.length else l.length + 1 := by
  unfold pushL base1
  rw [List.length_modify]
  split
  · rfl
  · exact openG_len (posG_le _ _)
theorem mem_lkP {l : List Gn} {f st pl : Int} {k : Nat} {L : List Int} {y : Int} : y ∈ lkP l f st pl k L ↔ (posG l (pl, st) = k ∧ y = sg l st pl f) ∨ y ∈ L := by
  unfold lkP
  split
  · rename_i h; rw [mem_putL]; simp [h]
  · rename_i h; simp [h]
/-- Fitness in other words. -/
theorem fit_of {l : List Gn} (h1 : l.length ≤ 4096) (h2 : UpG l) (h3 : ∀ x ∈ l, numB x.st = true ∧ numB x.pl = true ∧ UpL x.links ∧ ∀ j ∈ x.links, 0 ≤ j ∧ ∃ y, l[j.toNat]? = some y ∧ y.pl ≤ x.pl) : fitP l := by
  refine ⟨h1, fun i x hx => ?_⟩
  have hm := h3 x (List.mem_of_getElem? hx)
  obtain ⟨hi, rfl⟩ := List.getElem?_eq_some_iff.1 hx
  refine ⟨⟨hm.1, hm.2.1, fun h0 y hy => ?_⟩, fun k j hk => ?_⟩
  · obtain ⟨hi', rfl⟩ := List.getElem?_eq_some_iff.1 hy
    exact befB_lt.2 (h2.at hi' hi (by omega))
  · obtain ⟨hj, y, hy, hle⟩ := hm.2.2.2 j (List.mem_of_getElem? hk)
    have hjl := (List.getElem?_eq_some_iff.1 hy).1
    refine ⟨hj, by omega, fun y' hy' => ?_, fun h0 p hp => ?_⟩
    · rw [hy] at hy'; cases hy'; exact hle
    · obtain ⟨hk1, rfl⟩ := List.getElem?_eq_some_iff.1 hk
      obtain ⟨hk2, rfl⟩ := List.getElem?_eq_some_iff.1 hp
      exact List.pairwise_iff_getElem.1 hm.2.2.1 (k - 1) k hk2 hk1 (by omega)
theorem fitP.at_ {l : List Gn} (h : fitP l) {i : Nat} {x : Gn} (hx : l[i]? = some x) : numB x.st = true ∧ numB x.pl = true ∧ UpL x.links ∧ ∀ j ∈ x.links, 0 ≤ j ∧ ∃ y, l[j.toNat]? = some y ∧ y.pl ≤ x.pl := by
  have h0 := h.2 i x hx
  refine ⟨h0.1.1, h0.1.2.1, h.linkUp (List.mem_of_getElem? hx), fun j hj => ?_⟩
  obtain ⟨k, hk⟩ := List.getElem?_of_mem hj
  have h1 := h0.2 k j hk
  have hl : j.toNat < l.length := by have := h1.2.1; have := h1.1; omega
  exact ⟨h1.1, l[j.toNat], List.getElem?_eq_getElem hl, h1.2.2.1 _ (List.getElem?_eq_getElem hl)⟩
theorem spG_up {l : List Gn} : UpG l ↔ (l.map spG).Pairwise ltS := by unfold UpG; rw [List.pairwise_map]
theorem posG_lt {l : List Gn} {s : Sp} {t : Nat} (h : t < posG l s) : ∃ ht : t < l.length, ltS (spG l[t]) s := by
  have h1 : t < l.length := Nat.lt_of_lt_of_le h (posG_le l s)
  refine ⟨h1, ?_⟩
  have := List.not_of_lt_findIdx h
  simpa using this
theorem posG_ge {l : List Gn} {s : Sp} (h : posG l s < l.length) : ¬ ltS (spG l[posG l s]) s := by
  unfold posG at *
  have := List.findIdx_getElem (p := fun x => !decide (ltS (spG x) s)) (xs := l) (w := h)
  simpa using this
theorem push_up {l : List Gn} (h : UpG l) (f st pl : Int) : UpG (pushL l f st pl) := by
  unfold UpG
  rw [List.pairwise_iff_getElem]
  intro a b ha hb hab
  have ea := push_inv (List.getElem?_eq_getElem ha)
  have eb := push_inv (List.getElem?_eq_getElem hb)
  generalize (pushL l f st pl)[a] = x at *
  generalize (pushL l f st pl)[b] = y at *
  have key : ∀ (j : Int) (z : Gn), 0 ≤ j → l[j.toNat]? = some z → thereB l (pl, st) = false → ((sg l st pl j).toNat < posG l (pl, st) → ltS (spG z) (pl, st)) ∧ (posG l (pl, st) < (sg l st pl j).toNat → ltS (pl, st) (spG z)) := fun j z hj hz ht => by
    obtain ⟨hjl, rfl⟩ := List.getElem?_eq_some_iff.1 hz
    have hs : sg l st pl j = inc1 (posG l (pl, st)) j := by unfold sg; rw [ht]; rfl
    rw [hs]
    unfold inc1
    refine ⟨fun hlt => ?_, fun hlt => ?_⟩
    · have : j.toNat < posG l (pl, st) := by split at hlt <;> omega
      exact (posG_lt this).2
    · have hge : posG l (pl, st) ≤ j.toNat := by split at hlt <;> omega
      have hpl : posG l (pl, st) < l.length := by omega
      have h1 := posG_ge hpl
      have hne : spG l[posG l (pl, st)] ≠ (pl, st) := fun e => by
        unfold thereB at ht
        rw [List.getElem?_eq_getElem hpl] at ht
        simp [e] at ht
      have h2 := ltS_total h1 hne
      rcases Nat.eq_or_lt_of_le hge with e | e
      · have e2 : l[j.toNat] = l[posG l (pl, st)] := by congr 1; exact e.symm
        rw [e2]; exact h2
      · exact ltS_trans h2 (h.at hpl hjl e)
  rcases ea with ⟨t1, ka, rfl⟩ | ⟨i, hi, ka, z, hz, rfl⟩
  · rcases eb with ⟨_, kb, rfl⟩ | ⟨j, hj, kb, u, hu, rfl⟩
    · omega
    · exact (key j u hj hu t1).2 (by omega)
  · rcases eb with ⟨t1, kb, rfl⟩ | ⟨j, hj, kb, u, hu, rfl⟩
    · exact (key i z hi hz t1).1 (by omega)
    · obtain ⟨h1, rfl⟩ := List.getElem?_eq_some_iff.1 hz
      obtain ⟨h2, rfl⟩ := List.getElem?_eq_some_iff.1 hu
      refine h.at h1 h2 ?_
      rcases Int.lt_trichotomy i j with h' | h' | h'
      · omega
      · subst h'; omega
      · have := sg_lt (l := l) (st := st) (pl := pl) h'
        have := sg_ge (l := l) (st := st) (pl := pl) hi
        have := sg_ge (l := l) (st := st) (pl := pl) hj
        omega
/-- What is pushed onto a fit stack is fit. -/
theorem push_fit {l : List Gn} (h : fitP l) {f st pl : Int} (hp : pushB l f st pl) : fitP (pushL l f st pl) := by
  obtain ⟨p1, p2, p3, p4, p5⟩ := hp
  have hf : 0 ≤ f ∧ f < l.length := by unfold hasB at p2; simpa using p2
  have hfl : f.toNat < l.length := by omega
  have hfn := p3 _ (List.getElem?_eq_getElem hfl)
  have hfa := push_sg l f st pl hf.1 (List.getElem?_eq_getElem hfl)
  refine fit_of ?_ (push_up h.up f st pl) (fun x hx => ?_)
  · rw [push_len]
    split
    · exact h.1
    · rename_i ht
      have : ¬ 4096 ≤ l.length := fun e => p1 ⟨by simpa using ht, e⟩
      omega
  · obtain ⟨k, hk⟩ := List.getElem?_of_mem hx
    rcases push_inv hk with ⟨t, ka, rfl⟩ | ⟨j, hj, ka, z, hz, rfl⟩
    · refine ⟨p4, p5, by unfold UpL; simp, fun j hj => ?_⟩
      simp at hj
      subst hj
      exact ⟨sg_ge hf.1, _, hfa, hfn⟩
    · have h0 := h.at_ hz
      refine ⟨h0.1, h0.2.1, ?_, fun i hi => ?_⟩
      · have hu : UpL (z.links.map (sg l st pl)) := by
          unfold UpL
          rw [List.pairwise_map]
          exact h0.2.2.1.imp (fun h => sg_lt h)
        unfold lkP
        split
        · exact up_putL hu
        · exact hu
      · rcases mem_lkP.1 hi with ⟨e, rfl⟩ | hi
        · refine ⟨sg_ge hf.1, _, hfa, ?_⟩
          show l[f.toNat].pl ≤ z.pl
          have hzp : spG z = (pl, st) := by
            cases ht : thereB l (pl, st) with
            | true =>
              obtain ⟨hq, he⟩ := there_lt ht
              have hs : sg l st pl j = j := by unfold sg; rw [ht]; rfl
              obtain ⟨hz1, rfl⟩ := List.getElem?_eq_some_iff.1 hz
              rw [← he]
              congr 2
              rw [hs] at ka
              omega
            | false =>
              exfalso
              have hs : sg l st pl j = inc1 (posG l (pl, st)) j := by unfold sg; rw [ht]; rfl
              rw [hs] at ka
              unfold inc1 at ka
              split at ka <;> omega
          have : z.pl = pl := congrArg Prod.fst hzp
          omega
        · obtain ⟨j', hj', rfl⟩ := List.mem_map.1 hi
          obtain ⟨hj0, y, hy, hle⟩ := h0.2.2.2 j' hj'
          exact ⟨sg_ge hj0, _, push_sg l f st pl hj0 hy, hle⟩
theorem lks_sg (l : List Gn) (f st pl : Int) {k y : Int} (hk : 0 ≤ k) (hy : y ∈ lksAt l k) : sg l st pl y ∈ lksAt (pushL l f st pl) (sg l st pl k) := by
  unfold lksAt at *
  cases hx : l[k.toNat]? with
  | none => rw [hx] at hy; simp at hy
  | some x =>
    rw [hx] at hy
    simp only [Option.map_some, Option.getD_some] at hy
    rw [push_sg l f st pl hk hx]
    simp only [Option.map_some, Option.getD_some]
    exact mem_lkP.2 (.inr (List.mem_map.2 ⟨y, hy, rfl⟩))
theorem back_in {l : List Gn} (h : LinksIn l) : ∀ (n : Nat) (c : List Int), InL l.length c → InL l.length (backN l n c)
  | 0, c, hc => hc
  | n + 1, c, hc => by
    rw [backN_succ]
    intro y hy
    rcases stepN_mem.1 hy with e | ⟨k, _, hk⟩
    · simp at e
    · unfold lksAt at hk
      cases hx : l[k.toNat]? with
      | none => rw [hx] at hk; simp at hk
      | some x =>
        rw [hx] at hk
        exact h x (List.mem_of_getElem? hx) y (by simpa using hk)
theorem back_sg {l : List Gn} (h : LinksIn l) (f st pl : Int) {node : Int} (hn : 0 ≤ node ∧ node < l.length) : ∀ (n : Nat) {y : Int}, y ∈ backN l n [node] → sg l st pl y ∈ backN (pushL l f st pl) n [sg l st pl node]
  | 0, y, hy => by
    have : y = node := by simpa [backN] using hy
    rw [this]; simp [backN]
  | n + 1, y, hy => by
    rw [backN_succ] at hy ⊢
    rcases stepN_mem.1 hy with e | ⟨k, hk, hy⟩
    · simp at e
    · have hk0 := back_in h n [node] (fun z hz => by simp at hz; subst hz; exact hn) k hk
      exact stepN_mem.2 (.inr ⟨_, back_sg h f st pl hn n hk, lks_sg l f st pl hk0.1 hy⟩)
theorem find_from {l : List Gn} (s t : Int) : ∀ (i : Nat) (hi : i < l.length) (k : Nat), (∀ j (hj : j < l.length), j < i → ¬ (l[j].st = s ∧ l[j].pl = t)) → l[i].st = s ∧ l[i].pl = t → findN s t l k = ((k + i : Nat) : Int) := by
  induction l with
  | nil => intro i hi; simp at hi
  | cons x l ih =>
    intro i hi k h1 h2
    match i with
    | 0 => simp at h2; simp [findN, h2]
    | i + 1 =>
      have h0 := h1 0 (by simp) (by omega)
      simp only [List.getElem_cons_zero] at h0
      rw [findN, if_neg h0, ih i (by simpa using hi) (k + 1) (fun j hj hji => by have := h1 (j + 1) (by simp; omega) (by omega); simpa using this) (by simpa using h2)]
      omega
theorem find_up {l : List Gn} (h : UpG l) {k : Nat} {y : Gn} (hy : l[k]? = some y) : findN y.st y.pl l 0 = k := by
  obtain ⟨hk, rfl⟩ := List.getElem?_eq_some_iff.1 hy
  rw [find_from _ _ k hk 0 (fun j hj hjk e => ?_) ⟨rfl, rfl⟩]
  · simp
  · have := h.at hj hk hjk
    have e2 : spG l[j] = spG l[k] := Prod.ext e.2 e.1
    rw [e2] at this
    exact ltS_irrefl _ this
/-- The ends of the rows back are the nodes so far behind. -/
theorem tails_back (l : List Gn) : ∀ (n : Nat) (node : Int) (t : List Int), t ∈ tailsN l n node → ∀ c, node ∈ c → ∃ e, (node :: t)[n]? = some e ∧ e ∈ backN l n c
  | 0, node, t, h, c, hc => by
    have : t = [] := by simpa [tailsN] using h
    subst this
    exact ⟨node, rfl, hc⟩
  | n + 1, node, t, h, c, hc => by
    simp only [tailsN, List.mem_flatMap, List.mem_map] at h
    obtain ⟨j, hj, r, hr, rfl⟩ := h
    exact tails_back l n j r hr _ (stepN_mem.2 (.inr ⟨node, hc, hj⟩))
theorem back_tails (l : List Gn) : ∀ (n : Nat) (c : List Int) (e : Int), e ∈ backN l n c → ∃ node ∈ c, ∃ t ∈ tailsN l n node, (node :: t)[n]? = some e
  | 0, c, e, h => ⟨e, h, [], by simp [tailsN], rfl⟩
  | n + 1, c, e, h => by
    obtain ⟨j, hj, t, ht, he⟩ := back_tails l n (stepN l c []) e h
    rcases stepN_mem.1 hj with h' | ⟨k, hk, hjk⟩
    · simp at h'
    · refine ⟨k, hk, j :: t, ?_, he⟩
      simp only [tailsN, List.mem_flatMap, List.mem_map]
      exact ⟨j, hjk, t, ht, rfl⟩
end Go.Proofs.Ytjpbfckdiojghaa
