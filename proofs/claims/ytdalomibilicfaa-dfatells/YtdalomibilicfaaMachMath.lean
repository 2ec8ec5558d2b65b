/- The machine of classes: what is made state by state; it is in the least form, and does the same. -/
import Derived.Test.YtdalomibilicfaaRoundMath
namespace Go.Proofs.Ytdalomibilicfaa
open Go.RowKit

/-- Arcs with the numbers of the classes, as these are met. -/
def arcsM : List Int → List Ar → List Ar
  | _, [] => []
  | L, x :: r => ⟨x.lo, x.hi, idxK (addK L x.tg) x.tg⟩ :: arcsM (addK L x.tg) r
theorem arcsM_tg : ∀ (R : List Ar) (L : List Int), (arcsM L R).map Ar.tg = meetL L (R.map Ar.tg)
  | [], L => rfl
  | x :: r, L => by
    unfold arcsM
    rw [List.map_cons, List.map_cons, meetL, arcsM_tg r]
theorem arcsM_len : ∀ (R : List Ar) (L : List Int), (arcsM L R).length = R.length
  | [], _ => rfl
  | x :: r, L => by unfold arcsM; simp [arcsM_len r]
theorem knownL_snoc (k : Int) : ∀ (ks L : List Int), knownL L (ks ++ [k]) = addK (knownL L ks) k
  | [], L => rfl
  | x :: ks, L => by
    rw [List.cons_append]
    unfold knownL
    exact knownL_snoc k ks _
theorem arcsM_snoc (y : Ar) : ∀ (R : List Ar) (L : List Int), arcsM L (R ++ [y]) = arcsM L R ++ [⟨y.lo, y.hi, idxK (addK (knownL L (R.map Ar.tg)) y.tg) y.tg⟩]
  | [], L => rfl
  | x :: r, L => by
    rw [List.cons_append, arcsM, arcsM, List.cons_append, arcsM_snoc y r]
    rfl
theorem arcsM_eq : ∀ (R : List Ar) (L : List Int), arcsM L R = R.map fun x => ⟨x.lo, x.hi, idxK (knownL L (R.map Ar.tg)) x.tg⟩
  | [], _ => rfl
  | x :: r, L => by
    unfold arcsM
    rw [arcsM_eq r, List.map_cons, List.map_cons, knownL, idxK_pre (knownL_pre _ _) (addK_mem L x.tg)]
theorem nodup_le : ∀ {L c : List Int}, L.Nodup → (∀ x ∈ L, x ∈ c) → L.length ≤ c.length
  | [], _, _, _ => Nat.zero_le _
  | x :: L, c, hn, h => by
    have hx := h x (by simp)
    have h2 := List.nodup_cons.1 hn
    have := nodup_le (L := L) (c := c.erase x) h2.2 (fun y hy => (List.mem_erase_of_ne (fun e => h2.1 (by rw [← e]; exact hy))).2 (h y (by simp [hy])))
    rw [List.length_erase_of_mem hx] at this
    have := List.length_pos_of_mem hx
    simp only [List.length_cons]
    omega
def accQ (l : List Ds) (c : List Int) (q : Int) : Int := accD l (idxK c q)
def runQ (l : List Ds) (c : List Int) (q : Int) : List Ar := runC (clsOf c) (arcsD l (idxK c q))
/-- What is made so far: the classes that are met, the states. -/
structure MI (l : List Ds) (c : List Int) (q0 : Int) (p : Nat) (L : List Int) (d : List Ds) : Prop where
  len : d.length = p
  le : p ≤ L.length
  nd : L.Nodup
  head : L[0]? = some q0
  mem : ∀ q ∈ L, q ∈ c
  nz : ∀ (i : Nat) q, L[i]? = some q → 0 < i → q ≠ 0
  met : metB d p = L.length
  grow : ∀ i : Nat, i < p → growB (metB d i) ((arcsD d i).map Ar.tg) ∧ (i : Int) < metB d i
  st : ∀ (i : Nat) q, i < p → L[i]? = some q → arcsD d i = (runQ l c q).map (fun x => ⟨x.lo, x.hi, idxK L x.tg⟩) ∧ accD d i = accQ l c q ∧ ∀ x ∈ runQ l c q, x.tg ∈ L
theorem MI.start {l : List Ds} {c : List Int} {q0 : Int} (h : q0 ∈ c) : MI l c q0 0 [q0] [] :=
  ⟨rfl, by simp, by simp, rfl, fun q hq => by simp at hq; subst hq; exact h, fun i q hi h0 => (by match i, h0 with | i + 1, _ => simp at hi), rfl, fun i hi => (by omega), fun i q hi => (by omega)⟩
theorem MI.small {l : List Ds} {c : List Int} {q0 : Int} {p : Nat} {L : List Int} {d : List Ds} (h : MI l c q0 p L d) : L.length ≤ c.length := nodup_le h.nd h.mem
theorem arcsD_app {d : List Ds} {s : Ds} {i : Nat} (hi : i < d.length) : arcsD (d ++ [s]) i = arcsD d i ∧ accD (d ++ [s]) i = accD d i := by
  have h1 := arcsD_mem hi
  have h2 := arcsD_mem (d := d ++ [s]) (p := i) (by simp; omega)
  rw [h1.1, h1.2, h2.1, h2.2, List.getElem_append_left hi]
  exact ⟨rfl, rfl⟩
theorem arcsD_last {d : List Ds} {s : Ds} : arcsD (d ++ [s]) d.length = s.arcs ∧ accD (d ++ [s]) d.length = s.acc := by
  have h2 := arcsD_mem (d := d ++ [s]) (p := d.length) (by simp)
  rw [h2.1, h2.2]
  simp
theorem metB_app {d : List Ds} {s : Ds} : ∀ (i : Nat), i ≤ d.length → metB (d ++ [s]) i = metB d i
  | 0, _ => rfl
  | i + 1, h => by
    unfold metB
    rw [metB_app i (by omega), (arcsD_app (by omega)).1]
theorem runQ_all {l : List Ds} (hf : fitD l) {c : List Int} (hl : c.length = l.length) {q : Int} (hq : q ∈ c) : upA (runQ l c q) 0 ∧ (∀ x ∈ runQ l c q, x.tg ≠ 0 ∧ x.tg ∈ c) ∧ runsA (runQ l c q) ∧ ∀ z, tagA (runQ l c q) z = clsOf c (ledD l (idxK c q) z) := by
  have hi : idxK c q < l.length := by rw [← hl]; exact idxK_lt hq
  obtain ⟨p1, p2, p3, p4⟩ := runC_all (clsOf c) (hf.at hi).1
  refine ⟨p1, fun x hx => ?_, p3, fun z => by rw [show runQ l c q = runC (clsOf c) (arcsD l (idxK c q)) from rfl, p4, lab_led]⟩
  obtain ⟨h1, y, hy, h2⟩ := p2 x hx
  refine ⟨h1, ?_⟩
  have hb := (hf.at hi).2 y hy
  rw [h2]
  unfold clsOf
  rw [if_neg (by omega)]
  have hl2 : y.tg.toNat < c.length := by omega
  rw [List.getElem?_eq_getElem hl2]
  exact List.getElem_mem hl2
theorem MI.step {l : List Ds} (hf : fitD l) {c : List Int} (hl : c.length = l.length) {q0 : Int} {p : Nat} {L : List Int} {d : List Ds} (h : MI l c q0 p L d) {q : Int} (hq : L[p]? = some q) :
    MI l c q0 (p + 1) (knownL L ((runQ l c q).map Ar.tg)) (d ++ [⟨arcsM L (runQ l c q), accQ l c q⟩]) := by
  have hqc := h.mem q (List.mem_of_getElem? hq)
  have hpl : p < L.length := (List.getElem?_eq_some_iff.1 hq).1
  obtain ⟨r1, r2, r3, r4⟩ := runQ_all hf hl hqc
  have hpre := knownL_pre ((runQ l c q).map Ar.tg) L
  have hnd := knownL_nd ((runQ l c q).map Ar.tg) h.nd
  have hmem : ∀ x, x ∈ knownL L ((runQ l c q).map Ar.tg) → x ∈ L ∨ ∃ y ∈ runQ l c q, x = y.tg := fun x hx => by
    rcases (knownL_mem _ _ _).1 hx with hx | hx
    · exact .inl hx
    · obtain ⟨y, hy, rfl⟩ := List.mem_map.1 hx
      exact .inr ⟨y, hy, rfl⟩
  have hget : ∀ (i : Nat) q', i < L.length → (knownL L ((runQ l c q).map Ar.tg))[i]? = some q' → L[i]? = some q' := fun i q' hi hx => by
    obtain ⟨t, ht⟩ := hpre
    rw [← ht, List.getElem?_append_left hi] at hx
    exact hx
  have hlast := arcsD_last (d := d) (s := ⟨arcsM L (runQ l c q), accQ l c q⟩)
  rw [h.len] at hlast
  have hgr := meetL_grow ((runQ l c q).map Ar.tg) L
  refine ⟨by simp [h.len], Nat.lt_of_lt_of_le hpl hpre.length_le, hnd, ?_, fun x hx => ?_, fun i x hx h0 => ?_, ?_, fun i hi => ?_, fun i x hi hx => ?_⟩
  · obtain ⟨t, ht⟩ := hpre
    rw [← ht, List.getElem?_append_left (by omega)]
    exact h.head
  · rcases hmem x hx with hx | ⟨y, hy, rfl⟩
    · exact h.mem x hx
    · exact (r2 y hy).2
  · by_cases hi : i < L.length
    · exact h.nz i x (hget i x hi hx) h0
    · rcases hmem x (List.mem_of_getElem? hx) with hx2 | ⟨y, hy, rfl⟩
      · obtain ⟨j, hj⟩ := List.getElem?_of_mem hx2
        have hjl := (List.getElem?_eq_some_iff.1 hj).1
        have e1 := idxK_at hnd hx
        obtain ⟨t, ht⟩ := hpre
        have hj2 : (knownL L ((runQ l c q).map Ar.tg))[j]? = some x := by rw [← ht, List.getElem?_append_left hjl]; exact hj
        have e2 := idxK_at hnd hj2
        omega
      · exact (r2 y hy).1
  · unfold metB
    rw [metB_app p (by rw [h.len]; exact Nat.le_refl _), h.met, hlast.1]
    simp only
    rw [arcsM_tg, hgr.2]
  · by_cases hip : i = p
    · subst hip
      rw [metB_app i (by rw [h.len]; exact Nat.le_refl _), h.met, hlast.1]
      simp only
      rw [arcsM_tg]
      exact ⟨hgr.1, by omega⟩
    · have hi2 : i < p := by omega
      rw [metB_app i (by rw [h.len]; omega), (arcsD_app (by rw [h.len]; exact hi2)).1]
      exact h.grow i hi2
  · by_cases hip : i = p
    · subst hip
      have hx2 := hget i x hpl hx
      rw [hq] at hx2
      cases hx2
      rw [hlast.1, hlast.2]
      simp only
      refine ⟨arcsM_eq _ _, trivial, fun y hy => (knownL_mem _ _ _).2 (.inr (List.mem_map.2 ⟨y, hy, rfl⟩))⟩
    · have hi2 : i < p := by omega
      have hx2 := hget i x (by have := h.le; omega) hx
      obtain ⟨e1, e2, e3⟩ := h.st i x hi2 hx2
      rw [(arcsD_app (by rw [h.len]; exact hi2)).1, (arcsD_app (by rw [h.len]; exact hi2)).2, e1]
      refine ⟨?_, e2, fun y hy => hpre.subset (e3 y hy)⟩
      apply List.map_congr_left
      intro y hy
      rw [idxK_pre hpre (e3 y hy)]
theorem arcOf_map (f : Int → Int) : ∀ (R : List Ar) (z : Int), arcOf (R.map fun x => ⟨x.lo, x.hi, f x.tg⟩) z = (arcOf R z).map fun x => ⟨x.lo, x.hi, f x.tg⟩
  | [], _ => rfl
  | x :: R, z => by
    rw [List.map_cons, arcOf, arcOf]
    simp only
    split
    · rfl
    · exact arcOf_map f R z
theorem upA_map (f : Int → Int) : ∀ {R : List Ar} {a : Int}, upA R a → upA (R.map fun x => ⟨x.lo, x.hi, f x.tg⟩) a
  | [], _, _ => trivial
  | x :: R, a, h => by
    unfold upA at h
    rw [List.map_cons]
    unfold upA
    exact ⟨h.1, h.2.1, h.2.2.1, upA_map f h.2.2.2⟩
theorem runsA_map (f : Int → Int) : ∀ {R : List Ar}, runsA R → (∀ x ∈ R, ∀ y ∈ R, f x.tg = f y.tg → x.tg = y.tg) → runsA (R.map fun x => ⟨x.lo, x.hi, f x.tg⟩)
  | [], _, _ => trivial
  | [_], _, _ => trivial
  | x :: y :: R, h, hf => by
    unfold runsA at h
    rw [List.map_cons, List.map_cons]
    unfold runsA
    refine ⟨fun e e2 => h.1 e (hf x (by simp) y (by simp) e2), ?_⟩
    have := runsA_map f h.2 (fun a ha b hb => hf a (by simp [ha]) b (by simp [hb]))
    rwa [List.map_cons] at this
/-- What is made accepts the same. -/
theorem MI.res {l : List Ds} (hf : fitD l) {c : List Int} (hl : c.length = l.length) (hc : ∀ a b, okS l.length a → okS l.length b → (clsOf c a = clsOf c b ↔ resD l a = resD l b)) {q0 : Int} {L : List Int} {d : List Ds} (h : MI l c q0 L.length L d) :
    ∀ (w : List Int) (i : Nat) (q : Int), L[i]? = some q → resD d i w = resD l (idxK c q) w
  | [], i, q, hi => by
    have hil := (List.getElem?_eq_some_iff.1 hi).1
    obtain ⟨_, e2, _⟩ := h.st i q hil hi
    exact e2
  | z :: w, i, q, hi => by
    have hil := (List.getElem?_eq_some_iff.1 hi).1
    have hqc := h.mem q (List.mem_of_getElem? hi)
    obtain ⟨e1, _, e3⟩ := h.st i q hil hi
    obtain ⟨r1, r2, r3, r4⟩ := runQ_all hf hl hqc
    rw [resD_cons, resD_cons]
    have hiK : idxK c q < l.length := by rw [← hl]; exact idxK_lt hqc
    have hok : okS l.length ((idxK c q : Nat) : Int) := ⟨by omega, by omega⟩
    have hlk := led_ok hf hok z
    have h4 := r4 z
    unfold tagA at h4
    cases hx : arcOf (runQ l c q) z with
    | none =>
      rw [hx] at h4
      have hd : ledD d i z = -1 := by
        unfold ledD nextA
        rw [e1, arcOf_map (fun t => ((idxK L t : Nat) : Int)), hx]; rfl
      rw [hd, res_dead d w (-1) (by omega)]
      have h5 := (hc (ledD l (idxK c q) z) (-1) hlk ⟨Int.le_refl _, by omega⟩).1 h4.symm
      rw [h5, res_dead l w (-1) (by omega)]
    | some x =>
      rw [hx] at h4
      simp only at h4
      have hxm := (arcOf_mem hx).1
      have hxL := e3 x hxm
      have hd : ledD d i z = (idxK L x.tg : Nat) := by
        unfold ledD nextA
        rw [e1, arcOf_map (fun t => ((idxK L t : Nat) : Int)), hx]; rfl
      rw [hd, MI.res hf hl hc h w (idxK L x.tg) x.tg (idxK_get hxL)]
      have hxc := h.mem x.tg hxL
      have hxl : idxK c x.tg < l.length := by rw [← hl]; exact idxK_lt hxc
      have h6 : clsOf c ((idxK c x.tg : Nat) : Int) = x.tg := by
        unfold clsOf
        rw [if_neg (by omega), Int.toNat_natCast, idxK_get hxc]; rfl
      rw [(hc _ _ ⟨by omega, by omega⟩ hlk).1 (by rw [h6, h4])]
/-- It is in the least form. -/
theorem MI.nf {l : List Ds} (hf : fitD l) {c : List Int} (hl : c.length = l.length) (hc : ∀ a b, okS l.length a → okS l.length b → (clsOf c a = clsOf c b ↔ resD l a = resD l b)) {L : List Int} {d : List Ds} (h : MI l c (clsOf c 0) L.length L d) :
    NF d ∧ resD d 0 = resD l 0 := by
  have hres := h.res hf hl hc
  have hcls : ∀ q ∈ c, clsOf c ((idxK c q : Nat) : Int) = q := fun q hq => by
    unfold clsOf
    rw [if_neg (by omega), Int.toNat_natCast, idxK_get hq]; rfl
  have hidx : ∀ q ∈ c, okS l.length ((idxK c q : Nat) : Int) := fun q hq => ⟨by omega, by have := idxK_lt hq; omega⟩
  have hLpos : 0 < L.length := (List.getElem?_eq_some_iff.1 h.head).1
  have hget : ∀ i, i < L.length → ∃ q, L[i]? = some q := fun i hi => ⟨_, List.getElem?_eq_getElem hi⟩
  have hst : ∀ s ∈ d, ∃ i q, L[i]? = some q ∧ i < L.length ∧ s.arcs = (runQ l c q).map (fun x => ⟨x.lo, x.hi, (idxK L x.tg : Int)⟩) ∧ s.acc = accQ l c q ∧ ∀ x ∈ runQ l c q, x.tg ∈ L := by
    intro s hs
    obtain ⟨i, hi⟩ := List.getElem?_of_mem hs
    have hil := (List.getElem?_eq_some_iff.1 hi).1
    have hil2 : i < L.length := by rw [← h.len]; exact hil
    obtain ⟨q, hq⟩ := hget i hil2
    obtain ⟨e1, e2, e3⟩ := h.st i q hil2 hq
    have h9 := arcsD_mem hil
    rw [List.getElem?_eq_getElem hil] at hi
    rw [Option.some.inj hi] at h9
    exact ⟨i, q, hq, hil2, by rw [← h9.1, e1], by rw [← h9.2, e2], e3⟩
  have hfit : fitD d := by
    refine ⟨fun e => ?_, fun s hs => ?_, fun s hs => ?_⟩
    · have := h.len; rw [e] at this; simp at this; omega
    · obtain ⟨i, q, hq, hi, e1, _, e3⟩ := hst s hs
      rw [e1]
      refine ⟨upA_map (fun t => (idxK L t : Int)) (runQ_all hf hl (h.mem q (List.mem_of_getElem? hq))).1, fun x hx => ?_⟩
      obtain ⟨y, hy, rfl⟩ := List.mem_map.1 hx
      have := idxK_lt (e3 y hy)
      simp only
      rw [h.len]
      omega
    · obtain ⟨i, q, hq, hi, _, e2, _⟩ := hst s hs
      rw [e2]
      have hqc := h.mem q (List.mem_of_getElem? hq)
      have hil : idxK c q < l.length := by rw [← hl]; exact idxK_lt hqc
      unfold accQ
      rw [(arcsD_mem hil).2]
      exact hf.acc _ (List.getElem_mem hil)
  have h00 : resD d 0 = resD l 0 := by
    funext w
    have := hres w 0 _ h.head
    have h0c : clsOf c 0 ∈ c := h.mem _ (List.mem_of_getElem? h.head)
    rw [show ((0 : Nat) : Int) = 0 from rfl] at this
    rw [this]
    have hl0 : 0 < l.length := List.length_pos_iff.2 hf.some
    exact congrFun ((hc _ _ (hidx _ h0c) ⟨by omega, by omega⟩).1 (hcls _ h0c)) w
  refine ⟨⟨hfit, fun i j hi hj he => ?_, fun p hp x hx => ?_, fun p hp => ?_, fun p hp => ?_, fun p hp => ?_, ?_⟩, h00⟩
  · rw [h.len] at hi hj
    obtain ⟨qi, hqi⟩ := hget i hi
    obtain ⟨qj, hqj⟩ := hget j hj
    have e1 : resD l (idxK c qi) = resD l (idxK c qj) := by
      funext w
      rw [← hres w i qi hqi, ← hres w j qj hqj, he]
    have hci := h.mem qi (List.mem_of_getElem? hqi)
    have hcj := h.mem qj (List.mem_of_getElem? hqj)
    have e2 := (hc _ _ (hidx qi hci) (hidx qj hcj)).2 e1
    rw [hcls qi hci, hcls qj hcj] at e2
    subst e2
    have a1 := idxK_at h.nd hqi
    have a2 := idxK_at h.nd hqj
    omega
  · rw [h.len] at hp
    obtain ⟨q, hq⟩ := hget p hp
    obtain ⟨e1, _, e3⟩ := h.st p q hp hq
    rw [e1] at hx
    obtain ⟨y, hy, rfl⟩ := List.mem_map.1 hx
    have hyL := e3 y hy
    have hyc := h.mem y.tg hyL
    have hnz := ((runQ_all hf hl (h.mem q (List.mem_of_getElem? hq))).2.1 y hy).1
    apply Classical.byContradiction
    intro hno
    apply hnz
    have hdead : resD l (idxK c y.tg) = resD l (-1) := by
      funext w
      rw [res_dead l w (-1) (by omega), ← hres w (idxK L y.tg) y.tg (idxK_get hyL)]
      apply Classical.byContradiction
      intro hne
      exact hno ⟨w, hne⟩
    have h5 := (hc _ (-1) (hidx _ hyc) ⟨Int.le_refl _, by omega⟩).2 hdead
    rw [hcls _ hyc] at h5
    exact h5
  · rw [h.len] at hp
    obtain ⟨q, hq⟩ := hget p hp
    obtain ⟨e1, _, e3⟩ := h.st p q hp hq
    rw [e1]
    refine runsA_map (fun t => (idxK L t : Int)) (runQ_all hf hl (h.mem q (List.mem_of_getElem? hq))).2.2.1 (fun x hx y hy e => idxK_inj (e3 x hx) (e3 y hy) (by omega))
  · rw [h.len] at hp
    exact (h.grow p hp).1
  · rw [h.len] at hp
    exact (h.grow p hp).2
  · rw [h.len, h.met]
end Go.Proofs.Ytdalomibilicfaa
