/- Texts joined: LeMath, LeMach. -/
import Derived.Test.YtdalomibilicfaaMachMath
import Derived.Test.YtdalomibilicfaaJBfsMath
/- The document's Least: states told apart round by round, and whether they live; each class is its least state's. -/
namespace Go.Proofs.Ytdalomibilicfaa
open Go.RowKit

/-- No text of so many bytes tells them apart, nor whether they live behind it. -/
def QK (l : List Ds) (k : Nat) (a b : Int) : Prop := ∀ w : List Int, w.length ≤ k → resD l a w = resD l b w ∧ (liveD l (goD l a w) ↔ liveD l (goD l b w))
theorem QK.rfl {l : List Ds} {k : Nat} {a : Int} : QK l k a a := fun _ _ => ⟨Eq.refl _, Iff.rfl⟩
theorem QK.symm {l : List Ds} {k : Nat} {a b : Int} (h : QK l k a b) : QK l k b a := fun w hw => ⟨(h w hw).1.symm, (h w hw).2.symm⟩
theorem QK.trans {l : List Ds} {k : Nat} {a b c : Int} (h : QK l k a b) (g : QK l k b c) : QK l k a c := fun w hw => ⟨(h w hw).1.trans (g w hw).1, (h w hw).2.trans (g w hw).2⟩
theorem QK.live {l : List Ds} {k : Nat} {a b : Int} (h : QK l k a b) : liveD l a ↔ liveD l b := (h [] (Nat.zero_le _)).2
theorem QK_zero (l : List Ds) (a b : Int) : QK l 0 a b ↔ accD l a = accD l b ∧ (liveD l a ↔ liveD l b) := by
  constructor
  · intro h; exact h [] (Nat.le_refl _)
  · intro h w hw
    obtain rfl : w = [] := List.eq_nil_of_length_eq_zero (by omega)
    exact h
theorem QK_succ (l : List Ds) (k : Nat) (a b : Int) : QK l (k + 1) a b ↔ QK l k a b ∧ ∀ c, QK l k (ledD l a c) (ledD l b c) := by
  constructor
  · intro h
    exact ⟨fun w hw => h w (by omega), fun c w hw => h (c :: w) (by simp; omega)⟩
  · rintro ⟨h1, h2⟩ w hw
    cases w with
    | nil => exact h1 [] (by simp)
    | cons c w => exact h2 c w (by simp at hw; omega)
theorem live_go {l : List Ds} {a : Int} {w : List Int} (h : liveD l (goD l a w)) : liveD l a := by
  obtain ⟨v, hv⟩ := h
  exact ⟨w ++ v, by rw [res_app]; exact hv⟩
theorem dead_res {l : List Ds} {a : Int} (h : ¬ liveD l a) (w : List Int) : resD l a w = -1 := Classical.byContradiction fun hn => h ⟨w, hn⟩
theorem dead_neg (l : List Ds) {a : Int} (h : a < 0) : ¬ liveD l a := fun ⟨w, hw⟩ => hw (res_dead l w a h)
theorem QK_dead {l : List Ds} {a b : Int} (ha : ¬ liveD l a) (hb : ¬ liveD l b) (k : Nat) : QK l k a b := fun w _ =>
  ⟨by rw [dead_res ha, dead_res hb], ⟨fun h => absurd (live_go h) ha, fun h => absurd (live_go h) hb⟩⟩
theorem QK_of_res {l : List Ds} {a b : Int} (h : resD l a = resD l b) (k : Nat) : QK l k a b := fun w _ => by
  refine ⟨by rw [h], ?_⟩
  constructor
  · rintro ⟨v, hv⟩; exact ⟨v, by rw [← res_app, ← h, res_app]; exact hv⟩
  · rintro ⟨v, hv⟩; exact ⟨v, by rw [← res_app, h, res_app]; exact hv⟩
theorem QK_stay {l : List Ds} (hf : fitD l) {k : Nat} (h : ∀ a b, okS l.length a → okS l.length b → QK l k a b → QK l (k + 1) a b) : ∀ (m : Nat) a b, okS l.length a → okS l.length b → QK l k a b → QK l (k + m) a b
  | 0, a, b, _, _, he => he
  | m + 1, a, b, ha, hb, he => by
    have h1 := (QK_succ l k a b).1 (h a b ha hb he)
    rw [show k + (m + 1) = (k + m) + 1 by omega, QK_succ]
    exact ⟨QK_stay hf h m a b ha hb he, fun c => QK_stay hf h m _ _ (led_ok hf ha c) (led_ok hf hb c) (h1.2 c)⟩
/-- The class of a state, or of none. -/
def clv (c : List Int) (a : Int) : Int := if a < 0 then -1 else (c[a.toNat]?).getD (-1)
/-- The least state that is not told apart. -/
def RepAt (l : List Ds) (k j : Nat) (v : Int) : Prop := (¬ liveD l j → v = -1) ∧ (liveD l j → ∃ m : Nat, v = m ∧ m ≤ j ∧ QK l k j m ∧ ∀ t : Nat, t < m → ¬ QK l k j t)
structure Cl2 (l : List Ds) (k : Nat) (c : List Int) : Prop where
  len : c.length = l.length
  rep : ∀ (j : Nat) v, c[j]? = some v → RepAt l k j v
theorem RepAt.one {l : List Ds} {k i j : Nat} {u v : Int} (hi : RepAt l k i u) (hj : RepAt l k j v) (h : QK l k i j) : u = v := by
  by_cases hl : liveD l i
  · obtain ⟨m, rfl, _, hm, hm2⟩ := hi.2 hl
    obtain ⟨n, rfl, _, hn, hn2⟩ := hj.2 (h.live.1 hl)
    have h1 : ¬ n < m := fun hlt => hm2 n hlt (h.trans hn)
    have h2 : ¬ m < n := fun hlt => hn2 m hlt (h.symm.trans hm)
    omega
  · rw [hi.1 hl, hj.1 (fun hn => hl (h.live.2 hn))]
theorem RepAt.low {l : List Ds} {k j : Nat} {v : Int} (h : RepAt l k j v) : -1 ≤ v ∧ v ≤ j := by
  by_cases hl : liveD l j
  · obtain ⟨m, rfl, hm, _⟩ := h.2 hl
    omega
  · rw [h.1 hl]; omega
theorem RepAt.neg {l : List Ds} {k j : Nat} {v : Int} (h : RepAt l k j v) : v < 0 ↔ ¬ liveD l j := by
  constructor
  · intro hv hl
    obtain ⟨m, rfl, _⟩ := h.2 hl
    omega
  · intro hl; rw [h.1 hl]; omega
theorem RepAt.mono {l : List Ds} {k j : Nat} {u v : Int} (hu : RepAt l k j u) (hv : RepAt l (k + 1) j v) : u ≤ v := by
  by_cases hl : liveD l j
  · obtain ⟨m, rfl, _, _, hm2⟩ := hu.2 hl
    obtain ⟨n, rfl, _, hn, _⟩ := hv.2 hl
    have : ¬ n < m := fun hlt => hm2 n hlt ((QK_succ l k _ _).1 hn).1
    omega
  · rw [hu.1 hl, hv.1 hl]; omega
/-- A state is its own class's, if none ahead of it is. -/
theorem RepAt.self {l : List Ds} {k j : Nat} (hl : liveD l j) (h : ∀ t : Nat, t < j → ¬ QK l k j t) : RepAt l k j j := ⟨fun hn => absurd hl hn, fun _ => ⟨j, rfl, Nat.le_refl _, QK.rfl, h⟩⟩
theorem RepAt.of {l : List Ds} {k i j : Nat} {v : Int} (hj : RepAt l k j v) (hji : j ≤ i) (h : QK l k i j) : RepAt l k i v := by
  constructor
  · intro hn; exact hj.1 (fun hl => hn (h.live.2 hl))
  · intro hl
    obtain ⟨m, rfl, h1, h2, h3⟩ := hj.2 (h.live.1 hl)
    exact ⟨m, rfl, by omega, h.trans h2, fun t ht hq => h3 t ht (h.symm.trans hq)⟩
theorem Cl2.at {l : List Ds} {k : Nat} {c : List Int} (h : Cl2 l k c) {a : Int} (h0 : 0 ≤ a) (h1 : a < l.length) : RepAt l k a.toNat (clv c a) := by
  have hl : a.toNat < c.length := by rw [h.len]; omega
  unfold clv
  rw [if_neg (by omega), List.getElem?_eq_getElem hl]
  exact h.rep _ _ (List.getElem?_eq_getElem hl)
theorem Cl2.neg {l : List Ds} {k : Nat} {c : List Int} (h : Cl2 l k c) {a : Int} (ha : okS l.length a) : clv c a < 0 ↔ ¬ liveD l a := by
  by_cases h0 : a < 0
  · unfold clv
    rw [if_pos h0]
    exact ⟨fun _ => dead_neg l h0, fun _ => by omega⟩
  · have := (h.at (by omega) ha.2).neg
    rw [Int.toNat_of_nonneg (by omega)] at this
    exact this
theorem Cl2.low {l : List Ds} {k : Nat} {c : List Int} (h : Cl2 l k c) {a : Int} (ha : okS l.length a) : -1 ≤ clv c a ∧ clv c a < l.length := by
  by_cases h0 : a < 0
  · unfold clv
    rw [if_pos h0]
    have := ha.2
    have := ha.1
    omega
  · have := (h.at (by omega) ha.2).low
    have := ha.2
    omega
theorem Cl2.tell {l : List Ds} {k : Nat} {c : List Int} (h : Cl2 l k c) {a b : Int} (ha : okS l.length a) (hb : okS l.length b) : clv c a = clv c b ↔ QK l k a b := by
  have na := h.neg ha
  have nb := h.neg hb
  by_cases la : liveD l a
  · by_cases lb : liveD l b
    · have a0 : 0 ≤ a := Classical.byContradiction fun hn => dead_neg l (by omega) la
      have b0 : 0 ≤ b := Classical.byContradiction fun hn => dead_neg l (by omega) lb
      have ra := h.at a0 ha.2
      have rb := h.at b0 hb.2
      constructor
      · intro e
        rw [e] at ra
        obtain ⟨m, e1, _, hm, _⟩ := ra.2 (by rw [Int.toNat_of_nonneg a0]; exact la)
        obtain ⟨n, e2, _, hn, _⟩ := rb.2 (by rw [Int.toNat_of_nonneg b0]; exact lb)
        have : m = n := by omega
        subst this
        rw [Int.toNat_of_nonneg a0] at hm
        rw [Int.toNat_of_nonneg b0] at hn
        exact hm.trans hn.symm
      · intro hq
        exact ra.one rb (by rw [Int.toNat_of_nonneg a0, Int.toNat_of_nonneg b0]; exact hq)
    · constructor
      · intro e
        have := nb.2 lb
        rw [← e] at this
        exact absurd la (na.1 this)
      · intro hq; exact absurd (hq.live.1 la) lb
  · by_cases lb : liveD l b
    · constructor
      · intro e
        have := na.2 la
        rw [e] at this
        exact absurd lb (nb.1 this)
      · intro hq; exact absurd (hq.live.2 lb) la
    · have h1 := na.2 la
      have h2 := nb.2 lb
      have h3 := (h.low ha).1
      have h4 := (h.low hb).1
      exact ⟨fun _ => QK_dead la lb k, fun _ => by omega⟩
/-- Nothing changes: nothing ever tells them apart. -/
theorem Cl2.all {l : List Ds} (hf : fitD l) {k : Nat} {c : List Int} (hc : Cl2 l k c) (hd : Cl2 l (k + 1) c) {a b : Int} (ha : okS l.length a) (hb : okS l.length b) : clv c a = clv c b ↔ resD l a = resD l b := by
  rw [hc.tell ha hb]
  constructor
  · intro h
    funext w
    exact (QK_stay hf (fun a b ha hb he => (hd.tell ha hb).1 ((hc.tell ha hb).2 he)) w.length a b ha hb h w (by omega)).1
  · intro h; exact QK_of_res h k
def sumI : List Int → Int
  | [] => 0
  | x :: c => x + sumI c
theorem sumI_le : ∀ {c d : List Int}, c.length = d.length → (∀ (j : Nat) u v, c[j]? = some u → d[j]? = some v → u ≤ v) → sumI c ≤ sumI d ∧ (c ≠ d → sumI c < sumI d)
  | [], [], _, _ => ⟨Int.le_refl _, fun h => absurd rfl h⟩
  | [], _ :: _, h, _ => by simp at h
  | _ :: _, [], h, _ => by simp at h
  | x :: c, y :: d, hl, h => by
    have h0 := h 0 x y rfl rfl
    obtain ⟨h1, h2⟩ := sumI_le (c := c) (d := d) (by simpa using hl) (fun j u v hu hv => h (j + 1) u v (by simpa using hu) (by simpa using hv))
    unfold sumI
    refine ⟨by omega, fun hne => ?_⟩
    by_cases e : x = y
    · have := h2 (fun e2 => hne (by rw [e, e2])); omega
    · omega
theorem sumI_bound (n : Int) : ∀ {c : List Int}, (∀ x ∈ c, x ≤ n) → sumI c ≤ c.length * n
  | [], _ => by simp [sumI]
  | x :: c, h => by
    have h1 := h x (by simp)
    have h2 := sumI_bound n (c := c) (fun y hy => h y (by simp [hy]))
    unfold sumI
    simp only [List.length_cons, Int.natCast_add, Int.natCast_one, Int.add_mul, Int.one_mul]
    omega
theorem Cl2.rise {l : List Ds} {k : Nat} {c d : List Int} (hc : Cl2 l k c) (hd : Cl2 l (k + 1) d) (hne : d ≠ c) : sumI c < sumI d :=
  (sumI_le (by rw [hc.len, hd.len]) (fun j u v hu hv => (hc.rep j u hu).mono (hd.rep j v hv))).2 (fun e => hne e.symm)
theorem Cl2.most {l : List Ds} {k : Nat} {c : List Int} (hc : Cl2 l k c) : sumI c ≤ l.length * l.length := by
  rw [← hc.len]
  refine sumI_bound _ (fun x hx => ?_)
  obtain ⟨j, hj⟩ := List.getElem?_of_mem hx
  have := (hc.rep j x hj).low
  have := (List.getElem?_eq_some_iff.1 hj).1
  omega
/-- What lives, by a table: what it has is so; nothing is left out. -/
structure AlvT (l : List Ds) (tb : List Bool) : Prop where
  len : tb.length = l.length
  so : ∀ i : Nat, tb[i]? = some true → liveD l i
def stepA (l : List Ds) (tb : List Bool) (i : Nat) : Prop := 0 ≤ accD l i ∨ ∃ c : Nat, c < 256 ∧ 0 ≤ ledD l i c ∧ tb[(ledD l i c).toNat]? = some true
theorem AlvT.start (l : List Ds) : AlvT l (List.replicate l.length false) := ⟨by simp, fun i h => by
  rw [List.getElem?_replicate] at h
  split at h <;> cases h⟩
theorem AlvT.live {l : List Ds} {tb : List Bool} (h : AlvT l tb) {i : Nat} (hs : stepA l tb i) : liveD l i := by
  rcases hs with hs | ⟨c, _, h0, hc⟩
  · exact ⟨[], fun e => by have : accD l i = -1 := e; omega⟩
  · obtain ⟨w, hw⟩ := h.so _ hc
    rw [Int.toNat_of_nonneg h0] at hw
    exact ⟨(c : Int) :: w, hw⟩
theorem AlvT.put {l : List Ds} {tb : List Bool} (h : AlvT l tb) {i : Nat} (hs : stepA l tb i) : AlvT l (tb.set i true) := by
  refine ⟨by rw [List.length_set]; exact h.len, fun j hj => ?_⟩
  by_cases e : i = j
  · rw [← e]; exact h.live hs
  · rw [List.getElem?_set_ne e] at hj; exact h.so j hj
theorem AlvT.all {l : List Ds} (hf : fitD l) {tb : List Bool} (h : AlvT l tb) (hc : ∀ i : Nat, i < l.length → stepA l tb i → tb[i]? = some true) : ∀ i : Nat, i < l.length → (tb[i]? = some true ↔ liveD l i) := by
  have key : ∀ (w : List Int) (i : Nat), i < l.length → resD l i w ≠ -1 → tb[i]? = some true := by
    intro w
    induction w with
    | nil =>
      intro i hi hr
      refine hc i hi (.inl ?_)
      have h1 : accD l i ≠ -1 := hr
      have h2 := hf.acc l[i] (List.getElem_mem hi)
      rw [← (arcsD_mem hi).2] at h2
      omega
    | cons c w ih =>
      intro i hi hr
      rw [resD_cons] at hr
      have hok := led_ok hf (a := (i : Int)) ⟨by omega, by omega⟩ c
      have h0 : 0 ≤ ledD l i c := Classical.byContradiction fun hn => hr (res_dead l w _ (by omega))
      have hb : 0 ≤ c ∧ c ≤ 255 := Classical.byContradiction fun hn => by
        rw [led_out hf (a := (i : Int)) ⟨by omega, by omega⟩ (by omega)] at h0
        omega
      obtain ⟨n, rfl⟩ : ∃ n : Nat, c = n := ⟨c.toNat, by omega⟩
      refine hc i hi (.inr ⟨n, by omega, h0, ih _ (by have := hok.2; omega) ?_⟩)
      rw [Int.toNat_of_nonneg h0]
      exact hr
  intro i hi
  exact ⟨h.so i, fun ⟨w, hw⟩ => key w i hi hw⟩
def cntF : List Bool → Nat
  | [] => 0
  | b :: t => (if b then 0 else 1) + cntF t
theorem cntF_set : ∀ (tb : List Bool) (i : Nat), tb[i]? = some false → cntF (tb.set i true) < cntF tb
  | [], i, h => by simp at h
  | b :: t, 0, h => by simp at h; subst h; simp [cntF]
  | b :: t, i + 1, h => by
    have := cntF_set t i (by simpa using h)
    simp only [List.set_cons_succ, cntF]
    omega
end Go.Proofs.Ytdalomibilicfaa
/- The document's Least: the machine of the states that are met, byte by byte; it is in the least form, and does the same. -/
namespace Go.Proofs.Ytdalomibilicfaa
open Go.RowKit

theorem arcOf_app : ∀ (R S : List Ar) (z : Int), arcOf (R ++ S) z = (arcOf R z).or (arcOf S z)
  | [], _, _ => by simp [arcOf]
  | x :: R, S, z => by
    rw [List.cons_append, arcOf, arcOf]
    split
    · rfl
    · exact arcOf_app R S z
theorem upA_snoc (y : Ar) : ∀ {R : List Ar} {a : Int}, upA R a → (∀ x ∈ R, x.hi < y.lo) → a ≤ y.lo → y.lo ≤ y.hi → y.hi ≤ 255 → upA (R ++ [y]) a
  | [], a, _, _, h1, h2, h3 => by
    rw [List.nil_append]
    unfold upA
    exact ⟨h1, h2, h3, trivial⟩
  | x :: R, a, h, hx, h1, h2, h3 => by
    unfold upA at h
    rw [List.cons_append]
    unfold upA
    have := hx x (by simp)
    exact ⟨h.1, h.2.1, h.2.2.1, upA_snoc y h.2.2.2 (fun x hx' => hx x (by simp [hx'])) (by omega) h2 h3⟩
theorem upA_ext {x : Ar} {m : Int} (hm : x.hi ≤ m) (h255 : m ≤ 255) : ∀ {R : List Ar} {a : Int}, upA (R ++ [x]) a → upA (R ++ [⟨x.lo, m, x.tg⟩]) a
  | [], a, h => by
    rw [List.nil_append] at h ⊢
    unfold upA at h ⊢
    simp only
    exact ⟨h.1, by omega, h255, trivial⟩
  | y :: R, a, h => by
    rw [List.cons_append] at h ⊢
    unfold upA at h ⊢
    exact ⟨h.1, h.2.1, h.2.2.1, upA_ext hm h255 h.2.2.2⟩
theorem runsA_snoc (y : Ar) : ∀ {R : List Ar}, runsA R → (∀ x, R.getLast? = some x → x.hi + 1 = y.lo → x.tg ≠ y.tg) → runsA (R ++ [y])
  | [], _, _ => trivial
  | [x], _, h => ⟨h x rfl, trivial⟩
  | x :: z :: R, hr, h => by
    unfold runsA at hr
    have := runsA_snoc y hr.2 (fun u hu => h u (by rw [List.getLast?_cons_cons]; exact hu))
    rw [List.cons_append] at this
    exact ⟨hr.1, this⟩
theorem runsA_ext {x : Ar} {m : Int} : ∀ {R : List Ar}, runsA (R ++ [x]) → runsA (R ++ [⟨x.lo, m, x.tg⟩])
  | [], _ => trivial
  | [y], h => by
    simp only [List.cons_append, List.nil_append] at h ⊢
    exact ⟨h.1, trivial⟩
  | y :: z :: R, h => by
    simp only [List.cons_append] at h ⊢
    refine ⟨h.1, ?_⟩
    have := runsA_ext (x := x) (m := m) (R := z :: R) (by simpa using h.2)
    simpa using this
theorem growB_snoc (t : Int) : ∀ (L : List Int) (b : Int), growB b L → t ≤ behB b L → growB b (L ++ [t]) ∧ behB b (L ++ [t]) = if t = behB b L then behB b L + 1 else behB b L
  | [], b, _, h => by
    unfold behB at h
    refine ⟨?_, ?_⟩
    · rw [List.nil_append]; exact ⟨h, trivial⟩
    · simp only [List.nil_append, behB]
      rfl
  | x :: L, b, hg, h => by
    unfold growB at hg
    unfold behB at h
    obtain ⟨h1, h2⟩ := growB_snoc t L _ hg.2 h
    rw [List.cons_append]
    unfold growB behB
    exact ⟨⟨hg.1, h1⟩, h2⟩
/-- The states that were met: one of each class. -/
structure OI (n : Nat) (cl : Int → Int) (O : List Int) : Prop where
  head : O[0]? = some 0
  ok : ∀ a ∈ O, 0 ≤ a ∧ a < n
  nd : ∀ (i j : Nat) a b, O[i]? = some a → O[j]? = some b → cl a = cl b → i = j
  dead : cl 0 < 0 → O = [0]
  lv : ∀ (i : Nat) a, 0 < i → O[i]? = some a → 0 ≤ cl a
theorem OI.start {n : Nat} (hn : 0 < n) (cl : Int → Int) : OI n cl [0] := by
  have h1 : ∀ (i : Nat) (a : Int), [(0 : Int)][i]? = some a → i = 0 := fun i a h => by
    match i, h with
    | 0, _ => rfl
    | i + 1, h => simp at h
  exact ⟨rfl, fun a ha => by simp at ha; omega, fun i j a b hi hj _ => by rw [h1 i a hi, h1 j b hj], fun _ => rfl, fun i a h0 hi => by have := h1 i a hi; omega⟩
theorem OI.pos {n : Nat} {cl : Int → Int} {O : List Int} (h : OI n cl O) : 0 < O.length := (List.getElem?_eq_some_iff.1 h.head).1
theorem snoc_get {α : Type} {O : List α} {x : α} {j : Nat} {w : α} (hj : (O ++ [x])[j]? = some w) : (j < O.length ∧ O[j]? = some w) ∨ (j = O.length ∧ w = x) := by
  rcases Nat.lt_or_ge j O.length with hl | hl
  · rw [List.getElem?_append_left hl] at hj; exact .inl ⟨hl, hj⟩
  · rw [List.getElem?_append_right hl] at hj
    have := (List.getElem?_eq_some_iff.1 hj).1
    simp at this
    obtain rfl : j = O.length := by omega
    simp at hj
    exact .inr ⟨rfl, hj.symm⟩
theorem OI.push {n : Nat} {cl : Int → Int} {O : List Int} (h : OI n cl O) {x : Int} (h0 : 0 ≤ x) (hx : x < n) (hc : 0 ≤ cl x) (h00 : 0 ≤ cl 0) (hn : ∀ b ∈ O, cl b ≠ cl x) : OI n cl (O ++ [x]) := by
  have hp := h.pos
  refine ⟨by rw [List.getElem?_append_left hp]; exact h.head, fun a ha => ?_, fun i j a b hi hj e => ?_, fun hd => by omega, fun i a hi ha => ?_⟩
  · rcases List.mem_append.1 ha with ha | ha
    · exact h.ok a ha
    · simp at ha; subst ha; exact ⟨h0, hx⟩
  · rcases snoc_get hi with ⟨h1, hi2⟩ | ⟨rfl, e1⟩
    · rcases snoc_get hj with ⟨h2, hj2⟩ | ⟨rfl, e2⟩
      · exact h.nd i j a b hi2 hj2 e
      · exact absurd (e2 ▸ e) (hn a (List.mem_of_getElem? hi2))
    · rcases snoc_get hj with ⟨h2, hj2⟩ | ⟨rfl, e2⟩
      · exact absurd (e1 ▸ e.symm) (hn b (List.mem_of_getElem? hj2))
      · rfl
  · rcases snoc_get ha with ⟨h1, ha2⟩ | ⟨_, e1⟩
    · exact h.lv i a hi ha2
    · rw [e1]; exact hc
/-- What arcs say of a byte: nothing where none lives, else the number of the class. -/
def TelA (l : List Ds) (cl : Int → Int) (O : List Int) (a : Int) (R : List Ar) (z : Int) : Prop :=
  (cl (ledD l a z) < 0 → arcOf R z = none) ∧ (0 ≤ cl (ledD l a z) → ∃ (x : Ar) (j : Nat) (b : Int), arcOf R z = some x ∧ x.tg = j ∧ O[j]? = some b ∧ cl b = cl (ledD l a z))
structure ArcsOk (l : List Ds) (cl : Int → Int) (O : List Int) (a : Int) (R : List Ar) (m : Int) : Prop where
  up : upA R 0
  lt : ∀ x ∈ R, x.hi < m
  runs : runsA R
  tell : ∀ z : Int, 0 ≤ z → z < m → TelA l cl O a R z
theorem ArcsOk.nil (l : List Ds) (cl : Int → Int) (O : List Int) (a : Int) : ArcsOk l cl O a [] 0 := ⟨trivial, fun x hx => (by cases hx), trivial, fun z h0 h1 => (by omega)⟩
theorem TelA.mono {l : List Ds} {cl : Int → Int} {O : List Int} {a : Int} {R : List Ar} {z : Int} (h : TelA l cl O a R z) (S : List Int) : TelA l cl (O ++ S) a R z := by
  refine ⟨h.1, fun h0 => ?_⟩
  obtain ⟨x, j, b, h1, h2, h3, h4⟩ := h.2 h0
  exact ⟨x, j, b, h1, h2, by rw [List.getElem?_append_left (List.getElem?_eq_some_iff.1 h3).1]; exact h3, h4⟩
theorem ArcsOk.mono {l : List Ds} {cl : Int → Int} {O : List Int} {a : Int} {R : List Ar} {m : Int} (h : ArcsOk l cl O a R m) (S : List Int) : ArcsOk l cl (O ++ S) a R m := ⟨h.up, h.lt, h.runs, fun z h0 h1 => (h.tell z h0 h1).mono S⟩
theorem upA_low : ∀ {R : List Ar} {a : Int}, upA R a → ∀ x ∈ R, a ≤ x.lo ∧ x.lo ≤ x.hi
  | y :: R, a, h, x, hx => by
    unfold upA at h
    rcases List.mem_cons.1 hx with rfl | hx
    · exact ⟨h.1, h.2.1⟩
    · have := upA_low h.2.2.2 x hx; omega
/-- Where arcs lead: to states that were met, of a class that lives. -/
theorem ArcsOk.tgs {l : List Ds} {cl : Int → Int} {O : List Int} {a : Int} {R : List Ar} {m : Int} (h : ArcsOk l cl O a R m) {x : Ar} (hx : x ∈ R) : ∃ (j : Nat) (b : Int), x.tg = j ∧ O[j]? = some b ∧ 0 ≤ cl b := by
  have h1 := upA_low h.up x hx
  have h2 := h.lt x hx
  have h3 := arcOf_in h.up x hx x.lo (Int.le_refl _) h1.2
  obtain ⟨t1, t2⟩ := h.tell x.lo h1.1 (by omega)
  have h0 : 0 ≤ cl (ledD l a x.lo) := Classical.byContradiction fun hn => by
    rw [t1 (by omega)] at h3
    cases h3
  obtain ⟨y, j, b, e1, e2, e3, e4⟩ := t2 h0
  rw [h3] at e1
  cases e1
  exact ⟨j, b, e2, e3, by omega⟩
theorem arcOf_high {R : List Ar} {m z : Int} (hl : ∀ x ∈ R, x.hi < m) (hz : m ≤ z) : arcOf R z = none := by
  cases h : arcOf R z with
  | none => rfl
  | some x =>
    have := arcOf_mem h
    have := hl x this.1
    omega
theorem ArcsOk.skip {l : List Ds} {cl : Int → Int} {O : List Int} {a : Int} {R : List Ar} {m : Int} (h : ArcsOk l cl O a R m) (hd : cl (ledD l a m) < 0) : ArcsOk l cl O a R (m + 1) := by
  refine ⟨h.up, fun x hx => by have := h.lt x hx; omega, h.runs, fun z h0 h1 => ?_⟩
  by_cases e : z = m
  · subst e
    exact ⟨fun _ => arcOf_high h.lt (Int.le_refl _), fun h0 => by omega⟩
  · exact h.tell z h0 (by omega)
theorem ArcsOk.new {l : List Ds} {cl : Int → Int} {O : List Int} {a : Int} {R : List Ar} {m : Int} (h : ArcsOk l cl O a R m) (m0 : 0 ≤ m) (m1 : m ≤ 255) {j : Nat} {b : Int} (hj : O[j]? = some b) (hb : cl b = cl (ledD l a m)) (h0 : 0 ≤ cl (ledD l a m))
    (hr : ∀ x, R.getLast? = some x → x.hi + 1 = m → x.tg ≠ j) : ArcsOk l cl O a (R ++ [⟨m, m, j⟩]) (m + 1) := by
  have hno := arcOf_high h.lt (Int.le_refl m)
  refine ⟨upA_snoc _ h.up h.lt m0 (Int.le_refl _) m1, fun x hx => ?_, runsA_snoc _ h.runs hr, fun z hz0 hz1 => ?_⟩
  · rcases List.mem_append.1 hx with hx | hx
    · have := h.lt x hx; omega
    · simp at hx; subst hx; simp only; omega
  · unfold TelA
    rw [arcOf_app]
    by_cases e : z = m
    · subst e
      rw [hno]
      exact ⟨fun hn => by omega, fun _ => ⟨⟨z, z, j⟩, j, b, by simp [arcOf], rfl, hj, hb⟩⟩
    · have hz : arcOf [(⟨m, m, j⟩ : Ar)] z = none := by
        simp only [arcOf]
        rw [if_neg (by omega)]
      rw [hz, Option.or_none]
      exact h.tell z hz0 (by omega)
theorem ArcsOk.ext {l : List Ds} {cl : Int → Int} {O : List Int} {a : Int} {R : List Ar} {x : Ar} {m : Int} (h : ArcsOk l cl O a (R ++ [x]) m) (m1 : m ≤ 255) {j : Nat} {b : Int} (hxh : x.hi + 1 = m) (hxt : x.tg = j) (hj : O[j]? = some b) (hb : cl b = cl (ledD l a m)) (h0 : 0 ≤ cl (ledD l a m)) :
    ArcsOk l cl O a (R ++ [⟨x.lo, m, x.tg⟩]) (m + 1) := by
  have hlx := upA_low h.up x (by simp)
  refine ⟨upA_ext (by omega) m1 h.up, fun y hy => ?_, runsA_ext h.runs, fun z hz0 hz1 => ?_⟩
  · rcases List.mem_append.1 hy with hy | hy
    · have := h.lt y (by simp [hy]); omega
    · simp at hy; subst hy; simp only; omega
  · unfold TelA
    rw [arcOf_app]
    by_cases e : z = m
    · subst e
      have hno : arcOf R z = none := arcOf_high (fun y hy => h.lt y (by simp [hy])) (Int.le_refl _)
      rw [hno]
      refine ⟨fun hn => by omega, fun _ => ⟨⟨x.lo, z, x.tg⟩, j, b, ?_, hxt, hj, hb⟩⟩
      simp only [arcOf, Option.none_or]
      rw [if_pos ⟨by omega, Int.le_refl _⟩]
    · obtain ⟨t1, t2⟩ := h.tell z hz0 (by omega)
      rw [arcOf_app] at t1 t2
      cases hR : arcOf R z with
      | some y => rw [hR] at t1 t2; exact ⟨t1, t2⟩
      | none =>
        rw [hR] at t1 t2
        simp only [Option.none_or] at t1 t2 ⊢
        simp only [arcOf] at t1 t2 ⊢
        by_cases hc : x.lo ≤ z ∧ z ≤ x.hi
        · rw [if_pos hc] at t1 t2
          rw [if_pos ⟨hc.1, by omega⟩]
          refine ⟨fun hn => (by have := t1 hn; cases this), fun hp => ?_⟩
          obtain ⟨y, i, c, e1, e2, e3, e4⟩ := t2 hp
          cases e1
          exact ⟨_, i, c, rfl, e2, e3, e4⟩
        · rw [if_neg hc] at t1 t2
          rw [if_neg (by omega)]
          exact ⟨t1, t2⟩
/-- What is made so far: the states that are met, the machine. -/
structure DI (l : List Ds) (cl : Int → Int) (p : Nat) (O : List Int) (d : List Ds) : Prop where
  oi : OI l.length cl O
  len : d.length = p
  le : p ≤ O.length
  met : metB d p = O.length
  grow : ∀ i : Nat, i < p → growB (metB d i) ((arcsD d i).map Ar.tg) ∧ (i : Int) < metB d i
  st : ∀ (i : Nat) a, i < p → O[i]? = some a → accD d i = accD l a ∧ ArcsOk l cl O a (arcsD d i) 256
theorem DI.start {l : List Ds} (hl : 0 < l.length) (cl : Int → Int) : DI l cl 0 [0] [] := ⟨OI.start hl cl, rfl, by simp, rfl, fun i hi => by omega, fun i a hi => by omega⟩
/-- A state more. -/
theorem DI.step {l : List Ds} {cl : Int → Int} {p : Nat} {O : List Int} {d : List Ds} (h : DI l cl p O d) {a : Int} (ha : O[p]? = some a) {S : List Int} {R : List Ar} (ho : OI l.length cl (O ++ S)) (hR : ArcsOk l cl (O ++ S) a R 256) (hg : growB O.length (R.map Ar.tg)) (hb : behB O.length (R.map Ar.tg) = ((O ++ S).length : Int)) :
    DI l cl (p + 1) (O ++ S) (d ++ [⟨R, accD l a⟩]) := by
  have hpl : p < O.length := (List.getElem?_eq_some_iff.1 ha).1
  have hlast := arcsD_last (d := d) (s := ⟨R, accD l a⟩)
  rw [h.len] at hlast
  refine ⟨ho, by simp [h.len], by simp; omega, ?_, fun i hi => ?_, fun i b hi hb' => ?_⟩
  · unfold metB
    rw [metB_app p (by rw [h.len]; exact Nat.le_refl _), h.met, hlast.1]
    exact hb
  · by_cases hip : i = p
    · subst hip
      rw [metB_app i (by rw [h.len]; exact Nat.le_refl _), h.met, hlast.1]
      exact ⟨hg, by omega⟩
    · rw [metB_app i (by rw [h.len]; omega), (arcsD_app (by rw [h.len]; omega)).1]
      exact h.grow i (by omega)
  · by_cases hip : i = p
    · subst hip
      rw [List.getElem?_append_left hpl, ha] at hb'
      cases hb'
      rw [hlast.1, hlast.2]
      exact ⟨rfl, hR⟩
    · have hi2 : i < p := by omega
      rw [List.getElem?_append_left (by omega)] at hb'
      rw [(arcsD_app (by rw [h.len]; exact hi2)).1, (arcsD_app (by rw [h.len]; exact hi2)).2]
      have := h.st i b hi2 hb'
      exact ⟨this.1, this.2.mono S⟩
structure ClOk (l : List Ds) (cl : Int → Int) : Prop where
  tell : ∀ a b, okS l.length a → okS l.length b → (cl a = cl b ↔ resD l a = resD l b)
  neg : ∀ a, okS l.length a → (cl a < 0 ↔ ¬ liveD l a)
theorem DI.res {l : List Ds} (hf : fitD l) {cl : Int → Int} (hc : ClOk l cl) {O : List Int} {d : List Ds} (h : DI l cl O.length O d) : ∀ (w : List Int) (i : Nat) (a : Int), O[i]? = some a → resD d i w = resD l a w
  | [], i, a, hi => (h.st i a (List.getElem?_eq_some_iff.1 hi).1 hi).1
  | z :: w, i, a, hi => by
    have hil := (List.getElem?_eq_some_iff.1 hi).1
    obtain ⟨_, hA⟩ := h.st i a hil hi
    have hoa := h.oi.ok a (List.mem_of_getElem? hi)
    have hok : okS l.length a := ⟨by omega, hoa.2⟩
    have hlk := led_ok hf hok z
    rw [resD_cons, resD_cons]
    have hnone : arcOf (arcsD d i) z = none → ledD d i z = -1 := fun e => by unfold ledD nextA; rw [e]
    by_cases hz : 0 ≤ z ∧ z < 256
    · obtain ⟨t1, t2⟩ := hA.tell z hz.1 hz.2
      by_cases hd : cl (ledD l a z) < 0
      · rw [hnone (t1 hd), res_dead d w (-1) (by omega), dead_res ((hc.neg _ hlk).1 hd)]
      · obtain ⟨x, j, b, e1, e2, e3, e4⟩ := t2 (by omega)
        have e5 : ledD d i z = (j : Int) := by unfold ledD nextA; rw [e1]; exact e2
        have hob := h.oi.ok b (List.mem_of_getElem? e3)
        rw [e5, DI.res hf hc h w j b e3, (hc.tell b _ ⟨by omega, hob.2⟩ hlk).1 e4]
    · have e1 : arcOf (arcsD d i) z = none := by
        rcases Int.lt_or_le z 0 with h0 | h0
        · exact arcOf_low hA.up h0
        · exact arcOf_high hA.lt (by omega)
      rw [hnone e1, led_out hf hok (by omega), res_dead d w (-1) (by omega), res_dead l w (-1) (by omega)]
/-- It is in the least form, and does the same. -/
theorem DI.nf {l : List Ds} (hf : fitD l) {cl : Int → Int} (hc : ClOk l cl) {O : List Int} {d : List Ds} (h : DI l cl O.length O d) : NF d ∧ resD d 0 = resD l 0 := by
  have hres := h.res hf hc
  have hp := h.oi.pos
  have hget : ∀ i : Nat, i < d.length → ∃ a, O[i]? = some a := fun i hi => ⟨_, List.getElem?_eq_getElem (by rw [h.len] at hi; exact hi)⟩
  have hfun : ∀ (i : Nat) a, O[i]? = some a → resD d i = resD l a := fun i a hi => funext fun w => hres w i a hi
  have hfit : fitD d := by
    refine ⟨fun e => by have := h.len; rw [e] at this; simp at this; omega, fun s hs => ?_, fun s hs => ?_⟩
    · obtain ⟨i, hi⟩ := List.getElem?_of_mem hs
      have hil := (List.getElem?_eq_some_iff.1 hi).1
      obtain ⟨a, ha⟩ := hget i hil
      obtain ⟨_, hA⟩ := h.st i a (by rw [h.len] at hil; exact hil) ha
      have e := (arcsD_mem hil).1
      rw [List.getElem?_eq_getElem hil] at hi
      cases hi
      rw [e] at hA
      refine ⟨hA.up, fun x hx => ?_⟩
      obtain ⟨j, b, e1, e2, _⟩ := hA.tgs hx
      have := (List.getElem?_eq_some_iff.1 e2).1
      rw [h.len]
      omega
    · obtain ⟨i, hi⟩ := List.getElem?_of_mem hs
      have hil := (List.getElem?_eq_some_iff.1 hi).1
      obtain ⟨a, ha⟩ := hget i hil
      obtain ⟨e1, _⟩ := h.st i a (by rw [h.len] at hil; exact hil) ha
      rw [(arcsD_mem hil).2] at e1
      rw [List.getElem?_eq_getElem hil] at hi
      cases hi
      rw [e1]
      have hoa := h.oi.ok a (List.mem_of_getElem? ha)
      obtain ⟨n, rfl⟩ : ∃ n : Nat, a = n := ⟨a.toNat, by omega⟩
      have hn : n < l.length := by omega
      rw [(arcsD_mem hn).2]
      exact hf.acc _ (List.getElem_mem hn)
  refine ⟨⟨hfit, fun i j hi hj e => ?_, fun p hpl x hx => ?_, fun p hpl => ?_, fun p hpl => ?_, fun p hpl => ?_, ?_⟩, hfun 0 0 h.oi.head⟩
  · obtain ⟨a, ha⟩ := hget i hi
    obtain ⟨b, hb⟩ := hget j hj
    have oa := h.oi.ok a (List.mem_of_getElem? ha)
    have ob := h.oi.ok b (List.mem_of_getElem? hb)
    rw [hfun i a ha, hfun j b hb] at e
    exact h.oi.nd i j a b ha hb ((hc.tell a b ⟨by omega, oa.2⟩ ⟨by omega, ob.2⟩).2 e)
  · obtain ⟨a, ha⟩ := hget p hpl
    obtain ⟨_, hA⟩ := h.st p a (by rw [h.len] at hpl; exact hpl) ha
    obtain ⟨j, b, e1, e2, e3⟩ := hA.tgs hx
    have ob := h.oi.ok b (List.mem_of_getElem? e2)
    have hlb : liveD l b := Classical.byContradiction fun hn => by
      have := (hc.neg b ⟨by omega, ob.2⟩).2 hn
      omega
    obtain ⟨w, hw⟩ := hlb
    exact ⟨w, by rw [e1, hfun j b e2]; exact hw⟩
  · obtain ⟨a, ha⟩ := hget p hpl
    exact (h.st p a (by rw [h.len] at hpl; exact hpl) ha).2.runs
  · exact (h.grow p (by rw [h.len] at hpl; exact hpl)).1
  · exact (h.grow p (by rw [h.len] at hpl; exact hpl)).2
  · rw [h.len]; exact h.met.symm
end Go.Proofs.Ytdalomibilicfaa
