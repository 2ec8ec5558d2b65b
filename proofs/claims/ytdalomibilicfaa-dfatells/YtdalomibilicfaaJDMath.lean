/- Texts joined: DMath, DBase. -/
import Derived.Test.YtdalomibilicfaaMine
/- Machines in one state: what they accept; a machine in its least form is one alone. -/
namespace Go.Proofs.Ytdalomibilicfaa
open Go.RowKit

structure Ar where
  lo : Int
  hi : Int
  tg : Int
deriving DecidableEq
structure Ds where
  arcs : List Ar
  acc : Int
deriving DecidableEq
/-- The arc of a byte. -/
def arcOf : List Ar → Int → Option Ar
  | [], _ => none
  | x :: l, c => if x.lo ≤ c ∧ c ≤ x.hi then some x else arcOf l c
def nextA (l : List Ar) (c : Int) : Int := match arcOf l c with
  | some x => x.tg
  | none => -1
def arcsD (d : List Ds) (n : Int) : List Ar := if 0 ≤ n then ((d[n.toNat]?).map Ds.arcs).getD [] else []
def accD (d : List Ds) (n : Int) : Int := if 0 ≤ n then ((d[n.toNat]?).map Ds.acc).getD (-1) else -1
def ledD (d : List Ds) (n c : Int) : Int := nextA (arcsD d n) c
def goD (d : List Ds) : Int → List Int → Int
  | n, [] => n
  | n, c :: w => goD d (ledD d n c) w
/-- What is accepted behind a text, from a state on; -1: nothing. -/
def resD (d : List Ds) (n : Int) (w : List Int) : Int := accD d (goD d n w)
def liveD (d : List Ds) (n : Int) : Prop := ∃ w, resD d n w ≠ -1
theorem resD_cons (d : List Ds) (n c : Int) (w : List Int) : resD d n (c :: w) = resD d (ledD d n c) w := rfl
theorem led_dead {d : List Ds} {n : Int} (h : n < 0) (c : Int) : ledD d n c = -1 := by
  unfold ledD arcsD nextA
  rw [if_neg (by omega)]; rfl
theorem res_dead (d : List Ds) : ∀ (w : List Int) (n : Int), n < 0 → resD d n w = -1
  | [], n, h => by unfold resD goD accD; rw [if_neg (by omega)]
  | c :: w, n, h => by rw [resD_cons, led_dead h]; exact res_dead d w (-1) (by omega)

/-- Arcs rise, apart from one another, over bytes, to states. -/
def upA : List Ar → Int → Prop
  | [], _ => True
  | x :: l, a => a ≤ x.lo ∧ x.lo ≤ x.hi ∧ x.hi ≤ 255 ∧ upA l (x.hi + 1)
structure fitD (d : List Ds) : Prop where
  some : d ≠ []
  arcs : ∀ s ∈ d, upA s.arcs 0 ∧ ∀ x ∈ s.arcs, 0 ≤ x.tg ∧ x.tg < d.length
  acc : ∀ s ∈ d, -1 ≤ s.acc
/-- Arcs side by side lead to two states. -/
def runsA : List Ar → Prop
  | [] => True
  | [_] => True
  | x :: y :: l => (x.hi + 1 = y.lo → x.tg ≠ y.tg) ∧ runsA (y :: l)
/-- Each is one that was there, or the next one. -/
def growB (b : Int) : List Int → Prop
  | [] => True
  | x :: l => x ≤ b ∧ growB (if x = b then b + 1 else b) l
def behB (b : Int) : List Int → Int
  | [] => b
  | x :: l => behB (if x = b then b + 1 else b) l
/-- How many states are met ahead of the arcs of the p-th one. -/
def metB (d : List Ds) : Nat → Int
  | 0 => 1
  | p + 1 => behB (metB d p) ((arcsD d p).map Ar.tg)
structure NF (d : List Ds) : Prop where
  fit : fitD d
  apart : ∀ i j : Nat, i < d.length → j < d.length → resD d i = resD d j → i = j
  live : ∀ (p : Nat), p < d.length → ∀ x ∈ arcsD d p, liveD d x.tg
  runs : ∀ (p : Nat), p < d.length → runsA (arcsD d p)
  grow : ∀ (p : Nat), p < d.length → growB (metB d p) ((arcsD d p).map Ar.tg)
  reach : ∀ (p : Nat), p < d.length → (p : Int) < metB d p
  all : (d.length : Int) = metB d d.length

theorem arcOf_mem : ∀ {l : List Ar} {c : Int} {x : Ar}, arcOf l c = some x → x ∈ l ∧ x.lo ≤ c ∧ c ≤ x.hi
  | y :: l, c, x, h => by
    unfold arcOf at h
    split at h
    · cases h; exact ⟨by simp, by assumption⟩
    · obtain ⟨h1, h2⟩ := arcOf_mem h; exact ⟨by simp [h1], h2⟩
theorem arcOf_low : ∀ {l : List Ar} {a c : Int}, upA l a → c < a → arcOf l c = none
  | [], _, _, _, _ => rfl
  | x :: l, a, c, h, hc => by
    unfold upA at h
    unfold arcOf
    rw [if_neg (by omega)]
    exact arcOf_low h.2.2.2 (by omega)
theorem arcOf_in : ∀ {l : List Ar} {a : Int}, upA l a → ∀ x ∈ l, ∀ c, x.lo ≤ c → c ≤ x.hi → arcOf l c = some x
  | y :: l, a, h, x, hx, c, h1, h2 => by
    unfold upA at h
    unfold arcOf
    rcases List.mem_cons.1 hx with rfl | hx
    · rw [if_pos ⟨h1, h2⟩]
    · have : ∀ {l : List Ar} {a : Int}, upA l a → ∀ x ∈ l, a ≤ x.lo := by
        intro l
        induction l with
        | nil => intro a _ x hx; cases hx
        | cons z l ih =>
          intro a h x hx
          unfold upA at h
          rcases List.mem_cons.1 hx with rfl | hx
          · exact h.1
          · have := ih h.2.2.2 x hx; omega
      have := this h.2.2.2 x hx
      rw [if_neg (by omega)]
      exact arcOf_in h.2.2.2 x hx c h1 h2
/-- Two rows of arcs with labels: the same byte by byte: the same. -/
theorem runs_one {α : Type} (f g : Int → α) : ∀ (l m : List Ar) (a : Int), upA l a → upA m a →
    (∀ i x y, l[i]? = some x → l[i + 1]? = some y → x.hi + 1 = y.lo → f x.tg ≠ f y.tg) → (∀ i x y, m[i]? = some x → m[i + 1]? = some y → x.hi + 1 = y.lo → g x.tg ≠ g y.tg) →
    (∀ c, (arcOf l c).map (fun x => f x.tg) = (arcOf m c).map (fun x => g x.tg)) →
    l.map (fun x => (x.lo, x.hi, f x.tg)) = m.map (fun x => (x.lo, x.hi, g x.tg))
  | [], [], _, _, _, _, _, _ => rfl
  | [], y :: m, a, _, hm, _, _, h => by
    have := h y.lo
    unfold upA at hm
    simp [arcOf, hm.2.1] at this
  | x :: l, [], a, hl, _, _, _, h => by
    have := h x.lo
    unfold upA at hl
    simp [arcOf, hl.2.1] at this
  | x :: l, y :: m, a, hl, hm, rl, rm, h => by
    have hl0 := hl
    have hm0 := hm
    unfold upA at hl hm
    have e1 : x.lo = y.lo := by
      rcases Int.lt_trichotomy x.lo y.lo with hlt | he | hlt
      · have := h x.lo
        rw [arcOf_low (l := y :: m) (a := y.lo) (by unfold upA; exact ⟨Int.le_refl _, hm.2⟩) hlt] at this
        simp [arcOf, hl.2.1] at this
      · exact he
      · have := h y.lo
        rw [arcOf_low (l := x :: l) (a := x.lo) (by unfold upA; exact ⟨Int.le_refl _, hl.2⟩) hlt] at this
        simp [arcOf, hm.2.1] at this
    have e2 : f x.tg = g y.tg := by
      have := h x.lo
      simp only [arcOf] at this
      rw [if_pos ⟨Int.le_refl _, hl.2.1⟩, if_pos ⟨by omega, by omega⟩] at this
      simpa using this
    have key : ∀ {α : Type} (f g : Int → α) (x y : Ar) (l m : List Ar), upA l (x.hi + 1) → upA m (y.hi + 1) → x.lo = y.lo → x.lo ≤ x.hi → f x.tg = g y.tg → (∀ z, m[0]? = some z → y.hi + 1 = z.lo → g y.tg ≠ g z.tg) → (∀ c, (arcOf (x :: l) c).map (fun x => f x.tg) = (arcOf (y :: m) c).map (fun x => g x.tg)) → y.lo ≤ y.hi → ¬ y.hi < x.hi := by
      intro α f g x y l m hl hm e1 hxx e2 hr h hyy hlt
      have h1 := h (y.hi + 1)
      simp only [arcOf] at h1
      rw [if_pos ⟨by omega, by omega⟩, if_neg (by omega)] at h1
      cases m with
      | nil => simp [arcOf] at h1
      | cons z m =>
        unfold upA at hm
        by_cases hz : z.lo = y.hi + 1
        · simp only [arcOf] at h1
          rw [if_pos ⟨by omega, by omega⟩] at h1
          have : f x.tg = g z.tg := by simpa using h1
          exact hr z rfl hz.symm (by rw [← e2, this])
        · rw [arcOf_low (l := z :: m) (a := z.lo) (by unfold upA; exact ⟨Int.le_refl _, hm.2⟩) (by omega)] at h1
          simp at h1
    have e3 : x.hi = y.hi := by
      have k1 := key f g x y l m hl.2.2.2 hm.2.2.2 e1 hl.2.1 e2 (fun z hz he => rm 0 y z rfl (by simpa using hz) he) h hm.2.1
      have k2 := key g f y x m l hm.2.2.2 hl.2.2.2 e1.symm hm.2.1 e2.symm (fun z hz he => rl 0 x z rfl (by simpa using hz) he) (fun c => (h c).symm) hl.2.1
      omega
    have hrec := runs_one f g l m (x.hi + 1) hl.2.2.2 (by rw [e3]; exact hm.2.2.2) (fun i u v hu hv => rl (i + 1) u v (by simpa using hu) (by simpa using hv)) (fun i u v hu hv => rm (i + 1) u v (by simpa using hu) (by simpa using hv)) (fun c => by
      by_cases hc : c < x.hi + 1
      · rw [arcOf_low hl.2.2.2 hc, arcOf_low hm.2.2.2 (by omega)]; rfl
      · have := h c
        simp only [arcOf] at this
        rw [if_neg (by omega), if_neg (by omega)] at this
        exact this)
    simp only [List.map_cons, hrec, e1, e2, e3]
/-- Numbers that grow in order: what they stand for tells them. -/
theorem grow_one {α : Type} (f g : Int → α) (n m : Int) (hf : ∀ i j, 0 ≤ i → i < n → 0 ≤ j → j < n → f i = f j → i = j) (hg : ∀ i j, 0 ≤ i → i < m → 0 ≤ j → j < m → g i = g j → i = j) :
    ∀ (u v : List Int) (b : Int), growB b u → growB b v → (∀ x ∈ u, 0 ≤ x ∧ x < n) → (∀ x ∈ v, 0 ≤ x ∧ x < m) → u.map f = v.map g → 0 ≤ b → (∀ i, 0 ≤ i → i < b → f i = g i) → b ≤ n → b ≤ m →
    u = v ∧ ∀ i, 0 ≤ i → i < behB b u → f i = g i
  | [], [], b, _, _, _, _, _, _, h, _, _ => ⟨rfl, h⟩
  | [], y :: v, b, _, _, _, _, h, _, _, _, _ => by simp at h
  | x :: u, [], b, _, _, _, _, h, _, _, _, _ => by simp at h
  | x :: u, y :: v, b, gu, gv, hu, hv, h, hb, hs, hn, hm => by
    unfold growB at gu gv
    have hx := hu x (by simp)
    have hy := hv y (by simp)
    simp only [List.map_cons, List.cons.injEq] at h
    have e : x = y := by
      by_cases h1 : x = b
      · by_cases h2 : y = b
        · omega
        · have := hs y hy.1 (by omega)
          rw [← h.1] at this
          exact (hf y x hy.1 (by omega) hx.1 hx.2 this).symm
      · have := hs x hx.1 (by omega)
        rw [h.1] at this
        exact (hg y x hy.1 hy.2 hx.1 (by omega) this).symm
    subst e
    by_cases h1 : x = b
    · rw [if_pos h1] at gu gv
      have r := grow_one f g n m hf hg u v (b + 1) gu.2 gv.2 (fun z hz => hu z (by simp [hz])) (fun z hz => hv z (by simp [hz])) h.2 (by omega) (fun i h0 hi => by
        by_cases hib : i = b
        · rw [hib, ← h1]; exact h.1
        · exact hs i h0 (by omega)) (by omega) (by omega)
      refine ⟨by rw [r.1], ?_⟩
      unfold behB
      rw [if_pos h1]
      exact r.2
    · rw [if_neg h1] at gu gv
      have r := grow_one f g n m hf hg u v b gu.2 gv.2 (fun z hz => hu z (by simp [hz])) (fun z hz => hv z (by simp [hz])) h.2 hb hs hn hm
      refine ⟨by rw [r.1], ?_⟩
      unfold behB
      rw [if_neg h1]
      exact r.2
theorem arcsD_mem {d : List Ds} {p : Nat} (h : p < d.length) : arcsD d p = d[p].arcs ∧ accD d p = d[p].acc := by
  unfold arcsD accD
  rw [if_pos (by omega), if_pos (by omega)]
  simp [List.getElem?_eq_getElem h]
theorem fitD.at {d : List Ds} (f : fitD d) {p : Nat} (h : p < d.length) : upA (arcsD d p) 0 ∧ ∀ x ∈ arcsD d p, 0 ≤ x.tg ∧ x.tg < d.length := by
  rw [(arcsD_mem h).1]; exact f.arcs _ (List.getElem_mem h)
theorem NF.inj {d : List Ds} (h : NF d) : ∀ i j : Int, 0 ≤ i → i < d.length → 0 ≤ j → j < d.length → resD d i = resD d j → i = j := by
  intro i j h1 h2 h3 h4 he
  have := h.apart i.toNat j.toNat (by omega) (by omega) (by rw [Int.toNat_of_nonneg h1, Int.toNat_of_nonneg h3]; exact he)
  omega
theorem led_live {d e : List Ds} (hd : NF d) {p : Nat} (hp : p < d.length) (hr : resD d p = resD e p) {c : Int} {x : Ar} (hx : arcOf (arcsD d p) c = some x) : ∃ y, arcOf (arcsD e p) c = some y ∧ resD d x.tg = resD e y.tg := by
  have l1 : ledD d p c = x.tg := by unfold ledD nextA; rw [hx]
  have key : ∀ w, resD d x.tg w = resD e (ledD e p c) w := by
    intro w
    have := congrFun hr (c :: w)
    rw [resD_cons, resD_cons, l1] at this
    exact this
  obtain ⟨w, hw⟩ := hd.live p hp x (arcOf_mem hx).1
  cases hy : arcOf (arcsD e p) c with
  | none =>
    exfalso
    have : ledD e p c = -1 := by unfold ledD nextA; rw [hy]
    rw [key w, this] at hw
    exact hw (res_dead e w (-1) (by omega))
  | some y =>
    refine ⟨y, rfl, ?_⟩
    have : ledD e p c = y.tg := by unfold ledD nextA; rw [hy]
    rw [this] at key
    exact funext key
theorem runs_get : ∀ {l : List Ar}, runsA l → ∀ i x y, l[i]? = some x → l[i + 1]? = some y → x.hi + 1 = y.lo → x.tg ≠ y.tg
  | [], _, i, x, y, h, _ => by simp at h
  | [_], _, i, x, y, _, h => by simp at h
  | a :: b :: l, hr, 0, x, y, h, h2 => by
    unfold runsA at hr
    simp at h h2
    subst h; subst h2; exact hr.1
  | a :: b :: l, hr, i + 1, x, y, h, h2 => by
    unfold runsA at hr
    exact runs_get hr.2 i x y (by simpa using h) (by simpa using h2)
theorem NF.step {d e : List Ds} (hd : NF d) (he : NF e) {p : Nat} (hp : p < d.length) (hq : p < e.length) (hm : metB d p = metB e p) (hs : ∀ i : Int, 0 ≤ i → i < metB d p → resD d i = resD e i) (b1 : 0 ≤ metB d p) (b2 : metB d p ≤ d.length) (b3 : metB d p ≤ e.length) :
    arcsD d p = arcsD e p ∧ ∀ i : Int, 0 ≤ i → i < metB d (p + 1) → resD d i = resD e i := by
  have hr := hs p (by omega) (hd.reach p hp)
  have fd := hd.fit.at hp
  have fe := he.fit.at hq
  have hone := runs_one (resD d) (resD e) (arcsD d p) (arcsD e p) 0 fd.1 fe.1 (fun i x y hx hy h1 h2 =>
      runs_get (hd.runs p hp) i x y hx hy h1 (hd.inj _ _ (fd.2 x (List.mem_of_getElem? hx)).1 (fd.2 x (List.mem_of_getElem? hx)).2 (fd.2 y (List.mem_of_getElem? hy)).1 (fd.2 y (List.mem_of_getElem? hy)).2 h2))
    (fun i x y hx hy h1 h2 =>
      runs_get (he.runs p hq) i x y hx hy h1 (he.inj _ _ (fe.2 x (List.mem_of_getElem? hx)).1 (fe.2 x (List.mem_of_getElem? hx)).2 (fe.2 y (List.mem_of_getElem? hy)).1 (fe.2 y (List.mem_of_getElem? hy)).2 h2))
    (fun c => by
      cases hx : arcOf (arcsD d p) c with
      | some x =>
        obtain ⟨y, hy, h2⟩ := led_live hd hp hr hx
        rw [hy]; simp [h2]
      | none =>
        cases hy : arcOf (arcsD e p) c with
        | none => rfl
        | some y =>
          obtain ⟨x, hx2, _⟩ := led_live he hq hr.symm hy
          rw [hx] at hx2; cases hx2)
  have ht : ((arcsD d p).map Ar.tg).map (resD d) = ((arcsD e p).map Ar.tg).map (resD e) := by
    have := congrArg (List.map (fun t : Int × Int × (List Int → Int) => t.2.2)) hone
    simpa [List.map_map, Function.comp_def] using this
  have hg := grow_one (resD d) (resD e) d.length e.length hd.inj he.inj _ _ (metB d p) (hd.grow p hp) (by rw [hm]; exact he.grow p hq)
    (fun x hx => by obtain ⟨a, ha, rfl⟩ := List.mem_map.1 hx; exact fd.2 a ha) (fun x hx => by obtain ⟨a, ha, rfl⟩ := List.mem_map.1 hx; exact fe.2 a ha) ht b1 hs b2 b3
  refine ⟨?_, fun i h0 hi => hg.2 i h0 hi⟩
  have hl : (arcsD d p).map (fun x => (x.lo, x.hi)) = (arcsD e p).map (fun x => (x.lo, x.hi)) := by
    have := congrArg (List.map (fun t : Int × Int × (List Int → Int) => (t.1, t.2.1))) hone
    simpa [List.map_map, Function.comp_def] using this
  have : ∀ (l m : List Ar), l.map (fun x => (x.lo, x.hi)) = m.map (fun x => (x.lo, x.hi)) → l.map Ar.tg = m.map Ar.tg → l = m := by
    intro l
    induction l with
    | nil => intro m h _; cases m with
      | nil => rfl
      | cons => simp at h
    | cons a l ih => intro m h h2; cases m with
      | nil => simp at h
      | cons b m =>
        simp only [List.map_cons, List.cons.injEq, Prod.mk.injEq] at h h2
        obtain ⟨a1, a2, a3⟩ := a
        obtain ⟨b1, b2, b3⟩ := b
        simp only at h h2
        rw [ih m h.2 h2.2, h.1.1, h.1.2, h2.1]
  exact this _ _ hl hg.1
theorem behB_ge : ∀ (l : List Int) (b : Int), b ≤ behB b l
  | [], b => by unfold behB; omega
  | x :: l, b => by
    unfold behB
    split
    · have := behB_ge l (b + 1); omega
    · exact behB_ge l b
theorem behB_le (n : Int) : ∀ (l : List Int) (b : Int), b ≤ n → (∀ x ∈ l, x < n) → behB b l ≤ n
  | [], b, h, _ => by unfold behB; exact h
  | x :: l, b, h, hx => by
    unfold behB
    have := hx x (by simp)
    split
    · exact behB_le n l (b + 1) (by omega) (fun z hz => hx z (by simp [hz]))
    · exact behB_le n l b h (fun z hz => hx z (by simp [hz]))
theorem metB_le {d : List Ds} (f : fitD d) : ∀ p : Nat, p ≤ d.length → 1 ≤ metB d p ∧ metB d p ≤ d.length
  | 0, _ => by
    have := List.length_pos_iff.2 f.some
    unfold metB; omega
  | p + 1, h => by
    have ih := metB_le f p (by omega)
    unfold metB
    refine ⟨Int.le_trans ih.1 (behB_ge _ _), behB_le _ _ _ ih.2 (fun x hx => ?_)⟩
    obtain ⟨a, ha, rfl⟩ := List.mem_map.1 hx
    exact ((f.at (by omega)).2 a ha).2
theorem NF.walk {d e : List Ds} (hd : NF d) (he : NF e) (h0 : resD d 0 = resD e 0) : ∀ p : Nat, p ≤ d.length → p ≤ e.length →
    metB d p = metB e p ∧ (∀ i : Nat, i < p → arcsD d i = arcsD e i) ∧ ∀ i : Int, 0 ≤ i → i < metB d p → resD d i = resD e i
  | 0, _, _ => ⟨rfl, fun i h => by omega, fun i h1 h2 => by unfold metB at h2; have : i = 0 := by omega
                                                            rw [this]; exact h0⟩
  | p + 1, h1, h2 => by
    obtain ⟨e1, e2, e3⟩ := NF.walk hd he h0 p (by omega) (by omega)
    have b1 := metB_le hd.fit p (by omega)
    have b2 := metB_le he.fit p (by omega)
    obtain ⟨s1, s2⟩ := hd.step he (p := p) (by omega) (by omega) e1 e3 (by omega) b1.2 (by omega)
    refine ⟨by unfold metB; rw [e1, s1], fun i hi => ?_, s2⟩
    by_cases hip : i = p
    · rw [hip]; exact s1
    · exact e2 i (by omega)
/-- The least form is one alone. -/
theorem NF.one {d e : List Ds} (hd : NF d) (he : NF e) (h0 : resD d 0 = resD e 0) : d = e := by
  have hlen : d.length = e.length := by
    have key : ∀ {d e : List Ds}, NF d → NF e → resD d 0 = resD e 0 → ¬ d.length < e.length := by
      intro d e hd he h0 hlt
      have := (hd.walk he h0 d.length (by omega) (by omega)).1
      have h1 := hd.all
      have h2 := he.reach d.length hlt
      omega
    have := key hd he h0
    have := key he hd h0.symm
    omega
  obtain ⟨_, e2, e3⟩ := hd.walk he h0 d.length (by omega) (by omega)
  apply List.ext_getElem hlen
  intro i h1 h2
  have ha := e2 i h1
  have hr := congrFun (e3 i (by omega) (by have := hd.all; omega)) []
  unfold resD goD at hr
  rw [(arcsD_mem h1).1, (arcsD_mem h2).1] at ha
  rw [(arcsD_mem h1).2, (arcsD_mem h2).2] at hr
  generalize d[i] = x at ha hr
  generalize e[i] = y at ha hr
  cases x; cases y
  simp only at ha hr
  rw [ha, hr]
end Go.Proofs.Ytdalomibilicfaa
/- Machines in one state: what lies where. -/
namespace Go.Proofs.Ytdalomibilicfaa
open Go.RowKit

def ArsAt (l : List Ar) (ao : Option Addr) (W : World) : Prop :=
  ∀ (i : Nat) (x : Ar), l[i]? = some x → ∃ b off, ao = some ⟨b, off, none⟩ ∧ b < W.heap.size ∧ W.cell? ⟨b, off + i * 3, none⟩ = some (.int .i64 x.lo) ∧ W.cell? ⟨b, off + i * 3 + 1, none⟩ = some (.int .i64 x.hi) ∧ W.cell? ⟨b, off + i * 3 + 2, none⟩ = some (.int .i64 x.tg) ∧ i64B x.lo ∧ i64B x.hi ∧ i64B x.tg
theorem ArsAt.next {l : List Ar} {ao : Option Addr} {W W' : World} (h : ArsAt l ao W) (hb : Below W.heap.size W W') : ArsAt l ao W' := fun i r hr => by
  obtain ⟨b, off, h0, h1, h2, h3, h4, h5⟩ := h i r hr
  exact ⟨b, off, h0, Nat.lt_of_lt_of_le h1 hb.size, (hb.cell (p := ⟨b, off + i * 3, none⟩) h1).trans h2, (hb.cell (p := ⟨b, off + i * 3 + 1, none⟩) h1).trans h3, (hb.cell (p := ⟨b, off + i * 3 + 2, none⟩) h1).trans h4, h5⟩
theorem ArsAt.at {l : List Ar} {ao : Option Addr} {w W : World} (h : ArsAt l ao w) (hb : Below w.heap.size w W) {j : Nat} (hj : j < l.length) :
    ∃ b off, ao = some ⟨b, off, none⟩ ∧ b < W.heap.size ∧ W.cell? ⟨b, off + j * 3, none⟩ = some (.int .i64 l[j].lo) ∧ W.cell? ⟨b, off + j * 3 + 1, none⟩ = some (.int .i64 l[j].hi) ∧ W.cell? ⟨b, off + j * 3 + 2, none⟩ = some (.int .i64 l[j].tg) ∧ i64B l[j].lo ∧ i64B l[j].hi ∧ i64B l[j].tg := h.next hb j l[j] (by simp [hj])
/-- A slice of arcs. -/
def SlA (l : List Ar) (v : Value) (W : World) : Prop :=
  ∃ ao cap, v = .slice ao l.length cap ∧ ArsAt l ao W ∧ (ao = none → cap = 0) ∧ l.length ≤ cap ∧ l.length ≤ 140737488351232
theorem SlA.next {l : List Ar} {v : Value} {W W' : World} (h : SlA l v W) (hb : Below W.heap.size W W') : SlA l v W' := by
  obtain ⟨ao, cap, h0, h1, h2⟩ := h
  exact ⟨ao, cap, h0, h1.next hb, h2⟩
theorem SlA.nil (W : World) : SlA [] (.slice none 0 0) W := ⟨none, 0, rfl, fun i r hr => by simp at hr, fun _ => rfl, Nat.le_refl _, Nat.zero_le _⟩
def DssAt (l : List Ds) (ao : Option Addr) (W : World) : Prop :=
  ∀ (i : Nat) (x : Ds), l[i]? = some x → ∃ b off v, ao = some ⟨b, off, none⟩ ∧ b < W.heap.size ∧ W.cell? ⟨b, off + i * 2, none⟩ = some v ∧ W.cell? ⟨b, off + i * 2 + 1, none⟩ = some (.int .i64 x.acc) ∧ SlA x.arcs v W ∧ i64B x.acc
theorem DssAt.next {l : List Ds} {ao : Option Addr} {W W' : World} (h : DssAt l ao W) (hb : Below W.heap.size W W') : DssAt l ao W' := fun i r hr => by
  obtain ⟨b, off, v, h0, h1, h2, h3, h4, h5⟩ := h i r hr
  exact ⟨b, off, v, h0, Nat.lt_of_lt_of_le h1 hb.size, (hb.cell (p := ⟨b, off + i * 2, none⟩) h1).trans h2, (hb.cell (p := ⟨b, off + i * 2 + 1, none⟩) h1).trans h3, h4.next hb, h5⟩
theorem DssAt.at {l : List Ds} {ao : Option Addr} {w W : World} (h : DssAt l ao w) (hb : Below w.heap.size w W) {j : Nat} (hj : j < l.length) :
    ∃ b off v, ao = some ⟨b, off, none⟩ ∧ b < W.heap.size ∧ W.cell? ⟨b, off + j * 2, none⟩ = some v ∧ W.cell? ⟨b, off + j * 2 + 1, none⟩ = some (.int .i64 l[j].acc) ∧ SlA l[j].arcs v W ∧ i64B l[j].acc := h.next hb j l[j] (by simp [hj])
/-- A slice of states. -/
def SlD (l : List Ds) (v : Value) (W : World) : Prop :=
  ∃ ao cap, v = .slice ao l.length cap ∧ DssAt l ao W ∧ (ao = none → cap = 0) ∧ l.length ≤ cap ∧ l.length ≤ 140737488351232
theorem SlD.next {l : List Ds} {v : Value} {W W' : World} (h : SlD l v W) (hb : Below W.heap.size W W') : SlD l v W' := by
  obtain ⟨ao, cap, h0, h1, h2⟩ := h
  exact ⟨ao, cap, h0, h1.next hb, h2⟩
theorem SlD.nil (W : World) : SlD [] (.slice none 0 0) W := ⟨none, 0, rfl, fun i r hr => by simp at hr, fun _ => rfl, Nat.le_refl _, Nat.zero_le _⟩
end Go.Proofs.Ytdalomibilicfaa
