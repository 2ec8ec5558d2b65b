/- Where two machines differ: the first text, by its length, then by its bytes. -/
import Derived.Test.YtdalomibilicfaaRoundMath
namespace Go.Proofs.Ytdalomibilicfaa
open Go.RowKit

/-- Byte by byte: not behind it. -/
def lexL : List Int → List Int → Prop
  | [], _ => True
  | _ :: _, [] => False
  | x :: a, y :: b => x < y ∨ (x = y ∧ lexL a b)
theorem lexL_anti : ∀ {a b : List Int}, lexL a b → lexL b a → a = b
  | [], [], _, _ => rfl
  | [], _ :: _, _, h => by simp [lexL] at h
  | _ :: _, [], h, _ => by simp [lexL] at h
  | x :: a, y :: b, h, h' => by
    unfold lexL at h h'
    rcases h with h | ⟨rfl, h⟩
    · rcases h' with h' | ⟨h', _⟩ <;> omega
    · rcases h' with h' | ⟨_, h'⟩
      · omega
      · rw [lexL_anti h h']
/-- The first text that is accepted unlike. -/
def FirstD (f g : List Int → Int) (w : List Int) : Prop := f w ≠ g w ∧ ∀ v, f v ≠ g v → w.length < v.length ∨ (w.length = v.length ∧ lexL w v)
theorem FirstD.one {f g : List Int → Int} {w v : List Int} (h : FirstD f g w) (h' : FirstD f g v) : w = v := by
  rcases h.2 v h'.1 with h1 | ⟨h1, h2⟩
  · rcases h'.2 w h.1 with h3 | ⟨h3, _⟩ <;> omega
  · rcases h'.2 w h.1 with h3 | ⟨_, h4⟩
    · omega
    · exact lexL_anti h2 h4
theorem FirstD.symm {f g : List Int → Int} {w : List Int} (h : FirstD f g w) : FirstD g f w := ⟨fun e => h.1 e.symm, fun v hv => h.2 v (fun e => hv e.symm)⟩
/-- The least byte by which two classes are come to. -/
def firstZ (l : List Ds) (c : List Int) (s t : Int) : Option Nat := (List.range 256).find? fun z => clsOf c (ledD l s z) != clsOf c (ledD l t z)
/-- The text, class by class, the last one first. -/
def apartL (l : List Ds) : List (List Int) → Int → Int → List Int
  | [], _, _ => []
  | c :: r, s, t => match firstZ l c s t with
    | some z => (z : Int) :: apartL l r (ledD l s z) (ledD l t z)
    | none => apartL l r s t
theorem led_out {l : List Ds} (hf : fitD l) {a : Int} (ha : okS l.length a) {z : Int} (hz : z < 0 ∨ 255 < z) : ledD l a z = -1 := by
  have hu := upA_all hf ha
  have hno : arcOf (arcsD l a) z = none := by
    cases hx : arcOf (arcsD l a) z with
    | none => rfl
    | some x =>
      obtain ⟨hm, h1, h2⟩ := arcOf_mem hx
      obtain ⟨z1, z2, z3⟩ := upA_at hu hm
      omega
  unfold ledD nextA
  rw [hno]
theorem find_first {p : Nat → Bool} : ∀ (n m : Nat), (∃ z, m ≤ z ∧ z < m + n ∧ p z = true) → ∃ z, (List.range' m n).find? p = some z ∧ p z = true ∧ m ≤ z ∧ z < m + n ∧ ∀ y, m ≤ y → y < z → p y = false
  | 0, m, ⟨z, h1, h2, _⟩ => by omega
  | n + 1, m, ⟨z, h1, h2, h3⟩ => by
    rw [List.range'_succ]
    by_cases hm : p m = true
    · exact ⟨m, by rw [List.find?_cons_of_pos hm], hm, Nat.le_refl _, by omega, fun y h4 h5 => by omega⟩
    · have hz : z ≠ m := fun e => hm (e ▸ h3)
      obtain ⟨y, q1, q2, q3, q4, q5⟩ := find_first (p := p) n (m + 1) ⟨z, by omega, by omega, h3⟩
      refine ⟨y, by rw [List.find?_cons_of_neg hm]; exact q1, q2, by omega, by omega, fun x h4 h5 => ?_⟩
      by_cases e : x = m
      · rw [e]; simpa using hm
      · exact q5 x (by omega) h5
/-- What is told tells the two apart, and is the first that does. -/
theorem apart_first {l : List Ds} (hf : fitD l) : ∀ (R : List (List Int)) (s t : Int), okS l.length s → okS l.length t → (∀ (i : Nat) c, R[i]? = some c → Cls l (R.length - 1 - i) c) → ¬ eqK l R.length s t → (∀ k, k < R.length → eqK l k s t) →
    (apartL l R s t).length = R.length ∧ (∀ z ∈ apartL l R s t, 0 ≤ z ∧ z ≤ 255) ∧ FirstD (resD l s) (resD l t) (apartL l R s t)
  | [], s, t, hs, ht, _, hne, _ => by
    refine ⟨rfl, fun z hz => (by simp [apartL] at hz), fun h => hne ((eqK_zero l s t).2 h), fun v hv => ?_⟩
    cases v with
    | nil => exact .inr ⟨rfl, trivial⟩
    | cons z v => exact .inl (by simp [apartL])
  | c :: r, s, t, hs, ht, hC, hne, heq => by
    have hc : Cls l r.length c := by simpa using hC 0 c rfl
    have hek := heq r.length (by simp)
    rw [List.length_cons, eqK_succ] at hne
    obtain ⟨z0, hz0⟩ : ∃ z, ¬ eqK l r.length (ledD l s z) (ledD l t z) := by
      apply Classical.byContradiction
      intro hno
      exact hne ⟨hek, fun z => Classical.byContradiction fun h => hno ⟨z, h⟩⟩
    have hbyte : ∀ z, ¬ eqK l r.length (ledD l s z) (ledD l t z) → 0 ≤ z ∧ z ≤ 255 := by
      intro z hz
      apply Classical.byContradiction
      intro hno
      apply hz
      rw [led_out hf hs (by omega), led_out hf ht (by omega)]
      intro w _; rfl
    have htell : ∀ z : Nat, (clsOf c (ledD l s z) != clsOf c (ledD l t z)) = true ↔ ¬ eqK l r.length (ledD l s z) (ledD l t z) := by
      intro z
      rw [← hc.tell _ _ (led_ok hf hs _) (led_ok hf ht _)]
      simp
    have hb0 := hbyte z0 hz0
    obtain ⟨y, q1, q2, q3, q4, q5⟩ := find_first (p := fun z : Nat => clsOf c (ledD l s z) != clsOf c (ledD l t z)) 256 0 ⟨z0.toNat, by omega, by omega, (htell _).2 (by rw [Int.toNat_of_nonneg hb0.1]; exact hz0)⟩
    have hfz : firstZ l c s t = some y := by unfold firstZ; rw [List.range_eq_range']; exact q1
    have hny := (htell y).1 q2
    have hIH := apart_first hf r (ledD l s y) (ledD l t y) (led_ok hf hs _) (led_ok hf ht _) (fun i d hd => by
      have := hC (i + 1) d (by simpa using hd)
      rw [List.length_cons] at this
      rw [show r.length - 1 - i = r.length + 1 - 1 - (i + 1) by omega]
      exact this) hny (fun k hk => ((eqK_succ l k s t).1 (heq (k + 1) (by simp; omega))).2 y)
    have hap : apartL l (c :: r) s t = (y : Int) :: apartL l r (ledD l s y) (ledD l t y) := by
      rw [apartL, hfz]
    rw [hap]
    obtain ⟨g1, g2, g3, g4⟩ := hIH
    refine ⟨by simp [g1], fun z hz => ?_, by rw [resD_cons, resD_cons]; exact g3, fun v hv => ?_⟩
    · rcases List.mem_cons.1 hz with rfl | hz
      · omega
      · exact g2 z hz
    · cases v with
      | nil => exact absurd (hek [] (by simp)) hv
      | cons z v =>
        rw [resD_cons, resD_cons] at hv
        by_cases hlen : r.length < v.length
        · exact .inl (by simp [g1]; omega)
        · have hle : v.length = r.length := by
            apply Classical.byContradiction
            intro hno
            exact hv (((eqK_succ l v.length s t).1 (heq (v.length + 1) (by simp; omega))).2 z v (by omega))
          have hnz : ¬ eqK l r.length (ledD l s z) (ledD l t z) := fun h => hv (h v (by omega))
          have hbz := hbyte z hnz
          refine .inr ⟨by simp [g1]; omega, ?_⟩
          unfold lexL
          by_cases hzy : z = y
          · subst hzy
            right
            refine ⟨rfl, ?_⟩
            rcases g4 v hv with h | ⟨_, h⟩
            · rw [g1] at h; omega
            · exact h
          · left
            apply Classical.byContradiction
            intro hno
            have := q5 z.toNat (by omega) (by omega)
            have h9 := (htell z.toNat).2 (by rw [Int.toNat_of_nonneg hbz.1]; exact hnz)
            rw [this] at h9
            cases h9
/-- Two machines in one list. -/
def shiftS (n : Int) (s : Ds) : Ds := ⟨s.arcs.map fun x => ⟨x.lo, x.hi, x.tg + n⟩, s.acc⟩
def besideL (a b : List Ds) : List Ds := a ++ b.map (shiftS a.length)
theorem arcOf_shift (n : Int) : ∀ (R : List Ar) (z : Int), arcOf (R.map fun x => ⟨x.lo, x.hi, x.tg + n⟩) z = (arcOf R z).map fun x => ⟨x.lo, x.hi, x.tg + n⟩
  | [], _ => rfl
  | x :: R, z => by
    rw [List.map_cons, arcOf, arcOf]
    simp only
    split
    · rfl
    · exact arcOf_shift n R z
theorem beside_fst {a b : List Ds} {i : Nat} (h : i < a.length) : arcsD (besideL a b) i = arcsD a i ∧ accD (besideL a b) i = accD a i := by
  have h1 := arcsD_mem h
  have h2 := arcsD_mem (d := besideL a b) (p := i) (by unfold besideL; simp; omega)
  rw [h1.1, h1.2, h2.1, h2.2]
  unfold besideL
  rw [List.getElem_append_left h]
  exact ⟨rfl, rfl⟩
theorem beside_snd {a b : List Ds} {j : Nat} (h : j < b.length) : arcsD (besideL a b) ((a.length + j : Nat) : Int) = (arcsD b j).map (fun x => ⟨x.lo, x.hi, x.tg + a.length⟩) ∧ accD (besideL a b) ((a.length + j : Nat) : Int) = accD b j := by
  have h1 := arcsD_mem h
  have h2 := arcsD_mem (d := besideL a b) (p := a.length + j) (by unfold besideL; simp; omega)
  rw [h1.1, h1.2, h2.1, h2.2]
  unfold besideL
  rw [List.getElem_append_right (by omega)]
  simp [shiftS]
theorem beside_res1 {a b : List Ds} (hf : fitD a) : ∀ (w : List Int) (i : Int), okS a.length i → resD (besideL a b) i w = resD a i w
  | [], i, hi => by
    unfold okS at hi
    by_cases h0 : 0 ≤ i
    · have := (beside_fst (b := b) (i := i.toNat) (a := a) (by omega)).2
      rw [Int.toNat_of_nonneg h0] at this
      exact this
    · rw [res_dead _ [] i (by omega), res_dead _ [] i (by omega)]
  | z :: w, i, hi => by
    rw [resD_cons, resD_cons]
    by_cases h0 : 0 ≤ i
    · have hil : i.toNat < a.length := by unfold okS at hi; omega
      have := (beside_fst (b := b) hil).1
      rw [Int.toNat_of_nonneg h0] at this
      have e : ledD (besideL a b) i z = ledD a i z := by unfold ledD; rw [this]
      rw [e]
      exact beside_res1 hf w _ (led_ok hf hi z)
    · rw [led_dead (by omega), led_dead (by omega)]
      exact beside_res1 hf w (-1) ⟨Int.le_refl _, by omega⟩
theorem beside_res2 {a b : List Ds} (hf : fitD b) : ∀ (w : List Int) (j : Nat), j < b.length → resD (besideL a b) ((a.length + j : Nat) : Int) w = resD b j w
  | [], j, hj => (beside_snd hj).2
  | z :: w, j, hj => by
    rw [resD_cons, resD_cons]
    have h1 := (beside_snd (a := a) hj).1
    have e1 : ledD (besideL a b) ((a.length + j : Nat) : Int) z = nextA ((arcsD b j).map fun x => ⟨x.lo, x.hi, x.tg + a.length⟩) z := by unfold ledD; rw [h1]
    rw [e1]
    unfold ledD nextA
    rw [arcOf_shift]
    cases hx : arcOf (arcsD b j) z with
    | none => simp only [Option.map_none]; rw [res_dead _ w (-1) (by omega), res_dead _ w (-1) (by omega)]
    | some x =>
      simp only [Option.map_some]
      have hb := (hf.at hj).2 x (arcOf_mem hx).1
      have e2 : x.tg + (a.length : Int) = ((a.length + x.tg.toNat : Nat) : Int) := by omega
      rw [e2, beside_res2 hf w x.tg.toNat (by omega), Int.toNat_of_nonneg hb.1]
theorem upA_shift (n : Int) : ∀ {R : List Ar} {a : Int}, upA R a → upA (R.map fun x => ⟨x.lo, x.hi, x.tg + n⟩) a
  | [], _, _ => trivial
  | x :: R, a, h => by
    unfold upA at h
    rw [List.map_cons]
    unfold upA
    exact ⟨h.1, h.2.1, h.2.2.1, upA_shift n h.2.2.2⟩
theorem beside_fit {a b : List Ds} (ha : fitD a) (hb : fitD b) : fitD (besideL a b) := by
  have hl : (besideL a b).length = a.length + b.length := by unfold besideL; simp
  refine ⟨fun e => ha.some (by unfold besideL at e; exact (List.append_eq_nil_iff.1 e).1), fun s hs => ?_, fun s hs => ?_⟩
  · rw [hl]
    unfold besideL at hs
    rcases List.mem_append.1 hs with hs | hs
    · obtain ⟨h1, h2⟩ := ha.arcs s hs
      exact ⟨h1, fun x hx => by have := h2 x hx; omega⟩
    · obtain ⟨t, ht, rfl⟩ := List.mem_map.1 hs
      obtain ⟨h1, h2⟩ := hb.arcs t ht
      refine ⟨upA_shift _ h1, fun x hx => ?_⟩
      obtain ⟨y, hy, rfl⟩ := List.mem_map.1 hx
      have := h2 y hy
      simp only
      omega
  · unfold besideL at hs
    rcases List.mem_append.1 hs with hs | hs
    · exact ha.acc s hs
    · obtain ⟨t, ht, rfl⟩ := List.mem_map.1 hs
      exact hb.acc t ht
end Go.Proofs.Ytdalomibilicfaa
