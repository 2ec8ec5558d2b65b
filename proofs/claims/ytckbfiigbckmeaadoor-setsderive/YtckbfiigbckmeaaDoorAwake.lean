/- awake: chapter 10's example, by what the program's functions tell. -/
import Derived.Test.YtckbfiigbckmeaaDoorAwakeFl
namespace Go.Proofs.YtckbfiigbckmeaaDoor
open Go.RowKit

theorem row1 {α : Type} (enc : α → Value) (x : α) (w : World) (t : TypeId) : RowAt enc [x] (some ⟨w.heap.size, 0, none⟩) (w.alloc (Obj.cells #[enc x] t)) := by
  intro i z hi
  refine ⟨w.heap.size, 0, rfl, by simp, ?_⟩
  match i, hi with
  | 0, hi => simp at hi; subst hi; simp
theorem row4 {α : Type} (enc : α → Value) (x y z u : α) (w : World) (t : TypeId) : RowAt enc [x, y, z, u] (some ⟨w.heap.size, 0, none⟩) (w.alloc (Obj.cells #[enc x, enc y, enc z, enc u] t)) := by
  intro i v hi
  refine ⟨w.heap.size, 0, rfl, by simp, ?_⟩
  match i, hi with
  | 0, hi => simp at hi; subst hi; simp
  | 1, hi => simp at hi; subst hi; simp
  | 2, hi => simp at hi; subst hi; simp
  | 3, hi => simp at hi; subst hi; simp
theorem holdB_A {base : Nat → Prop} {v : Value} {W : World} {L : List Bool} (h : HoldB base fA v W) (hL : GivesB base gA 4 L) : SlB L v W := by
  obtain ⟨M, h1, h2⟩ := h
  rw [gr_A, n_A] at h1
  rw [givesB_unique hL h1]
  exact h2
theorem holdR_A {P : Nat → Int → Prop} {v : Value} {W : World} {R : List (List Int)} (h : HoldR P fA v W) (hR : GivesR P 4 R) : SlR R v W := by
  obtain ⟨M, h1, h2⟩ := h
  rw [n_A] at h1
  rw [givesR_unique hR h1]
  exact h2

set_option maxRecDepth 100000 in
set_option maxHeartbeats 6400000 in
theorem awake_any (hO : SetsOk) : AwakeOk := by
  intro w hT
  have HTB : Hid (∀ W, Below w.heap.size w W → Tb W) := fun W hb => hT.next hb
  clear hT
  have hfl := flA w
  have b0 : Below w.heap.size w (wA5 w) := ((((below_new w _).alloc (by simp) _).alloc (by simp; omega) _).alloc (by simp; omega) _).alloc (by simp; omega) _
  have hsz5 : (wA5 w).heap.size = w.heap.size + 1 + 1 + 1 + 1 + 1 := by simp [wA5, sz4]
  have hE : (((wA5 w).alloc (Obj.cells #[Value.slice (some ⟨w.heap.size, 0, none⟩) 2 2, Value.slice (some ⟨w.heap.size + 1, 0, none⟩) 2 2, Value.slice (some ⟨w.heap.size + 1 + 1 + 1 + 1, 0, none⟩) 3 3] 25)).cell? ⟨w.heap.size + 1 + 1 + 1 + 1 + 1, 0, none⟩ = some (.slice (some ⟨w.heap.size, 0, none⟩) 2 2) ∧ ((wA5 w).alloc (Obj.cells #[Value.slice (some ⟨w.heap.size, 0, none⟩) 2 2, Value.slice (some ⟨w.heap.size + 1, 0, none⟩) 2 2, Value.slice (some ⟨w.heap.size + 1 + 1 + 1 + 1, 0, none⟩) 3 3] 25)).cell? ⟨w.heap.size + 1 + 1 + 1 + 1 + 1, 1, none⟩ = some (.slice (some ⟨w.heap.size + 1, 0, none⟩) 2 2) ∧ ((wA5 w).alloc (Obj.cells #[Value.slice (some ⟨w.heap.size, 0, none⟩) 2 2, Value.slice (some ⟨w.heap.size + 1, 0, none⟩) 2 2, Value.slice (some ⟨w.heap.size + 1 + 1 + 1 + 1, 0, none⟩) 3 3] 25)).cell? ⟨w.heap.size + 1 + 1 + 1 + 1 + 1, 2, none⟩ = some (.slice (some ⟨w.heap.size + 1 + 1 + 1 + 1, 0, none⟩) 3 3)) ∧ w.heap.size + 1 + 1 + 1 + 1 + 1 < ((wA5 w).alloc (Obj.cells #[Value.slice (some ⟨w.heap.size, 0, none⟩) 2 2, Value.slice (some ⟨w.heap.size + 1, 0, none⟩) 2 2, Value.slice (some ⟨w.heap.size + 1 + 1 + 1 + 1, 0, none⟩) 3 3] 25)).heap.size := by
    rw [← hsz5]
    refine ⟨⟨?_, ?_, ?_⟩, ?_⟩ <;> simp
  have hfl2 := hfl.next (below_new (wA5 w) (Obj.cells #[Value.slice (some ⟨w.heap.size, 0, none⟩) 2 2, Value.slice (some ⟨w.heap.size + 1, 0, none⟩) 2 2, Value.slice (some ⟨w.heap.size + 1 + 1 + 1 + 1, 0, none⟩) 3 3] 25))
  have b1 : Below w.heap.size w ((wA5 w).alloc (Obj.cells #[Value.slice (some ⟨w.heap.size, 0, none⟩) 2 2, Value.slice (some ⟨w.heap.size + 1, 0, none⟩) 2 2, Value.slice (some ⟨w.heap.size + 1 + 1 + 1 + 1, 0, none⟩) 3 3] 25)) := b0.alloc b0.size _
  unfold wA5 wA4 wA3 wA2 wA1 bx at hE hfl2 b1
  clear hfl b0 hsz5
  go_enter Tryd.func8, Tryd.ntmps8
  go_wp2_with fail
  generalize World.alloc _ (Obj.cells #[Value.slice (some ⟨w.heap.size, 0, none⟩) 2 2, Value.slice (some ⟨w.heap.size + 1, 0, none⟩) 2 2, Value.slice (some ⟨w.heap.size + 1 + 1 + 1 + 1, 0, none⟩) 3 3] 25) = w0 at *
  obtain ⟨⟨d0, d1, d2⟩, d3⟩ := hE
  have HFL : Hid (∀ W, Below w0.heap.size w0 W → FlAt fA (aA w.heap.size) W) := fun W hb => hfl2.next hb
  have hstep : ∀ W W', W.cell? ⟨w.heap.size + 1 + 1 + 1 + 1 + 1, 0, none⟩ = some (.slice (some ⟨w.heap.size, 0, none⟩) 2 2) ∧ W.cell? ⟨w.heap.size + 1 + 1 + 1 + 1 + 1, 1, none⟩ = some (.slice (some ⟨w.heap.size + 1, 0, none⟩) 2 2) ∧ W.cell? ⟨w.heap.size + 1 + 1 + 1 + 1 + 1, 2, none⟩ = some (.slice (some ⟨w.heap.size + 1 + 1 + 1 + 1, 0, none⟩) 3 3) ∧ Below w0.heap.size w0 W → Below W.heap.size W W' → W'.cell? ⟨w.heap.size + 1 + 1 + 1 + 1 + 1, 0, none⟩ = some (.slice (some ⟨w.heap.size, 0, none⟩) 2 2) ∧ W'.cell? ⟨w.heap.size + 1 + 1 + 1 + 1 + 1, 1, none⟩ = some (.slice (some ⟨w.heap.size + 1, 0, none⟩) 2 2) ∧ W'.cell? ⟨w.heap.size + 1 + 1 + 1 + 1 + 1, 2, none⟩ = some (.slice (some ⟨w.heap.size + 1 + 1 + 1 + 1, 0, none⟩) 3 3) ∧ Below w0.heap.size w0 W' := by
    rintro W W' ⟨y0, y1, y2, h⟩ hb
    have hz := h.size
    exact ⟨(hb.cell (p := ⟨w.heap.size + 1 + 1 + 1 + 1 + 1, 0, none⟩) (by show w.heap.size + 1 + 1 + 1 + 1 + 1 < _; omega)).trans y0, (hb.cell (p := ⟨w.heap.size + 1 + 1 + 1 + 1 + 1, 1, none⟩) (by show w.heap.size + 1 + 1 + 1 + 1 + 1 < _; omega)).trans y1, (hb.cell (p := ⟨w.heap.size + 1 + 1 + 1 + 1 + 1, 2, none⟩) (by show w.heap.size + 1 + 1 + 1 + 1 + 1 < _; omega)).trans y2, below_then h hb h.size⟩
  have cF : ∀ W, W.cell? ⟨w.heap.size + 1 + 1 + 1 + 1 + 1, 0, none⟩ = some (.slice (some ⟨w.heap.size, 0, none⟩) 2 2) ∧ W.cell? ⟨w.heap.size + 1 + 1 + 1 + 1 + 1, 1, none⟩ = some (.slice (some ⟨w.heap.size + 1, 0, none⟩) 2 2) ∧ W.cell? ⟨w.heap.size + 1 + 1 + 1 + 1 + 1, 2, none⟩ = some (.slice (some ⟨w.heap.size + 1 + 1 + 1 + 1, 0, none⟩) 3 3) ∧ Below w0.heap.size w0 W → Calls Tryd.prog 15 #[.agg #[.slice (some ⟨w.heap.size, 0, none⟩) 2 2, .slice (some ⟨w.heap.size + 1, 0, none⟩) 2 2, .slice (some ⟨w.heap.size + 1 + 1 + 1 + 1, 0, none⟩) 3 3]] W fun e w' => ∃ la lc, e = .returned (.slice la 4 lc) ∧ Hid (SlR rowsF (.slice la 4 lc) w') ∧ w'.cell? ⟨w.heap.size + 1 + 1 + 1 + 1 + 1, 0, none⟩ = some (.slice (some ⟨w.heap.size, 0, none⟩) 2 2) ∧ w'.cell? ⟨w.heap.size + 1 + 1 + 1 + 1 + 1, 1, none⟩ = some (.slice (some ⟨w.heap.size + 1, 0, none⟩) 2 2) ∧ w'.cell? ⟨w.heap.size + 1 + 1 + 1 + 1 + 1, 2, none⟩ = some (.slice (some ⟨w.heap.size + 1 + 1 + 1 + 1, 0, none⟩) 3 3) ∧ Below w0.heap.size w0 w' := by
    intro W hS
    refine (hO.pF fA (aA w.heap.size) W (HFL.out _ hS.2.2.2) fit_A (HTB.out _ (below_then b1 hS.2.2.2 b1.size))).mono ?_
    rintro e w' ⟨v, rfl, h1, h2⟩
    have h3 := holdR_A h1 aF
    obtain ⟨la, lc, rfl, _⟩ := id h3
    exact ⟨la, lc, rfl, h3, hstep _ _ hS h2⟩
  have cO : ∀ W la lc, W.cell? ⟨w.heap.size + 1 + 1 + 1 + 1 + 1, 0, none⟩ = some (.slice (some ⟨w.heap.size, 0, none⟩) 2 2) ∧ W.cell? ⟨w.heap.size + 1 + 1 + 1 + 1 + 1, 1, none⟩ = some (.slice (some ⟨w.heap.size + 1, 0, none⟩) 2 2) ∧ W.cell? ⟨w.heap.size + 1 + 1 + 1 + 1 + 1, 2, none⟩ = some (.slice (some ⟨w.heap.size + 1 + 1 + 1 + 1, 0, none⟩) 3 3) ∧ Below w0.heap.size w0 W → Hid (SlR rowsF (.slice la 4 lc) W) → Calls Tryd.prog 17 #[.agg #[.slice (some ⟨w.heap.size, 0, none⟩) 2 2, .slice (some ⟨w.heap.size + 1, 0, none⟩) 2 2, .slice (some ⟨w.heap.size + 1 + 1 + 1 + 1, 0, none⟩) 3 3]] W fun e w' => ∃ ma mc, e = .returned (.slice ma 4 mc) ∧ Hid (SlR rowsF (.slice la 4 lc) w' ∧ SlR rowsO (.slice ma 4 mc) w') ∧ w'.cell? ⟨w.heap.size + 1 + 1 + 1 + 1 + 1, 0, none⟩ = some (.slice (some ⟨w.heap.size, 0, none⟩) 2 2) ∧ w'.cell? ⟨w.heap.size + 1 + 1 + 1 + 1 + 1, 1, none⟩ = some (.slice (some ⟨w.heap.size + 1, 0, none⟩) 2 2) ∧ w'.cell? ⟨w.heap.size + 1 + 1 + 1 + 1 + 1, 2, none⟩ = some (.slice (some ⟨w.heap.size + 1 + 1 + 1 + 1, 0, none⟩) 3 3) ∧ Below w0.heap.size w0 w' := by
    intro W la lc hS hG
    refine (hO.pO fA (aA w.heap.size) W (HFL.out _ hS.2.2.2) fit_A (HTB.out _ (below_then b1 hS.2.2.2 b1.size))).mono ?_
    rintro e w' ⟨v, rfl, h1, h2⟩
    have h3 := holdR_A h1 aO
    obtain ⟨ma, mc, rfl, _⟩ := id h3
    exact ⟨ma, mc, rfl, ⟨hG.out.next h2, h3⟩, hstep _ _ hS h2⟩
  have HS0 : Hid (w0.drew.cell? ⟨w.heap.size + 1 + 1 + 1 + 1 + 1, 0, none⟩ = some (.slice (some ⟨w.heap.size, 0, none⟩) 2 2) ∧ w0.drew.cell? ⟨w.heap.size + 1 + 1 + 1 + 1 + 1, 1, none⟩ = some (.slice (some ⟨w.heap.size + 1, 0, none⟩) 2 2) ∧ w0.drew.cell? ⟨w.heap.size + 1 + 1 + 1 + 1 + 1, 2, none⟩ = some (.slice (some ⟨w.heap.size + 1 + 1 + 1 + 1, 0, none⟩) 3 3) ∧ Below w0.heap.size w0 w0.drew) := ⟨d0, d1, d2, (Below.refl _ _).drew⟩
  have HO : Hid SetsOk := hO
  have HST : Hid (∀ W W', W.cell? ⟨w.heap.size + 1 + 1 + 1 + 1 + 1, 0, none⟩ = some (.slice (some ⟨w.heap.size, 0, none⟩) 2 2) ∧ W.cell? ⟨w.heap.size + 1 + 1 + 1 + 1 + 1, 1, none⟩ = some (.slice (some ⟨w.heap.size + 1, 0, none⟩) 2 2) ∧ W.cell? ⟨w.heap.size + 1 + 1 + 1 + 1 + 1, 2, none⟩ = some (.slice (some ⟨w.heap.size + 1 + 1 + 1 + 1, 0, none⟩) 3 3) ∧ Below w0.heap.size w0 W → Below W.heap.size W W' → W'.cell? ⟨w.heap.size + 1 + 1 + 1 + 1 + 1, 0, none⟩ = some (.slice (some ⟨w.heap.size, 0, none⟩) 2 2) ∧ W'.cell? ⟨w.heap.size + 1 + 1 + 1 + 1 + 1, 1, none⟩ = some (.slice (some ⟨w.heap.size + 1, 0, none⟩) 2 2) ∧ W'.cell? ⟨w.heap.size + 1 + 1 + 1 + 1 + 1, 2, none⟩ = some (.slice (some ⟨w.heap.size + 1 + 1 + 1 + 1, 0, none⟩) 3 3) ∧ Below w0.heap.size w0 W') := hstep
  clear hO hstep hfl2 HTB
  go_region_held3 (fun W => W.cell? ⟨w.heap.size + 1 + 1 + 1 + 1 + 1, 0, none⟩ = some (.slice (some ⟨w.heap.size, 0, none⟩) 2 2) ∧ W.cell? ⟨w.heap.size + 1 + 1 + 1 + 1 + 1, 1, none⟩ = some (.slice (some ⟨w.heap.size + 1, 0, none⟩) 2 2) ∧ W.cell? ⟨w.heap.size + 1 + 1 + 1 + 1 + 1, 2, none⟩ = some (.slice (some ⟨w.heap.size + 1 + 1 + 1 + 1, 0, none⟩) 3 3) ∧ Below w0.heap.size w0 W) (first | exact HS0.out | assumption) (first
    | (go_at_call 15; refine (cF _ (by assumption)).mono ?_; rintro e w' ⟨la, lc, rfl, hG, hS⟩)
    | (go_at_call 17; refine (cO _ _ _ (by assumption) hG).mono ?_; clear hG; rintro e w' ⟨ma, mc, rfl, hG, hS⟩))
  have HB3 : Hid (Below w.heap.size w w') := below_then b1 hS.2.2.2 b1.size
  obtain ⟨y0, y1, y2, y3⟩ := hS
  clear cF cO HS0 d0 d1 d2
  obtain ⟨hR1, hR2⟩ := hG.out
  obtain ⟨la', lc', e1, hr1, _⟩ := hR1
  cases e1
  obtain ⟨ma', mc', e2, hr2, _⟩ := hR2
  cases e2
  obtain ⟨lb, lo, x2, rfl, hlb, k2, hx2⟩ := hr1 2 [0, 1] rfl
  obtain ⟨mb, mo, z3, rfl, hmb, k3, hz3⟩ := hr2 3 [0] rfl
  obtain ⟨mb', mo', z2, e3, _, k4, hz2⟩ := hr2 2 [2] rfl
  cases e3
  have HX2 : Hid (SlI [0, 1] x2 w') := hx2
  have HZ3 : Hid (SlI [0] z3 w') := hz3
  have HZ2 : Hid (SlI [2] z2 w') := hz2
  clear hx2 hz3 hz2 hr1 hr2 hG
  have HN : Hid (∀ W, Below w'.heap.size w' W → W.cell? ⟨w.heap.size + 1 + 1 + 1 + 1 + 1, 0, none⟩ = some (.slice (some ⟨w.heap.size, 0, none⟩) 2 2) ∧ W.cell? ⟨w.heap.size + 1 + 1 + 1 + 1 + 1, 1, none⟩ = some (.slice (some ⟨w.heap.size + 1, 0, none⟩) 2 2) ∧ W.cell? ⟨w.heap.size + 1 + 1 + 1 + 1 + 1, 2, none⟩ = some (.slice (some ⟨w.heap.size + 1 + 1 + 1 + 1, 0, none⟩) 3 3) ∧ W.cell? ⟨mb, mo + 3, none⟩ = some z3 ∧ W.cell? ⟨mb, mo + 2, none⟩ = some z2) := fun W hb => by
    obtain ⟨u0, u1, u2, _⟩ := HST.out _ _ ⟨y0, y1, y2, y3⟩ hb
    exact ⟨u0, u1, u2, (hb.cell (p := ⟨mb, mo + 3, none⟩) hmb).trans k3, (hb.cell (p := ⟨mb, mo + 2, none⟩) hmb).trans k4⟩
  have HFB : Hid (∀ W, Below w'.heap.size w' W → FlAt fA (aA w.heap.size) W) := fun W hb => HFL.out _ (below_then y3 hb y3.size)
  have HE : Hid (∀ W, Below w'.heap.size w' W → Calls Tryd.prog 10 #[.agg #[.slice (some ⟨w.heap.size, 0, none⟩) 2 2, .slice (some ⟨w.heap.size + 1, 0, none⟩) 2 2, .slice (some ⟨w.heap.size + 1 + 1 + 1 + 1, 0, none⟩) 3 3]] W fun e w' => Told (HoldB NoP fA) W e w') := fun W hb => HO.out.pE fA (aA w.heap.size) W (HFB.out _ hb) fit_A
  have HU : Hid (∀ W, Below w'.heap.size w' W → Calls Tryd.prog 12 #[.agg #[.slice (some ⟨w.heap.size, 0, none⟩) 2 2, .slice (some ⟨w.heap.size + 1, 0, none⟩) 2 2, .slice (some ⟨w.heap.size + 1 + 1 + 1 + 1, 0, none⟩) 3 3]] W fun e w' => Told (HoldB (UseP fA) fA) W e w') := fun W hb => HO.out.pU fA (aA w.heap.size) W (HFB.out _ hb) fit_A
  clear HST HFL HO HFB y0 y1 y2 k3 k4
  go_wp2_with fail
  have hB1 : Below w'.heap.size w' (w'.alloc (Obj.cells #[Value.int IntKind.i64 0, Value.int IntKind.i64 1] 3)) := below_new _ _
  refine (ints_any [0, 1] [0, 1] x2 _ _ (HX2.out.next hB1) ⟨_, 2, rfl, row2 encI 0 1 w' _, (fun h => by cases h), Nat.le_refl _, by intro x hx; simp at hx; rcases hx with rfl | rfl <;> (unfold i64B; omega)⟩ (by simp) (by simp)).mono ?_
  rintro e w2 ⟨rfl, dd, rfl⟩
  have hB2 := below_drewN hB1 dd
  generalize World.drewN _ dd = w2 at *
  obtain ⟨y0, y1, y2, k3, k4⟩ := HN.out _ hB2
  clear hB1 k2 HX2
  go_wp2_with fail
  refine (HE.out _ hB2).mono ?_
  rintro e w3 ⟨v, rfl, hv, hb3⟩
  have hB3 := below_then hB2 hb3 hB2.size
  have hvB := holdB_A hv aE
  obtain ⟨va, vc, rfl, _⟩ := id hvB
  have HV : Hid (SlB [false, false, false, true] (.slice va 4 vc) w3) := hvB
  clear hv hvB hb3 hB2 HE y0 y1 y2 k3 k4
  obtain ⟨y0, y1, y2, k3, k4⟩ := HN.out _ hB3
  go_wp2_with fail
  have hC3 : Below w'.heap.size w' (w3.alloc (Obj.cells #[encB false, encB false, encB false, encB true] 4)) := hB3.alloc hB3.size _
  refine (bools_any [false, false, false, true] [false, false, false, true] _ _ _ (HV.out.next (below_new _ _)) ⟨_, 4, rfl, row4 encB false false false true w3 _, (fun h => by cases h), Nat.le_refl _⟩ (by simp) (by simp)).mono ?_
  rintro e w4 ⟨rfl, dd, rfl⟩
  have hB4 := below_drewN hC3 dd
  generalize World.drewN _ dd = w4 at *
  clear hC3 HV hB3 y0 y1 y2 k3 k4
  obtain ⟨y0, y1, y2, k3, k4⟩ := HN.out _ hB4
  go_wp2_with fail
  have hC4 : Below w'.heap.size w' (w4.alloc (Obj.cells #[encI 0] 3)) := hB4.alloc hB4.size _
  refine (ints_any [0] [0] z3 _ _ (HZ3.out.next hC4) ⟨_, 1, rfl, row1 encI 0 w4 _, (fun h => by cases h), Nat.le_refl _, by intro x hx; simp at hx; subst hx; unfold i64B; omega⟩ (by simp) (by simp)).mono ?_
  rintro e w5 ⟨rfl, dd, rfl⟩
  have hB5 := below_drewN hC4 dd
  generalize World.drewN _ dd = w5 at *
  clear hC4 HZ3 hB4 y0 y1 y2 k3 k4
  obtain ⟨y0, y1, y2, k3, k4⟩ := HN.out _ hB5
  go_wp2_with fail
  have hC5 : Below w'.heap.size w' (w5.alloc (Obj.cells #[encI 2] 3)) := hB5.alloc hB5.size _
  refine (ints_any [2] [2] z2 _ _ (HZ2.out.next hC5) ⟨_, 1, rfl, row1 encI 2 w5 _, (fun h => by cases h), Nat.le_refl _, by intro x hx; simp at hx; subst hx; unfold i64B; omega⟩ (by simp) (by simp)).mono ?_
  rintro e w6 ⟨rfl, dd, rfl⟩
  have hB6 := below_drewN hC5 dd
  generalize World.drewN _ dd = w6 at *
  clear hC5 HZ2 hB5 y0 y1 y2 k3 k4
  obtain ⟨y0, y1, y2, k3, k4⟩ := HN.out _ hB6
  go_wp2_with fail
  refine (HU.out _ hB6).mono ?_
  rintro e w7 ⟨v, rfl, hv, hb7⟩
  have hB7 := below_then hB6 hb7 hB6.size
  have hvB := holdB_A hv aU
  obtain ⟨va7, vc7, rfl, _⟩ := id hvB
  have HV : Hid (SlB [true, true, true, true] (.slice va7 4 vc7) w7) := hvB
  clear hv hvB hb7 hB6 HU y0 y1 y2 k3 k4
  obtain ⟨y0, y1, y2, k3, k4⟩ := HN.out _ hB7
  go_wp2_with fail
  have hC7 : Below w'.heap.size w' (w7.alloc (Obj.cells #[encB true, encB true, encB true, encB true] 4)) := hB7.alloc hB7.size _
  refine (bools_any [true, true, true, true] [true, true, true, true] _ _ _ (HV.out.next (below_new _ _)) ⟨_, 4, rfl, row4 encB true true true true w7 _, (fun h => by cases h), Nat.le_refl _⟩ (by simp) (by simp)).mono ?_
  rintro e w8 ⟨rfl, dd, rfl⟩
  have hB8 := below_drewN hC7 dd
  generalize World.drewN _ dd = w8 at *
  clear hC7 HV hB7 y0 y1 y2 k3 k4
  obtain ⟨y0, y1, y2, k3, k4⟩ := HN.out _ hB8
  have HBf : Hid (Below w.heap.size w w8) := below_then HB3.out hB8 HB3.out.size
  clear hB8 HB3
  go_wp2_with fail
  go_ret
  exact ⟨rfl, HBf.out⟩
end Go.Proofs.YtckbfiigbckmeaaDoor
