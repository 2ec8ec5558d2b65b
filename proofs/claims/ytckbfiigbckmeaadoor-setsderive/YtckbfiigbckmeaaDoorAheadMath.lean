/- What begins items: just what the document says. -/
import Derived.Test.YtckbfiigbckmeaaDoorRefAhead
namespace Go.Proofs.YtckbfiigbckmeaaDoor
open Go.RowKit

/-- The symbols among items. -/
def symsN (N : Nat) (l : List It) : List Nat := (l.filter fun x => decide (0 ≤ x.sym ∧ x.sym < (N : Int))).map fun x => x.sym.toNat
theorem symsN_cons_no {N : Nat} {x : It} {l : List It} (h : x.sym < 0 ∨ (N : Int) ≤ x.sym) : symsN N (x :: l) = symsN N l := by
  unfold symsN; rw [List.filter_cons_of_neg (by simp; omega)]
theorem symsN_cons_yes {N : Nat} {x : It} {l : List It} (h : ¬ (x.sym < 0 ∨ (N : Int) ≤ x.sym)) : symsN N (x :: l) = x.sym.toNat :: symsN N l := by
  unfold symsN; rw [List.filter_cons_of_pos (by simp; omega)]; rfl

theorem aheadL_rise {N R Le bh} : ∀ {l : List It} {out : List Int}, Rising out → Rising (aheadL N R Le bh out l)
  | [], out, h => by rw [aheadL]; exact rising_unionL h
  | x :: t, out, h => by
    rw [aheadL]
    split
    · exact aheadL_rise h
    · split
      · exact aheadL_rise (rising_unionL h)
      · exact rising_unionL h
theorem aheadL_mem {N : Nat} {R : List (List Int)} {Le : List Bool} {bh : List Int} {emp : Nat → Prop} {fst : Nat → Int → Prop} (hR : ∀ s, s < N → ∀ t, t ∈ rowAt R s ↔ fst s t) (hL : ∀ s, s < N → (onb Le s = true ↔ emp s)) :
    ∀ {l : List It} {out : List Int} {t : Int}, t ∈ aheadL N R Le bh out l ↔ t ∈ out ∨ Beg emp fst (fun t => t ∈ bh) (symsN N l) t
  | [], out, t => by
    rw [aheadL, mem_unionL]
    constructor
    · rintro (h | h)
      · exact .inl h
      · exact .inr (show Beg emp fst (fun t => t ∈ bh) [] t from .behind h)
    · rintro (h | h)
      · exact .inl h
      · have h' : Beg emp fst (fun t => t ∈ bh) [] t := h
        cases h' with | behind h => exact .inr h
  | x :: l, out, t => by
    rw [aheadL]
    split
    · rename_i h
      rw [aheadL_mem hR hL, symsN_cons_no h]
    · rename_i h
      have hx : x.sym.toNat < N := by omega
      rw [symsN_cons_yes h]
      split
      · rename_i ho
        rw [aheadL_mem hR hL, mem_unionL, hR _ hx]
        constructor
        · rintro ((h1 | h1) | h1)
          · exact .inl h1
          · exact .inr (.here h1)
          · exact .inr (.next ((hL _ hx).1 ho) h1)
        · rintro (h1 | h1)
          · exact .inl (.inl h1)
          · cases h1 with
            | here h1 => exact .inl (.inr h1)
            | next _ h1 => exact .inr h1
      · rename_i ho
        rw [mem_unionL, hR _ hx]
        constructor
        · rintro (h1 | h1)
          · exact .inl h1
          · exact .inr (.here h1)
        · rintro (h1 | h1)
          · exact .inl h1
          · cases h1 with
            | here h1 => exact .inr h1
            | next h2 _ => exact absurd ((hL _ hx).2 h2) ho

theorem rowAt_gives {P : Nat → Int → Prop} {n : Nat} {R : List (List Int)} (h : GivesR P n R) {s : Nat} (hs : s < n) {t : Int} : t ∈ rowAt R s ↔ P s t := by
  rw [← inR_row (by rw [h.1]; exact hs)]; exact h.2.2 s hs t
theorem onb_gives {base : Nat → Prop} {g : Gr} {n : Nat} {L : List Bool} (h : GivesB base g n L) {s : Nat} (hs : s < n) : onb L s = true ↔ Der base g s := by
  rw [onb_iff]; exact h.2 s hs
theorem row_le_gives {P : Nat → Int → Prop} {n m : Nat} {R : List (List Int)} (h : GivesR P n R) (hb : ∀ s t, P s t → 0 ≤ t ∧ t < m) (s : Nat) : (rowAt R s).length ≤ m := by
  by_cases hs : s < R.length
  · have hr : Rising (rowAt R s) := by rw [rowAt_get hs]; exact h.2.1 _ (List.getElem_mem hs)
    exact rising_length hr (fun t ht => hb s t ((rowAt_gives h (by rw [← h.1]; exact hs)).1 ht))
  · have : rowAt R s = [] := by unfold rowAt; rw [List.getD_eq_getElem?_getD, List.getElem?_eq_none (by omega)]; rfl
    rw [this]; simp

theorem first_row_le {f : Fl} {R : List (List Int)} (hn : f.n ≤ 600) (h : GivesR (FstP f) f.n R) (s : Nat) : (rowAt R s).length ≤ 601 := by
  have ht : f.terms.length ≤ f.n := by unfold Fl.n; omega
  exact row_le_gives (m := 601) h (fun s t h => by have h1 := fst_lt h; omega) s
def AheadP (f : Fl) (l : List It) (bh : List Int) (t : Int) : Prop := Beg (EmpP f) (FstP f) (fun t => t ∈ bh) (symsN f.n l) t
/-- A rising row comes back that has just what P says. -/
def GaveL (P : Int → Prop) (w : World) (e : Ending) (w' : World) : Prop := ∃ v L, e = .returned v ∧ Rising L ∧ (∀ t, t ∈ L ↔ P t) ∧ SlI L v w' ∧ Below w.heap.size w w'

set_option maxRecDepth 100000 in
set_option maxHeartbeats 3200000 in
theorem rAhead_any (f : Fl) (a : FlA) (l : List It) (bh : List Int) (vl vb : Value) (w : World) (hf : FlAt f a w) (hp : FitP f) (hl : SlT l vl w) (hb : SlI bh vb w) (hll : l.length ≤ 1000) (hbl : bh.length ≤ 1000) :
    Calls Tryd.prog 21 #[a.val f, vl, vb] w fun e w' => GaveL (AheadP f l bh) w e w' := by
  have hn : f.n ≤ 600 := hp.size
  have hF := fun W (hb : Below w.heap.size w W) => rfirst_any f a W (hf.next hb) hp
  have hE := fun W (hb : Below w.heap.size w W) => rempty_any f a W (hf.next hb) hp
  have hA := fun (R : List (List Int)) (Le : List Bool) (vr ve : Value) (W : World) (hW : Below w.heap.size w W) (hR : SlR R vr W) (hL : SlB Le ve W) (h1 : GivesR (FstP f) f.n R) (h2 : GivesB (fun _ => False) f.gr f.n Le) =>
    rahead_any f a l bh R Le vl vb vr ve W hn (hl.next hW) (hb.next hW) hR hL h1.1 h2.1 hll hbl (fun s => first_row_le hn h1 s)
  obtain ⟨ta, tc, na, nc, pa, pc⟩ := a
  obtain ⟨la, lc, rfl, _⟩ := hl
  obtain ⟨ba, bc, rfl, _⟩ := hb
  have X0 := FBox.new f ⟨ta, tc, na, nc, pa, pc⟩ 25 w
  have B0 : Below w.heap.size w (w.alloc (fobj f ⟨ta, tc, na, nc, pa, pc⟩ 25)) := (Below.refl _ _).alloc (Nat.le_refl _) _
  unfold fobj at X0 B0
  unfold FlA.val at hF hE hA ⊢
  simp only at X0 B0 hF hE hA ⊢
  go_enter Tryd.func21, Tryd.ntmps21
  go_wp2_with fail
  generalize w.alloc (Obj.cells #[Value.slice ta f.terms.length tc, Value.slice na f.nons.length nc, Value.slice pa f.prods.length pc] 25) = w0 at *
  have HBB : ∀ W, Below w0.heap.size w0 W → Below w.heap.size w W := fun W hb => below_then B0 hb B0.size
  have hstep : ∀ W W', W.cell? ⟨w.heap.size, 0, none⟩ = some (.slice ta f.terms.length tc) ∧ W.cell? ⟨w.heap.size, 1, none⟩ = some (.slice na f.nons.length nc) ∧ W.cell? ⟨w.heap.size, 2, none⟩ = some (.slice pa f.prods.length pc) ∧ Below w0.heap.size w0 W → Below W.heap.size W W' → W'.cell? ⟨w.heap.size, 0, none⟩ = some (.slice ta f.terms.length tc) ∧ W'.cell? ⟨w.heap.size, 1, none⟩ = some (.slice na f.nons.length nc) ∧ W'.cell? ⟨w.heap.size, 2, none⟩ = some (.slice pa f.prods.length pc) ∧ Below w0.heap.size w0 W' := by
    rintro W W' ⟨_, _, _, h⟩ hb
    have h' := below_then h hb h.size
    obtain ⟨_, y0, y1, y2⟩ := X0.next h'
    exact ⟨y0, y1, y2, h'⟩
  have hF' : ∀ W, W.cell? ⟨w.heap.size, 0, none⟩ = some (.slice ta f.terms.length tc) ∧ W.cell? ⟨w.heap.size, 1, none⟩ = some (.slice na f.nons.length nc) ∧ W.cell? ⟨w.heap.size, 2, none⟩ = some (.slice pa f.prods.length pc) ∧ Below w0.heap.size w0 W → Calls Tryd.prog 16 #[.agg #[.slice ta f.terms.length tc, .slice na f.nons.length nc, .slice pa f.prods.length pc]] W fun e w' => ∃ vr R, e = .returned vr ∧ Hid (GivesR (FstP f) f.n R ∧ SlR R vr w') ∧ w'.cell? ⟨w.heap.size, 0, none⟩ = some (.slice ta f.terms.length tc) ∧ w'.cell? ⟨w.heap.size, 1, none⟩ = some (.slice na f.nons.length nc) ∧ w'.cell? ⟨w.heap.size, 2, none⟩ = some (.slice pa f.prods.length pc) ∧ Below w0.heap.size w0 w' := by
    intro W hS
    refine (hF W (HBB _ hS.2.2.2)).mono ?_
    rintro e w' ⟨v, R, rfl, h1, h2, h3⟩
    exact ⟨v, R, rfl, ⟨h1, h2.slR⟩, hstep _ _ hS h3⟩
  have hE' : ∀ W vr R, W.cell? ⟨w.heap.size, 0, none⟩ = some (.slice ta f.terms.length tc) ∧ W.cell? ⟨w.heap.size, 1, none⟩ = some (.slice na f.nons.length nc) ∧ W.cell? ⟨w.heap.size, 2, none⟩ = some (.slice pa f.prods.length pc) ∧ Below w0.heap.size w0 W → Hid (GivesR (FstP f) f.n R ∧ SlR R vr W) → Calls Tryd.prog 11 #[.agg #[.slice ta f.terms.length tc, .slice na f.nons.length nc, .slice pa f.prods.length pc]] W fun e w' => ∃ ve Le, e = .returned ve ∧ Hid ((GivesR (FstP f) f.n R ∧ SlR R vr w') ∧ GivesB (fun _ => False) f.gr f.n Le ∧ SlB Le ve w') ∧ w'.cell? ⟨w.heap.size, 0, none⟩ = some (.slice ta f.terms.length tc) ∧ w'.cell? ⟨w.heap.size, 1, none⟩ = some (.slice na f.nons.length nc) ∧ w'.cell? ⟨w.heap.size, 2, none⟩ = some (.slice pa f.prods.length pc) ∧ Below w0.heap.size w0 w' := by
    intro W vr R hS hG
    refine (hE W (HBB _ hS.2.2.2)).mono ?_
    rintro e w' ⟨v, Le, rfl, h1, h2, _, h3⟩
    exact ⟨v, Le, rfl, ⟨⟨hG.out.1, hG.out.2.next h3⟩, h1, h2⟩, hstep _ _ hS h3⟩
  have hA' : ∀ W vr R ve Le, W.cell? ⟨w.heap.size, 0, none⟩ = some (.slice ta f.terms.length tc) ∧ W.cell? ⟨w.heap.size, 1, none⟩ = some (.slice na f.nons.length nc) ∧ W.cell? ⟨w.heap.size, 2, none⟩ = some (.slice pa f.prods.length pc) ∧ Below w0.heap.size w0 W → Hid ((GivesR (FstP f) f.n R ∧ SlR R vr W) ∧ GivesB (fun _ => False) f.gr f.n Le ∧ SlB Le ve W) → Calls Tryd.prog 33 #[.agg #[.slice ta f.terms.length tc, .slice na f.nons.length nc, .slice pa f.prods.length pc], .slice la l.length lc, .slice ba bh.length bc, vr, ve] W fun e w' => ∃ v, e = .returned v ∧ Hid (∃ L, Rising L ∧ (∀ t, t ∈ L ↔ AheadP f l bh t) ∧ SlI L v w') ∧ w'.cell? ⟨w.heap.size, 0, none⟩ = some (.slice ta f.terms.length tc) ∧ w'.cell? ⟨w.heap.size, 1, none⟩ = some (.slice na f.nons.length nc) ∧ w'.cell? ⟨w.heap.size, 2, none⟩ = some (.slice pa f.prods.length pc) ∧ Below w0.heap.size w0 w' := by
    intro W vr R ve Le hS hG
    obtain ⟨⟨g1, g2⟩, g3, g4⟩ := hG.out
    refine (hA R Le vr ve W (HBB _ hS.2.2.2) g2 g4 g1 g3).mono ?_
    rintro e w' ⟨v, rfl, h1, _, h3⟩
    refine ⟨v, rfl, ⟨_, aheadL_rise List.Pairwise.nil, fun t => ?_, h1⟩, hstep _ _ hS h3⟩
    rw [aheadL_mem (emp := EmpP f) (fst := FstP f) (fun s hs t => rowAt_gives g1 hs) (fun s hs => onb_gives g3 hs)]
    simp [AheadP]
  have HS0 : Hid (w0.drew.cell? ⟨w.heap.size, 0, none⟩ = some (.slice ta f.terms.length tc) ∧ w0.drew.cell? ⟨w.heap.size, 1, none⟩ = some (.slice na f.nons.length nc) ∧ w0.drew.cell? ⟨w.heap.size, 2, none⟩ = some (.slice pa f.prods.length pc) ∧ Below w0.heap.size w0 w0.drew) := by
    obtain ⟨_, y0, y1, y2⟩ := X0
    exact ⟨y0, y1, y2, (Below.refl _ _).drew⟩
  clear hF hE hA X0 hstep
  go_region_held3 (fun W => W.cell? ⟨w.heap.size, 0, none⟩ = some (.slice ta f.terms.length tc) ∧ W.cell? ⟨w.heap.size, 1, none⟩ = some (.slice na f.nons.length nc) ∧ W.cell? ⟨w.heap.size, 2, none⟩ = some (.slice pa f.prods.length pc) ∧ Below w0.heap.size w0 W) (first | exact HS0.out | assumption) (first
    | (go_at_call 16; refine (hF' _ (by assumption)).mono ?_; rintro e w' ⟨vr, R, rfl, hG, hS⟩)
    | (go_at_call 11; refine (hE' _ _ _ (by assumption) hG).mono ?_; clear hG; rintro e w'' ⟨ve, Le, rfl, hG, hS2⟩)
    | (go_at_call 33; refine (hA' _ _ _ _ _ (by assumption) hG).mono ?_; clear hG; rintro e w3 ⟨v, rfl, hG, hS3⟩))
  have HB : Hid (Below w.heap.size w w3) := HBB _ hS3.2.2.2
  clear hS3 hF' hE' hA' HBB
  go_wp2_with fail
  go_ret
  obtain ⟨L, h1, h2, h3⟩ := hG.out
  exact ⟨_, L, rfl, h1, h2, h3, HB.out⟩
end Go.Proofs.YtckbfiigbckmeaaDoor
