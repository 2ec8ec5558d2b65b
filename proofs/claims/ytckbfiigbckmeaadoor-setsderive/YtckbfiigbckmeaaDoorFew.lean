/- few; what a fit plain grammar is; its productions as rows of symbols. -/
import Derived.Test.YtckbfiigbckmeaaDoorFit2
namespace Go.Proofs.YtckbfiigbckmeaaDoor
open Go.RowKit

structure FitP (f : Fl) : Prop where
  nons : 0 < f.nons.length
  size : f.terms.length + f.nons.length ≤ 600
  prods : f.prods.length ≤ 400
  left : ∀ p ∈ f.prods, (f.terms.length : Int) ≤ p.left ∧ p.left < (f.terms.length + f.nons.length : Nat)
  right : ∀ p ∈ f.prods, p.right.length ≤ 64
  sym : ∀ p ∈ f.prods, ∀ x ∈ p.right, 0 ≤ x.sym ∧ x.sym < (f.terms.length + f.nons.length : Nat)

theorem prodsB_all {t n : Int} : ∀ {l : List Pr} {prev : Int}, prodsB t n prev l = true → ∀ p ∈ l, prodB t n p = true
  | [], _, _ => by simp
  | q :: l, prev, h => by
    rw [prodsB] at h
    simp only [Bool.and_eq_true] at h
    intro p hp
    rcases List.mem_cons.1 hp with rfl | hp
    · exact h.1.2
    · exact prodsB_all h.2 p hp
theorem fit_facts {f : Fl} (h : fitB f = true) : FitP f := by
  unfold fitB headB at h
  simp only [Bool.and_eq_true, decide_eq_true_eq] at h
  obtain ⟨⟨⟨⟨h1, h2, h3⟩, _⟩, _⟩, h4⟩ := h
  have h5 : ∀ p ∈ f.prods, (((f.terms.length : Int) ≤ p.left ∧ p.left < (f.terms.length + f.nons.length : Nat) ∧ p.right.length ≤ 64 ∧ -10000 ≤ p.prec ∧ p.prec ≤ 10000) ∧ p.right.all (itemB (f.terms.length + f.nons.length : Nat)) = true) := fun p hp => by
    have := prodsB_all h4 p hp
    unfold prodB at this
    simpa only [Bool.and_eq_true, decide_eq_true_eq] using this
  refine ⟨by omega, h2, h3, fun p hp => ⟨(h5 p hp).1.1, (h5 p hp).1.2.1⟩, fun p hp => (h5 p hp).1.2.2.1, fun p hp x hx => ?_⟩
  have := List.all_eq_true.1 (h5 p hp).2 x hx
  unfold itemB at this
  simp only [Bool.and_eq_true, decide_eq_true_eq] at this
  exact this.1.1

def fewB (f : Fl) : Bool := lightB f && fitB f && decide (f.terms.length + f.nons.length ≤ 80) && decide (f.prods.length ≤ 100)
theorem few_facts {f : Fl} (h : fewB f = true) : FitP f ∧ f.terms.length + f.nons.length ≤ 80 ∧ f.prods.length ≤ 100 := by
  unfold fewB at h
  simp only [Bool.and_eq_true, decide_eq_true_eq] at h
  exact ⟨fit_facts h.1.1.2, h.1.2, h.2⟩

set_option maxHeartbeats 1600000 in
theorem few_any (f : Fl) (a : FlA) (w : World) (hf : FlAt f a w) :
    Calls Tryd.prog 7 #[a.val f] w fun e w' => e = .returned (.bool (fewB f)) ∧ Below w.heap.size w w' := by
  have hL := fun W (hb : Below w.heap.size w W) => light_any f a W (hf.next hb)
  have hF := fun W (hb : Below w.heap.size w W) => fit_any f a W (hf.next hb)
  obtain ⟨ta, tc, na, nc, pa, pc⟩ := a
  have X0 := FBox.new f ⟨ta, tc, na, nc, pa, pc⟩ 25 w
  obtain ⟨h0, h1, h2, h3, h4, h5, h6, h7⟩ := hf
  clear h0 h1 h2
  have B0 : Below w.heap.size w (w.alloc (fobj f ⟨ta, tc, na, nc, pa, pc⟩ 25)) := (Below.refl _ _).alloc (Nat.le_refl _) _
  unfold fobj at X0 B0
  unfold FlA.val at hL hF ⊢
  simp only at *
  have HL : Hid (∀ W, Below w.heap.size w W → Calls Tryd.prog 25 #[.agg #[.slice ta f.terms.length tc, .slice na f.nons.length nc, .slice pa f.prods.length pc]] W fun e w' => e = .returned (.bool (lightB f)) ∧ Below W.heap.size W w') := hL
  have HF : Hid (∀ W, Below w.heap.size w W → Calls Tryd.prog 23 #[.agg #[.slice ta f.terms.length tc, .slice na f.nons.length nc, .slice pa f.prods.length pc]] W fun e w' => e = .returned (.bool (fitB f)) ∧ Below W.heap.size W w') := hF
  have HW : Hid (fewB f = (lightB f && fitB f && decide (f.terms.length + f.nons.length ≤ 80) && decide (f.prods.length ≤ 100))) := rfl
  clear hL hF
  go_enter Tryd.func7, Tryd.ntmps7
  go_wp2_with fail
  refine (HL.out _ B0).mono ?_
  rintro e w1 ⟨rfl, hb1⟩
  have X1 := X0.next hb1
  have B1 := below_then B0 hb1 B0.size
  clear X0 B0 HL hb1
  obtain ⟨x1, d0, d1, d2⟩ := id X1
  simp only at d0 d1 d2
  cases hl : lightB f with
  | false =>
    have HZ : Hid (fewB f = false) := by show _ = _; rw [HW.out, hl]; rfl
    clear hl HW HF
    go_wp2_with fail
    go_ret
    exact ⟨ret_bool HZ.out.symm, B1⟩
  | true =>
  go_wp2_with fail
  refine (HF.out _ B1).mono ?_
  rintro e w2 ⟨rfl, hb2⟩
  have X2 := X1.next hb2
  have B2 := below_then B1 hb2 B1.size
  clear X1 B1 HF hb2 x1 d0 d1 d2
  obtain ⟨x1, d0, d1, d2⟩ := id X2
  simp only at d0 d1 d2
  cases ht : fitB f with
  | false =>
    have HZ : Hid (fewB f = false) := by show _ = _; rw [HW.out, hl, ht]; rfl
    clear hl HW ht
    go_wp2_with fail
    go_ret
    exact ⟨ret_bool HZ.out.symm, B2⟩
  | true =>
  have HW2 : Hid (fewB f = (decide (f.terms.length + f.nons.length ≤ 80) && decide (f.prods.length ≤ 100))) := by show _ = _; rw [HW.out, hl, ht]; rfl
  clear hl ht HW
  by_cases z1 : f.terms.length + f.nons.length ≤ 80
  · by_cases z2 : f.prods.length ≤ 100
    · have HZ : Hid (fewB f = true) := by show _ = _; rw [HW2.out, decide_eq_true z1, decide_eq_true z2]; rfl
      clear HW2
      go_wp2_with fail
      go_ret
      exact ⟨ret_bool (by rw [HZ.out]; simp; omega), B2⟩
    · have HZ : Hid (fewB f = false) := by show _ = _; rw [HW2.out, decide_eq_false z2, Bool.and_false]
      clear HW2
      go_wp2_with fail
      go_ret
      exact ⟨ret_bool (by rw [HZ.out]; simp; omega), B2⟩
  · have HZ : Hid (fewB f = false) := by show _ = _; rw [HW2.out, decide_eq_false z1]; rfl
    clear HW2
    go_wp2_with fail
    go_ret
    exact ⟨ret_bool HZ.out.symm, B2⟩

/-- The productions as rows of symbols. -/
def Pr.syms (p : Pr) : List Nat := p.right.map fun x => x.sym.toNat
def Fl.gr (f : Fl) : Gr := f.prods.map fun p => (p.left.toNat, p.syms)
def Fl.n (f : Fl) : Nat := f.terms.length + f.nons.length
end Go.Proofs.YtckbfiigbckmeaaDoor
