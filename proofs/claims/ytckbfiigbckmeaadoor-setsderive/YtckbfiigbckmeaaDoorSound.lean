/- Every fit plain grammar is sound for the program; how many symbols there are; which numbers are symbols. -/
import Derived.Test.YtckbfiigbckmeaaDoorLib10
namespace Go.Proofs.YtckbfiigbckmeaaDoor
open Go.RowKit

set_option maxRecDepth 100000 in
set_option maxHeartbeats 800000 in
theorem symbols_any (f : Fl) (a : FlA) (w : World) (hp : f.n ≤ 600) :
    Calls Tryd.prog 42 #[a.val f] w fun e w' => e = .returned (.int .i64 f.n) ∧ Below w.heap.size w w' := by
  obtain ⟨ta, tc, na, nc, pa, pc⟩ := a
  unfold FlA.val
  simp only
  unfold Fl.n at *
  go_enter Tryd.func42, Tryd.ntmps42
  go_wp2_with fail
  go_ret
  exact ⟨ret_int (by omega), (Below.refl _ _).alloc (Nat.le_refl _) _⟩

set_option maxRecDepth 100000 in
set_option maxHeartbeats 800000 in
theorem isNon_any (f : Fl) (a : FlA) (x : Int) (w : World) :
    Calls Tryd.prog 56 #[a.val f, .int .i64 x] w fun e w' => e = .returned (.bool (decide ((f.terms.length : Int) ≤ x))) ∧ Below w.heap.size w w' := by
  obtain ⟨ta, tc, na, nc, pa, pc⟩ := a
  unfold FlA.val
  simp only
  go_enter Tryd.func56, Tryd.ntmps56
  go_wp2_with fail
  go_ret
  exact ⟨rfl, (Below.refl _ _).alloc (Nat.le_refl _) _⟩

set_option maxRecDepth 100000 in
set_option maxHeartbeats 800000 in
theorem isSymbol_any (f : Fl) (a : FlA) (x : Int) (w : World) (hp : f.n ≤ 600) :
    Calls Tryd.prog 58 #[a.val f, .int .i64 x] w fun e w' => e = .returned (.bool (decide (0 ≤ x ∧ x < (f.n : Int)))) ∧ Below w.heap.size w w' := by
  have hS := fun W => symbols_any f a W hp
  obtain ⟨ta, tc, na, nc, pa, pc⟩ := a
  unfold FlA.val at hS ⊢
  simp only at *
  have HS : Hid (∀ W, Calls Tryd.prog 42 #[.agg #[.slice ta f.terms.length tc, .slice na f.nons.length nc, .slice pa f.prods.length pc]] W fun e w' => e = .returned (.int .i64 f.n) ∧ Below W.heap.size W w') := hS
  clear hS
  have B0 : Below w.heap.size w (w.alloc (Obj.cells #[Value.slice ta f.terms.length tc, Value.slice na f.nons.length nc, Value.slice pa f.prods.length pc] 25)) := (Below.refl _ _).alloc (Nat.le_refl _) _
  by_cases hx : 0 ≤ x
  · have hd : decide (0 ≤ x) = true := by simpa using hx
    go_enter Tryd.func58, Tryd.ntmps58
    go_wp2_with fail
    refine (HS.out _).mono ?_
    rintro e w1 ⟨rfl, hb1⟩
    have HB : Hid (Below w.heap.size w w1) := below_then B0 hb1 B0.size
    clear B0 hb1
    go_wp2_with fail
    go_ret
    exact ⟨ret_bool (by simp [hx]), HB.out⟩
  · have hd : decide (0 ≤ x) = false := by simpa using hx
    go_enter Tryd.func58, Tryd.ntmps58
    go_wp2_with fail
    go_ret
    exact ⟨rfl, B0⟩

/-- A box that holds a plain grammar: what a closure has captured. -/
def BoxF (f : Fl) (a : FlA) (B : Nat) (W : World) : Prop := FBox f a B W
theorem fbox_load {f : Fl} {a : FlA} {B : Nat} {W : World} (h : FBox f a B W) : W.cell? ⟨B, 0, none⟩ = some (.slice a.ta f.terms.length a.tc) ∧ W.cell? ⟨B, 1, none⟩ = some (.slice a.na f.nons.length a.nc) ∧ W.cell? ⟨B, 2, none⟩ = some (.slice a.pa f.prods.length a.pc) := ⟨h.2.1, h.2.2.1, h.2.2.2⟩

set_option maxRecDepth 100000 in
set_option maxHeartbeats 800000 in
theorem soundProd1_any (f : Fl) (a : FlA) (x : It) (B : Nat) (w : World) (hp : f.n ≤ 600) (hB : FBox f a B w) (hx : 0 ≤ x.sym ∧ x.sym < (f.n : Int)) :
    Calls Tryd.prog 64 #[.agg #[.int .i64 x.sym, .string x.fld, .string x.als], .pointer (some ⟨B, 0, none⟩)] w fun e w' => e = .returned (.bool false) ∧ Below w.heap.size w w' := by
  have hS := fun W => isSymbol_any f a x.sym W hp
  rw [show decide (0 ≤ x.sym ∧ x.sym < (f.n : Int)) = true from decide_eq_true hx] at hS
  obtain ⟨xs, xf, xa⟩ := x
  obtain ⟨ta, tc, na, nc, pa, pc⟩ := a
  obtain ⟨b0, b1, b2, b3⟩ := hB
  unfold FlA.val at hS
  simp only at *
  have HS : Hid (∀ W, Calls Tryd.prog 58 #[.agg #[Value.slice ta f.terms.length tc, Value.slice na f.nons.length nc, Value.slice pa f.prods.length pc], .int .i64 xs] W fun e w' => e = .returned (.bool true) ∧ Below W.heap.size W w') := hS
  clear hS
  have B0 : Below w.heap.size w (w.alloc (Obj.cells #[Value.int .i64 xs, .string xf, .string xa] 48)) := (Below.refl _ _).alloc (Nat.le_refl _) _
  have hne : B ≠ w.heap.size := by omega
  go_enter Tryd.func64, Tryd.ntmps64
  go_wp2_with fail
  refine (HS.out _).mono ?_
  rintro e w1 ⟨rfl, hb1⟩
  have HB : Hid (Below w.heap.size w w1) := below_then B0 hb1 B0.size
  clear B0 hb1
  go_wp2_with fail
  go_ret
  exact ⟨rfl, HB.out⟩

set_option maxRecDepth 100000 in
set_option maxHeartbeats 800000 in
theorem soundProd_any (f : Fl) (a : FlA) (p : Pr) (v : Value) (w : World) (hp : f.n ≤ 600) (hv : SlT p.right v w) (hl : 0 ≤ p.left ∧ p.left < (f.n : Int)) (hr : p.right.length ≤ 64) (hs : ∀ x ∈ p.right, 0 ≤ x.sym ∧ x.sym < (f.n : Int)) :
    Calls Tryd.prog 45 #[a.val f, .agg #[.int .i64 p.left, v, .int .i64 p.prec]] w fun e w' => e = .returned (.bool true) ∧ Below w.heap.size w w' := by
  have hS := fun W => isSymbol_any f a p.left W hp
  rw [show decide (0 ≤ p.left ∧ p.left < (f.n : Int)) = true from decide_eq_true hl] at hS
  have hC := fun W (hb : Below w.heap.size w W) B (hB : FBox f a B W) => anyItems 64 #[.pointer (some ⟨B, 0, none⟩)] (enters_of Tryd.func64 (by kernel_rfl) rfl) (fun _ => false) p.right v W (hv.next hb) (by omega)
    (fun W' x hx hb' => (soundProd1_any f a x B W' hp (hB.next hb') (hs x hx)).mono fun e w' ⟨h1, h2⟩ => ⟨h1, below_then hb' h2 hb'.size⟩)
  have hany : p.right.any (fun _ => false) = false := by simp
  rw [hany] at hC
  have X0 := FBox.new f a 25 w
  have B0 : Below w.heap.size w (w.alloc (fobj f a 25)) := (Below.refl _ _).alloc (Nat.le_refl _) _
  obtain ⟨ta, tc, na, nc, pa, pc⟩ := a
  obtain ⟨va, vc, rfl, _⟩ := hv
  obtain ⟨pl, pr, pp⟩ := p
  unfold fobj at X0 B0
  unfold FlA.val at hS ⊢
  simp only at *
  have HS : Hid (∀ W, Calls Tryd.prog 58 #[.agg #[Value.slice ta f.terms.length tc, Value.slice na f.nons.length nc, Value.slice pa f.prods.length pc], .int .i64 pl] W fun e w' => e = .returned (.bool true) ∧ Below W.heap.size W w') := hS
  have HC : Hid (∀ W, Below w.heap.size w W → ∀ B, FBox f ⟨ta, tc, na, nc, pa, pc⟩ B W → Calls Tryd.prog 48 #[.slice va pr.length vc, .func (.func 64) #[] #[.pointer (some ⟨B, 0, none⟩)]] W fun e w' => e = .returned (.bool false) ∧ Below W.heap.size W w') := hC
  clear hS hC hany hs
  have hr' : decide ((64 : Int) < pr.length) = false := by simp; omega
  have hr2 : ¬ (64 : Int) < pr.length := by omega
  have B1 : Below w.heap.size w ((w.alloc (Obj.cells #[Value.slice ta f.terms.length tc, Value.slice na f.nons.length nc, Value.slice pa f.prods.length pc] 25)).alloc (Obj.cells #[Value.int IntKind.i64 pl, Value.slice va pr.length vc, Value.int IntKind.i64 pp] 45)) := B0.alloc B0.size _
  have X1 : FBox f ⟨ta, tc, na, nc, pa, pc⟩ w.heap.size ((w.alloc (Obj.cells #[Value.slice ta f.terms.length tc, Value.slice na f.nons.length nc, Value.slice pa f.prods.length pc] 25)).alloc (Obj.cells #[Value.int IntKind.i64 pl, Value.slice va pr.length vc, Value.int IntKind.i64 pp] 45)) := X0.next ((Below.refl _ _).alloc (Nat.le_refl _) _)
  have P1 : ((w.alloc (Obj.cells #[Value.slice ta f.terms.length tc, Value.slice na f.nons.length nc, Value.slice pa f.prods.length pc] 25)).alloc (Obj.cells #[Value.int IntKind.i64 pl, Value.slice va pr.length vc, Value.int IntKind.i64 pp] 45)).cell? ⟨w.heap.size + 1, 1, none⟩ = some (.slice va pr.length vc) := by go_simp
  have Z1 : ((w.alloc (Obj.cells #[Value.slice ta f.terms.length tc, Value.slice na f.nons.length nc, Value.slice pa f.prods.length pc] 25)).alloc (Obj.cells #[Value.int IntKind.i64 pl, Value.slice va pr.length vc, Value.int IntKind.i64 pp] 45)).heap.size = w.heap.size + 2 := by simp
  clear X0 B0
  go_enter Tryd.func45, Tryd.ntmps45
  go_wp2_with fail
  generalize ((w.alloc (Obj.cells #[Value.slice ta f.terms.length tc, Value.slice na f.nons.length nc, Value.slice pa f.prods.length pc] 25)).alloc (Obj.cells #[Value.int IntKind.i64 pl, Value.slice va pr.length vc, Value.int IntKind.i64 pp] 45)) = W1 at *
  refine (HS.out _).mono ?_
  rintro e w1 ⟨rfl, hb1⟩
  have B2 := below_then B1 hb1 B1.size
  have X2 := X1.next hb1
  have P2 := (hb1.cell (p := ⟨w.heap.size + 1, 1, none⟩) (by show w.heap.size + 1 < _; omega)).trans P1
  have HC2 := HC.out w1 B2 w.heap.size X2
  clear HC HS X1 P1 B1 X2 hb1
  go_wp2_with fail
  refine HC2.mono ?_
  rintro e w2 ⟨rfl, hb2⟩
  have HB : Hid (Below w.heap.size w w2) := below_then B2 hb2 B2.size
  clear B2 hb2 HC2
  go_wp2_with fail
  go_ret
  exact ⟨rfl, HB.out⟩

set_option maxRecDepth 100000 in
set_option maxHeartbeats 800000 in
theorem sound1_any (f : Fl) (a : FlA) (p : Pr) (v : Value) (B : Nat) (w : World) (hn : f.n ≤ 600) (hB : FBox f a B w) (hv : SlT p.right v w) (hl : 0 ≤ p.left ∧ p.left < (f.n : Int)) (hr : p.right.length ≤ 64) (hs : ∀ x ∈ p.right, 0 ≤ x.sym ∧ x.sym < (f.n : Int)) :
    Calls Tryd.prog 44 #[.agg #[.int .i64 p.left, v, .int .i64 p.prec], .pointer (some ⟨B, 0, none⟩)] w fun e w' => e = .returned (.bool false) ∧ Below w.heap.size w w' := by
  have hS := fun W (hb : Below w.heap.size w W) => soundProd_any f a p v W hn (hv.next hb) hl hr hs
  obtain ⟨ta, tc, na, nc, pa, pc⟩ := a
  obtain ⟨va, vc, rfl, _⟩ := hv
  obtain ⟨pl, pr, pp⟩ := p
  obtain ⟨b0, b1, b2, b3⟩ := hB
  unfold FlA.val at hS
  simp only at *
  have HS : Hid (∀ W, Below w.heap.size w W → Calls Tryd.prog 45 #[.agg #[Value.slice ta f.terms.length tc, Value.slice na f.nons.length nc, Value.slice pa f.prods.length pc], .agg #[.int .i64 pl, .slice va pr.length vc, .int .i64 pp]] W fun e w' => e = .returned (.bool true) ∧ Below W.heap.size W w') := hS
  clear hS hs
  have B0 : Below w.heap.size w (w.alloc (Obj.cells #[Value.int .i64 pl, .slice va pr.length vc, .int .i64 pp] 45)) := (Below.refl _ _).alloc (Nat.le_refl _) _
  have hne : B ≠ w.heap.size := by omega
  go_enter Tryd.func44, Tryd.ntmps44
  go_wp2_with fail
  refine (HS.out _ B0).mono ?_
  rintro e w1 ⟨rfl, hb1⟩
  have HB : Hid (Below w.heap.size w w1) := below_then B0 hb1 B0.size
  clear B0 hb1
  go_wp2_with fail
  go_ret
  exact ⟨rfl, HB.out⟩

set_option maxRecDepth 100000 in
set_option maxHeartbeats 800000 in
theorem sound_any (f : Fl) (a : FlA) (w : World) (hf : FlAt f a w) (hp : FitP f) :
    Calls Tryd.prog 26 #[a.val f] w fun e w' => e = .returned (.bool true) ∧ Below w.heap.size w w' := by
  have hn : f.n ≤ 600 := hp.size
  have hS := fun W => symbols_any f a W hn
  have hC := fun W (hb : Below w.heap.size w W) B (hB : FBox f a B W) => noProds 44 #[.pointer (some ⟨B, 0, none⟩)] (enters_of Tryd.func44 (by kernel_rfl) rfl) f.prods a.pa a.pc W (hf.2.2.1.next hb) (by have := hp.prods; omega)
    (fun W' x v hx hv hb' => (sound1_any f a x v B W' hn (hB.next hb') hv (by have := hp.left x hx; unfold Fl.n; omega) (hp.right x hx) (fun y hy => by have := hp.sym x hx y hy; unfold Fl.n; omega)).mono fun e w' ⟨h1, h2⟩ => ⟨h1, below_then hb' h2 hb'.size⟩)
  have X0 := FBox.new f a 25 w
  have B0 : Below w.heap.size w (w.alloc (fobj f a 25)) := (Below.refl _ _).alloc (Nat.le_refl _) _
  have k1 := hp.nons
  have k2 := hp.prods
  clear hf hp
  obtain ⟨ta, tc, na, nc, pa, pc⟩ := a
  unfold fobj at X0 B0
  unfold FlA.val at hS ⊢
  simp only at *
  have HS : Hid (∀ W, Calls Tryd.prog 42 #[.agg #[Value.slice ta f.terms.length tc, Value.slice na f.nons.length nc, Value.slice pa f.prods.length pc]] W fun e w' => e = .returned (.int .i64 f.n) ∧ Below W.heap.size W w') := hS
  have HC : Hid (∀ W, Below w.heap.size w W → ∀ B, FBox f ⟨ta, tc, na, nc, pa, pc⟩ B W → Calls Tryd.prog 43 #[.slice pa f.prods.length pc, .func (.func 44) #[] #[.pointer (some ⟨B, 0, none⟩)]] W fun e w' => e = .returned (.bool false) ∧ Below W.heap.size W w') := hC
  clear hS hC
  have e1 : ((f.nons.length : Int) == 0) = false := beq_eq_false_iff_ne.2 (by omega)
  have e2 : decide ((600 : Int) < (f.n : Int)) = false := by simp; omega
  have e3 : decide ((400 : Int) < (f.prods.length : Int)) = false := by simp; omega
  go_enter Tryd.func26, Tryd.ntmps26
  go_wp2_with fail
  generalize (w.alloc (Obj.cells #[Value.slice ta f.terms.length tc, Value.slice na f.nons.length nc, Value.slice pa f.prods.length pc] 25)) = W1 at *
  refine (HS.out _).mono ?_
  rintro e w1 ⟨rfl, hb1⟩
  have B2 := below_then B0 hb1 B0.size
  have X2 := X0.next hb1
  have HC2 := HC.out w1 B2 w.heap.size X2
  obtain ⟨x0, x1, x2, x3⟩ := X2
  simp only at x1 x2 x3
  clear HC HS X0 B0 hb1
  go_wp2_with fail
  refine HC2.mono ?_
  rintro e w2 ⟨rfl, hb2⟩
  have HB : Hid (Below w.heap.size w w2) := below_then B2 hb2 B2.size
  clear B2 hb2 HC2 x0 x1 x2 x3
  go_wp2_with fail
  go_ret
  exact ⟨rfl, HB.out⟩
end Go.Proofs.YtckbfiigbckmeaaDoor
