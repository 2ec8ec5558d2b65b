/- Operations and programs as they lie in a world; the table of the kinds; fitNumber, fitIns and the document's fitOne. -/
import Derived.Test.YtggehnnbgeffpaaDoorProg
import Derived.WalkKit
import Derived.WalkSpells
import Derived.WalkLawsBesides
import Derived.Deep.QuietTactic
import Derived.BigQuiet
namespace Go.Proofs.YtggehnnbgeffpaaDoor
open Go.RowKit

theorem ret_int {k : IntKind} {a b : Int} (h : a = b) : Ending.returned (.int k a) = .returned (.int k b) := by rw [h]
theorem ret_bool {a b : Bool} (h : a = b) : Ending.returned (.bool a) = .returned (.bool b) := by rw [h]
theorem below_then {n : Nat} {w W W' : World} (h : Below n w W) (hb : Below W.heap.size W W') (hn : n ≤ W.heap.size) : Below n w W' := h.trans (hb.mono hn)
theorem below_drewN {B : Nat} {a w : World} (h : Below B a w) (n : Nat) : Below B a (w.drewN n) := ⟨h.os, h.tape, h.output, h.size, h.block⟩

structure Ins where
  op : Int
  x : Int
  y : Int
  z : Int
deriving DecidableEq, Inhabited
def encI (i : Ins) : List Value := [.int .i64 i.op, .int .i64 i.x, .int .i64 i.y, .int .i64 i.z]
abbrev aggI (i : Ins) : Value := .agg #[.int .i64 i.op, .int .i64 i.x, .int .i64 i.y, .int .i64 i.z]
def InsOk (i : Ins) : Prop := (-9223372036854775808 ≤ i.op ∧ i.op ≤ 9223372036854775807) ∧ (-9223372036854775808 ≤ i.x ∧ i.x ≤ 9223372036854775807) ∧ (-9223372036854775808 ≤ i.y ∧ i.y ≤ 9223372036854775807) ∧ (-9223372036854775808 ≤ i.z ∧ i.z ≤ 9223372036854775807)

/-- The cells from the address on hold the operations. -/
def InsAt (es : List Ins) (ao : Option Addr) (W : World) : Prop :=
  ∀ (i : Nat) (r : Ins), es[i]? = some r → ∃ b off, ao = some ⟨b, off, none⟩ ∧ b < W.heap.size ∧ W.cell? ⟨b, off + i * 4, none⟩ = some (.int .i64 r.op) ∧ W.cell? ⟨b, off + i * 4 + 1, none⟩ = some (.int .i64 r.x) ∧ W.cell? ⟨b, off + i * 4 + 2, none⟩ = some (.int .i64 r.y) ∧ W.cell? ⟨b, off + i * 4 + 3, none⟩ = some (.int .i64 r.z)
theorem InsAt.next {es : List Ins} {ao : Option Addr} {W W' : World} (h : InsAt es ao W) (hb : Below W.heap.size W W') : InsAt es ao W' := fun i r hr => by
  obtain ⟨b, off, h0, h1, h2, h3, h4, h5⟩ := h i r hr
  exact ⟨b, off, h0, Nat.lt_of_lt_of_le h1 hb.size, (hb.cell (p := ⟨b, off + i * 4, none⟩) h1).trans h2, (hb.cell (p := ⟨b, off + i * 4 + 1, none⟩) h1).trans h3, (hb.cell (p := ⟨b, off + i * 4 + 2, none⟩) h1).trans h4, (hb.cell (p := ⟨b, off + i * 4 + 3, none⟩) h1).trans h5⟩
theorem InsAt.nil (ao : Option Addr) (W : World) : InsAt [] ao W := fun i r hr => by simp at hr
theorem InsAt.at {es : List Ins} {ao : Option Addr} {w W : World} (h : InsAt es ao w) (hb : Below w.heap.size w W) {j : Nat} (hj : j < es.length) :
    ∃ b off, ao = some ⟨b, off, none⟩ ∧ b < w.heap.size ∧ W.cell? ⟨b, off + j * 4, none⟩ = some (.int .i64 es[j].op) ∧ W.cell? ⟨b, off + j * 4 + 1, none⟩ = some (.int .i64 es[j].x) ∧ W.cell? ⟨b, off + j * 4 + 2, none⟩ = some (.int .i64 es[j].y) ∧ W.cell? ⟨b, off + j * 4 + 3, none⟩ = some (.int .i64 es[j].z) := by
  obtain ⟨b, off, h0, h1, h2, h3, h4, h5⟩ := h j es[j] (by simp [hj])
  exact ⟨b, off, h0, h1, (hb.cell (p := ⟨b, off + j * 4, none⟩) h1).trans h2, (hb.cell (p := ⟨b, off + j * 4 + 1, none⟩) h1).trans h3, (hb.cell (p := ⟨b, off + j * 4 + 2, none⟩) h1).trans h4, (hb.cell (p := ⟨b, off + j * 4 + 3, none⟩) h1).trans h5⟩

/-- The kinds: their words, and which of the numbers they use. -/
def wordL : Nat → List UInt8
  | 1 => [99, 104, 97, 114]
  | 2 => [105, 115]
  | 3 => [115, 101, 116]
  | 4 => [97, 100, 100]
  | 5 => [103, 111, 116, 111]
  | 6 => [121, 101, 115]
  | 7 => [110, 111]
  | _ => []
def useX : Nat → Bool
  | 1 | 2 | 3 | 4 => true
  | _ => false
def useY : Nat → Bool
  | 1 => true
  | _ => false
def useZ : Nat → Bool
  | 1 | 2 | 5 => true
  | _ => false
/-- The table as it lies in the program's variable. -/
structure FormAt (i : Nat) (w : World) : Prop where
  w0 : w.cell? ⟨0, i * 4, none⟩ = some (.string ⟨(wordL i).toArray⟩)
  x0 : w.cell? ⟨0, i * 4 + 1, none⟩ = some (.bool (useX i))
  y0 : w.cell? ⟨0, i * 4 + 2, none⟩ = some (.bool (useY i))
  z0 : w.cell? ⟨0, i * 4 + 3, none⟩ = some (.bool (useZ i))
structure FormsAt (w : World) : Prop where
  lt : 0 < w.heap.size
  all : ∀ i, i < 8 → FormAt i w
theorem FormsAt.next {w w' : World} (h : FormsAt w) (hb : Below w.heap.size w w') : FormsAt w' :=
  ⟨Nat.lt_of_lt_of_le h.lt hb.size, fun i hi => ⟨(hb.cell (p := ⟨0, i * 4, none⟩) h.lt).trans (h.all i hi).w0, (hb.cell (p := ⟨0, i * 4 + 1, none⟩) h.lt).trans (h.all i hi).x0, (hb.cell (p := ⟨0, i * 4 + 2, none⟩) h.lt).trans (h.all i hi).y0, (hb.cell (p := ⟨0, i * 4 + 3, none⟩) h.lt).trans (h.all i hi).z0⟩⟩
theorem FormsAt.nextB {n : Nat} {w w' : World} (h : FormsAt w) (hn : 0 < n) (hb : Below n w w') : FormsAt w' :=
  ⟨Nat.lt_of_lt_of_le h.lt hb.size, fun i hi => ⟨(hb.cell (p := ⟨0, i * 4, none⟩) hn).trans (h.all i hi).w0, (hb.cell (p := ⟨0, i * 4 + 1, none⟩) hn).trans (h.all i hi).x0, (hb.cell (p := ⟨0, i * 4 + 2, none⟩) hn).trans (h.all i hi).y0, (hb.cell (p := ⟨0, i * 4 + 3, none⟩) hn).trans (h.all i hi).z0⟩⟩

def numB (used : Bool) (n most : Int) : Bool := decide (0 ≤ n) && decide (n ≤ if used then most else 0)
def fitB (n : Int) (i : Ins) : Bool :=
  decide (1 ≤ i.op ∧ i.op ≤ 7) && !(useY i.op.toNat && decide (i.y < i.x)) && numB (useX i.op.toNat) i.x 255 && numB (useY i.op.toNat) i.y 255 && numB (useZ i.op.toNat) i.z n
def fitP (p : List Ins) : Bool := decide (1 ≤ p.length ∧ p.length ≤ 64) && p.all (fitB p.length)

set_option maxHeartbeats 400000 in
theorem fitNumber_any (u : Bool) (n m : Int) (w : World) : Calls Tryd.prog 44 #[.bool u, .int .i64 n, .int .i64 m] w fun e w' => e = .returned (.bool (numB u n m)) ∧ w' = w := by
  cases u
  all_goals
    go_enter Tryd.func44, Tryd.ntmps44
    go_wp2
  all_goals
    go_ret
    exact ⟨ret_bool (by simp_all [numB]; try omega), rfl⟩

set_option maxHeartbeats 2000000 in
theorem fitIns_any (i : Ins) (n : Int) (w : World) (hF : FormsAt w) : Calls Tryd.prog 31 #[aggI i, .int .i64 n] w fun e w' => e = .returned (.bool (fitB n i)) ∧ Below w.heap.size w w' := by
  obtain ⟨o, x, y, z⟩ := i
  by_cases ho : 1 ≤ o ∧ o ≤ 7
  · obtain ⟨k, rfl⟩ : ∃ k : Nat, o = k := ⟨o.toNat, by omega⟩
    obtain ⟨w0, x0, y0, z0⟩ := hF.all k (by omega)
    have hlt := hF.lt
    have e : fitB n ⟨k, x, y, z⟩ = (!(useY k && decide (y < x)) && numB (useX k) x 255 && numB (useY k) y 255 && numB (useZ k) z n) := by
      simp [fitB, ho.1, ho.2]
    rw [e]
    clear hF
    generalize useX k = ux at *
    generalize useY k = uy at *
    generalize useZ k = uz at *
    go_enter Tryd.func31, Tryd.ntmps31
    go_wp2_with (go_at_call 44; refine (fitNumber_any _ _ _ _).mono ?_; rintro e w' ⟨rfl, rfl⟩)
    all_goals
      go_ret
      exact ⟨ret_bool (by simp_all; try omega), ((Below.refl _ _).alloc (Nat.le_refl _) _).alloc (by simp) _⟩
  · have e : fitB n ⟨o, x, y, z⟩ = false := by simp [fitB, ho]
    rw [e]
    have ho2 : o < 1 ∨ (¬ o < 1 ∧ 8 ≤ o) := by omega
    rcases ho2 with h | ⟨h1, h2⟩
    all_goals
      go_enter Tryd.func31, Tryd.ntmps31
      go_wp2_with fail
    all_goals
      go_ret
      exact ⟨rfl, (Below.refl _ _).alloc (Nat.le_refl _) _⟩

set_option maxHeartbeats 400000 in
theorem byteNum_any (n : Int) (w : World) : Calls Tryd.prog 46 #[.int .i64 n] w fun e w' => e = .returned (.bool (numB true n 255)) ∧ w' = w := by
  go_enter Tryd.func46, Tryd.ntmps46
  go_wp2
  all_goals
    go_ret
    exact ⟨ret_bool (by simp_all [numB]; try omega), rfl⟩

set_option maxHeartbeats 2000000 in
theorem fitOne_any (i : Ins) (n : Int) (w : World) : Calls Tryd.prog 33 #[aggI i, .int .i64 n] w fun e w' => e = .returned (.bool (fitB n i)) ∧ Below w.heap.size w w' := by
  obtain ⟨o, x, y, z⟩ := i
  by_cases ho : 1 ≤ o ∧ o ≤ 7
  · have hk : o = 1 ∨ o = 2 ∨ o = 3 ∨ o = 4 ∨ o = 5 ∨ o = 6 ∨ o = 7 := by omega
    clear ho
    rcases hk with rfl | rfl | rfl | rfl | rfl | rfl | rfl
    all_goals
      go_enter Tryd.func33, Tryd.ntmps33
      go_wp2_with (go_at_call 46; refine (byteNum_any _ _).mono ?_; rintro e w' ⟨rfl, rfl⟩)
    all_goals
      go_ret
      refine ⟨ret_bool ?_, (Below.refl _ _).alloc (Nat.le_refl _) _⟩
      simp_all [fitB, useX, useY, useZ, numB]
      try (first | omega | (rw [Bool.eq_iff_iff]; simp; omega))
  · have e : fitB n ⟨o, x, y, z⟩ = false := by simp [fitB, ho]
    rw [e]
    have h1 : o ≠ 1 := by omega
    have h2 : o ≠ 2 := by omega
    have h3 : o ≠ 3 := by omega
    have h4 : o ≠ 4 := by omega
    have h5 : o ≠ 5 := by omega
    have h6 : o ≠ 6 := by omega
    have h7 : o ≠ 7 := by omega
    go_enter Tryd.func33, Tryd.ntmps33
    go_wp2_with fail
    all_goals
      go_ret
      exact ⟨rfl, (Below.refl _ _).alloc (Nat.le_refl _) _⟩
end Go.Proofs.YtggehnnbgeffpaaDoor
