/- Small facts on blocks of two and of three cells that lie in a world and go on lying there. -/
import Derived.Test.YtneailhanohdhaaAwake
namespace Go.Proofs.Ytneailhanohdhaa
open Go.RowKit

structure Has3 (N : Nat) (v0 v1 v2 : Value) (W : World) : Prop where
  lt : N < W.heap.size
  c0 : W.cell? ⟨N, 0, none⟩ = some v0
  c1 : W.cell? ⟨N, 1, none⟩ = some v1
  c2 : W.cell? ⟨N, 2, none⟩ = some v2
theorem Has3.next {N : Nat} {v0 v1 v2 : Value} {W W' : World} (h : Has3 N v0 v1 v2 W) (hb : Below W.heap.size W W') : Has3 N v0 v1 v2 W' :=
  ⟨Nat.lt_of_lt_of_le h.lt hb.size, (hb.cell (p := ⟨N, 0, none⟩) h.lt).trans h.c0, (hb.cell (p := ⟨N, 1, none⟩) h.lt).trans h.c1, (hb.cell (p := ⟨N, 2, none⟩) h.lt).trans h.c2⟩
theorem Has3.alloc {N : Nat} {v0 v1 v2 : Value} {W : World} (h : Has3 N v0 v1 v2 W) (o : Obj) : Has3 N v0 v1 v2 (W.alloc o) := h.next ((Below.refl _ _).alloc (Nat.le_refl _) _)
theorem Has3.new (W : World) (v0 v1 v2 : Value) (t : TypeId) : Has3 W.heap.size v0 v1 v2 (W.alloc (.cells #[v0, v1, v2] t)) :=
  ⟨by simp, by simp, by simp, by simp⟩
structure Has2 (N : Nat) (v0 v1 : Value) (W : World) : Prop where
  lt : N < W.heap.size
  c0 : W.cell? ⟨N, 0, none⟩ = some v0
  c1 : W.cell? ⟨N, 1, none⟩ = some v1
theorem Has2.next {N : Nat} {v0 v1 : Value} {W W' : World} (h : Has2 N v0 v1 W) (hb : Below W.heap.size W W') : Has2 N v0 v1 W' :=
  ⟨Nat.lt_of_lt_of_le h.lt hb.size, (hb.cell (p := ⟨N, 0, none⟩) h.lt).trans h.c0, (hb.cell (p := ⟨N, 1, none⟩) h.lt).trans h.c1⟩
theorem Has2.alloc {N : Nat} {v0 v1 : Value} {W : World} (h : Has2 N v0 v1 W) (o : Obj) : Has2 N v0 v1 (W.alloc o) := h.next ((Below.refl _ _).alloc (Nat.le_refl _) _)
theorem Has2.new (W : World) (v0 v1 : Value) (t : TypeId) : Has2 W.heap.size v0 v1 (W.alloc (.cells #[v0, v1] t)) :=
  ⟨by simp, by simp, by simp⟩
theorem below_then {n : Nat} {w W W' : World} (h : Below n w W) (hb : Below W.heap.size W W') (hn : n ≤ W.heap.size) : Below n w W' := h.trans (hb.mono hn)
end Go.Proofs.Ytneailhanohdhaa
