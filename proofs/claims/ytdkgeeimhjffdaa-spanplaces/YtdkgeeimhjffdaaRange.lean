/- A range over an iterator that keeps a state of its own in cells of one type (here: marks), with a body that never leaves the loop: a law of my own over the model's steps. -/
import Derived.Test.YtdkgeeimhjffdaaMarks
import Derived.RangeFuncNested
import Derived.RangeFuncBound
import Derived.RangeFuncCalls
import Derived.RangeFuncLeaves
import Derived.Shelf.Abstract
import Derived.Shelf.RegionOpen
import Derived.WalkKit
import Derived.OwnWalkIn
import Derived.TacticsInMore
import Derived.LoopNIn
import Derived.LoopIn
namespace Go.Proofs.Ytdkgeeimhjffdaa
open Go.RowKit Go.Shelf

/-- Blocks that the caller of such an iterator does not look at: no cells, or cells of marks. -/
def Away (o : Obj) : Prop := o.isCells = false ∨ ∃ cs fr, o = .cells cs 65 fr
/-- What is said abides new blocks, and the turn of one that lies from B on and is away. -/
def Abide {β : Type} (B : Nat) (I : β → World → Prop) : Prop :=
  ∀ s W W' row, I s W → W.grownBy W' row → (∀ r, row = some r → B ≤ r ∧ ∃ o : Obj, W.heap[r]? = some o ∧ Away o) → I s W'
/-- The blocks of marks lie as they lay. -/
def Kp65 (A B : World) : Prop := ∀ (k : Nat) (cs : Array Value) (fr : Nat × Nat), A.heap[k]? = some (Obj.cells cs 65 fr) → B.heap[k]? = some (Obj.cells cs 65 fr)
theorem Kp65.refl (A : World) : Kp65 A A := fun _ _ _ h => h
theorem Kp65.trans {A B C : World} (h : Kp65 A B) (k : Kp65 B C) : Kp65 A C := fun i cs fr hi => k i cs fr (h i cs fr hi)
theorem Kp65.grown {A B : World} {row : Option Nat} (hg : A.grownBy B row) (hr : ∀ r, row = some r → ∃ o : Obj, A.heap[r]? = some o ∧ ∀ cs fr, o ≠ .cells cs 65 fr) : Kp65 A B := fun k cs fr hk => by
  refine (hg.block k (Array.getElem?_eq_some_iff.1 hk).1 fun e => ?_).trans hk
  obtain ⟨o, ho, hne⟩ := hr k e.symm
  rw [hk] at ho
  cases ho
  exact hne _ _ rfl
theorem Kp65.alloc (A : World) (o : Obj) : Kp65 A (A.alloc o) := .grown (World.grownBy_alloc A o none) (fun _ e => by cases e)
theorem Kp65.putObj {A : World} {l : Nat} {o : Obj} (h : A.heap[l]? = some o) (hc : o.isCells = false) (o' : Obj) : Kp65 A (A.putObj l o') :=
  .grown (grownBy_putObj' A l o') (fun r e => by cases e; exact ⟨o, h, fun cs fr e => by rw [e] at hc; cases hc⟩)

/-- An iterator that hands all of it out to a body that never says no. -/
def Gives {α : Type} (n : Nat) (P : Program) (g : Nat) (lb : Array Value) (encs : α → Array Value) (S : List α → Prop) (N : Nat) (w : World) : Prop :=
  ∀ (l : Nat) (J : List α → World → Prop) (W : World), Below w.heap.size w W → Abide W.heap.size J →
    (∀ pre x W1, J pre W1 → pre.length < N → YieldAt Fence.wide (n - 1) P l (encs x) W1 fun e W' => e = .returned (.bool true) ∧ J (pre ++ [x]) W' ∧ Kp65 W1 W') →
    J [] W → CallsIn Fence.wide n P g (#[.func (.yield l) #[] #[]] ++ lb) W fun e W' => (∃ v, e = .returned v) ∧ ∃ xs, S xs ∧ J xs W'

theorem wpIn_range_all {n : Nat} {P : Program} {α : Type} {g : Operand} {ps : Array Tmp} {assign body : Code} {Q : Exit → Act → World → Prop} {a : Act} {w : World} (h1 : 1 ≤ n)
    {gf : Nat} {lb : Array Value} (hg : a.eval g = .func (.func gf) #[] lb) (eg : ∀ args w, (callFunc gf args).run P w = .ok (.enter gf args) w)
    {encs : α → Array Value} {S : List α → Prop} {N : Nat} {w0 : World} (hseq : Gives (n - 1) P gf lb encs S N w0) (hb0 : Below w0.heap.size w0 w) (hps : ∀ x, (encs x).size = ps.size)
    (I : List α → World → Prop) (hI : Abide w.heap.size I) (h0 : I [] w) (Ax : α → Act → World → Prop) (hAx : ∀ x a', Abide w.heap.size (fun (_ : Unit) W => Ax x a' W))
    (hassign : ∀ (l : Nat) (pre : List α) (x : α) (W : World) (K : Act → World → Prop), I pre W → (∀ a' W', KeepsFrom w.heap.size W W' → Kp65 W W' → I pre W' → Ax x a' W' → K a' W') →
      assign.wpIn (Fence.wide.inRound l) (n - 1 - 1) P (Exit.then K (fun _ _ _ => False)) { tmps := (ps.zip (encs x)).foldl (fun t (p, v) => t.setIfInBounds p v) a.tmps, defers := [] } W)
    (hbody : ∀ (l : Nat) (pre : List α) (x : α) (a' : Act) (W : World), I pre W → Ax x a' W → pre.length < N →
      body.wpIn (Fence.wide.inRound l) (n - 1 - 1) P (fun e _ W' => e = .normal ∧ KeepsFrom w.heap.size W W' ∧ Kp65 W W' ∧ I (pre ++ [x]) W') a' W)
    (hdone : ∀ (D : Nat) (xs : List α) (W : World), w.heap.size ≤ D → S xs → I xs W → W.heap[D]? = some (.deferred (some [])) → Q .normal { a with defers := { target := .collected D, args := #[] } :: a.defers } W) :
    (Code.rangeFunc g ps assign body).wpIn Fence.wide n P Q a w := by
  refine wpIn_rangeFunc fun fn hfn => ?_
  -- the loop's record, in its two states
  let rd : Loop := { state := .ready, pending := none, fn := fn, tmps := a.tmps, params := ps, assign := assign, body := body, defers := w.heap.size }
  let bs : Loop := { rd with state := .busy }
  have hen : (Instr.enterLoop fn a.tmps ps assign body Fence.wide.round).run P w = .ok (w.heap.size + 1, [{ target := .collected w.heap.size, args := #[] }]) ((w.alloc (.deferred (some []))).alloc (.loop rd)) := run_enterLoop_outer fn a.tmps ps assign body
  have e1 : ((w.alloc (.deferred (some []))).alloc (.loop rd)).heap[w.heap.size + 1]? = some (.loop rd) := by
    have := World.alloc_heap_new (w.alloc (.deferred (some []))) (.loop rd)
    rwa [World.size_alloc] at this
  have e0 : ((w.alloc (.deferred (some []))).alloc (.loop rd)).heap[w.heap.size]? = some (.deferred (some [])) :=
    (Below.heap_alloc _ _ _ (by simp)).trans (World.alloc_heap_new w _)
  have eI : I [] ((w.alloc (.deferred (some []))).alloc (.loop rd)) :=
    hI _ _ _ none (hI _ _ _ none h0 (World.grownBy_alloc w _ none) (fun _ e => by cases e)) (World.grownBy_alloc _ _ none) (fun _ e => by cases e)
  have eB : Below w0.heap.size w0 ((w.alloc (.deferred (some []))).alloc (.loop rd)) := hb0.trans ((((Below.refl _ w).alloc (Nat.le_refl _) _).alloc (by simp) _).mono hb0.size)
  have eS : w.heap.size + 2 = ((w.alloc (.deferred (some []))).alloc (.loop rd)).heap.size := by simp
  generalize (w.alloc (.deferred (some []))).alloc (.loop rd) = W1 at *
  refine ⟨w.heap.size + 1, _, W1, { target := .fn (.func gf) lb, args := #[.func (.yield (w.heap.size + 1)) #[] #[]] }, W1, gf, #[.func (.yield (w.heap.size + 1)) #[] #[]] ++ lb, W1, hen, ?_, fun _ _ => trivial, ?_, fun _ => h1, ?_⟩
  · simp only [resolve, hg]
    simp [go_sem]
  · simp [invoke, go_sem, eg]
  -- what lies between two rounds
  refine (hseq (w.heap.size + 1) (fun pre W => I pre W ∧ W.heap[w.heap.size + 1]? = some (.loop rd) ∧ W.heap[w.heap.size]? = some (.deferred (some []))) W1 eB ?_ ?_ ⟨eI, e1, e0⟩).mono ?_
  · rintro s A B row ⟨k0, k1, k2⟩ hgr hr
    refine ⟨hI s A B row k0 hgr fun r e => ⟨by have := (hr r e).1; omega, (hr r e).2⟩, ?_, ?_⟩
    · exact (hgr.block _ (Array.getElem?_eq_some_iff.1 k1).1 fun e => by have := (hr _ e.symm).1; omega).trans k1
    · exact (hgr.block _ (Array.getElem?_eq_some_iff.1 k2).1 fun e => by have := (hr _ e.symm).1; omega).trans k2
  · -- a round
    rintro pre x W ⟨k0, k1, k2⟩ hlen
    have hy : (Instr.yield (w.heap.size + 1) (encs x)).run P W = _ := run_yield k1 (hps x)
    refine ⟨fn, _, assign, body, hy, roundIn_of_wpIn hfn (hassign _ pre x W _ k0 ?_)⟩
    intro a' Wa f1 f2 f3 f4
    have m1 := f1.same _ _ (by omega) k1 rfl
    have m2 := f1.same _ _ (Nat.le_refl _) k2 rfl
    have mlt := (Array.getElem?_eq_some_iff.1 m1).1
    have u1 : (Wa.putObj (w.heap.size + 1) (.loop bs)).heap[w.heap.size + 1]? = some (.loop bs) := World.putObj_heap_same mlt
    have u2 : (Wa.putObj (w.heap.size + 1) (.loop bs)).heap[w.heap.size]? = some (.deferred (some [])) := (World.putObj_heap_other (by omega)).trans m2
    have turn : ∀ r : Nat, some (w.heap.size + 1) = some r → w.heap.size ≤ r ∧ ∃ o : Obj, Wa.heap[r]? = some o ∧ Away o := fun r e => by
      cases e
      exact ⟨by omega, _, m1, .inl rfl⟩
    refine ⟨_, run_beginRound m1 rfl, ?_⟩
    refine wpIn_mono (hbody _ pre x a' _ (hI _ _ _ _ f3 (grownBy_putObj' _ _ _) turn) (hAx x a' () _ _ _ f4 (grownBy_putObj' _ _ _) turn) hlen) ?_
    rintro e a3 W3 ⟨rfl, p1, p2, p3⟩
    have v1 := p1.same _ _ (by omega) u1 rfl
    have v2 := p1.same _ _ (Nat.le_refl _) u2 rfl
    refine ⟨_, _, run_endRound none v1, rfl, ⟨hI _ _ _ _ p3 (grownBy_putObj' _ _ _) (fun r e => by cases e; exact ⟨by omega, _, v1, .inl rfl⟩), ?_, ?_⟩, ?_⟩
    · exact World.putObj_heap_same (Array.getElem?_eq_some_iff.1 v1).1
    · exact (World.putObj_heap_other (by omega)).trans v2
    · exact ((f2.trans (Kp65.putObj m1 rfl _)).trans p2).trans (Kp65.putObj v1 rfl _)
  · -- behind it
    rintro e W2 ⟨⟨v, rfl⟩, xs, hS, k0, k1, k2⟩
    refine ⟨none, _, run_endLoop k1 (by simp [rd]), ?_⟩
    exact hdone _ xs _ (Nat.le_refl _) hS (hI _ _ _ _ k0 (grownBy_putObj' _ _ _) (fun r e => by cases e; exact ⟨by omega, _, k1, .inl rfl⟩)) ((World.putObj_heap_other (by omega)).trans k2)
end Go.Proofs.Ytdkgeeimhjffdaa
