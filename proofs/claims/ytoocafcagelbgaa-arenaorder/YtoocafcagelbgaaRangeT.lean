/- A range over an iterator that turns blocks of its own between rounds: what the body says of the world does not hang on them; the body may return. -/
import Derived.Test.YtoocafcagelbgaaPRefs
import Derived.RangeFuncNested
import Derived.RangeFuncBound
import Derived.RangeFuncCalls
import Derived.RangeFuncLeaves
import Derived.Shelf.Abstract
import Derived.Shelf.RegionOpen
import Derived.OwnWalkIn
import Derived.TacticsInMore
import Derived.LoopNIn
import Derived.LoopIn
namespace Go.Proofs.Ytoocafcagelbgaa
open Go.RowKit Go.Shelf

theorem But.same {D : Nat → Prop} {a b : World} (h : But D a b) {k : Nat} {o : Obj} (hk : a.heap[k]? = some o) (hd : ¬ D k) : b.heap[k]? = some o := (h.block k (Array.getElem?_eq_some_iff.1 hk).1 hd).trans hk
theorem But.putObj (W : World) (l : Nat) (o : Obj) : But (fun k => k = l) W (W.putObj l o) := by
  have hg := grownBy_putObj' W l o
  exact ⟨hg.os, hg.tape, hg.output, hg.size, fun k hk hd => hg.block k hk (fun e => hd (by cases e; rfl))⟩

/-- What is said of a world and of blocks that belong to the iterator: it does not hang on them. -/
structure KeepJ {α : Type} (Fx : World → Prop) (J : (Nat → Prop) → List α → World → Prop) (St : (Nat → Prop) → World → Prop) : Prop where
  step : ∀ A pre W W', J A pre W → But A W W' → J (fun k => A k ∨ (W.heap.size ≤ k ∧ k < W'.heap.size)) pre W'
  old : ∀ A pre W k, J A pre W → A k → k < W.heap.size
  less : ∀ A B pre W, J A pre W → (∀ k, B k → A k) → J B pre W
  fx : ∀ A pre W, J A pre W → Fx W
  sless : ∀ A B W, St A W → (∀ k, B k → A k) → St B W
  sturn : ∀ A W W', St A W → But A W W' → St A W'
theorem KeepJ.turn {α : Type} {Fx : World → Prop} {J : (Nat → Prop) → List α → World → Prop} {St : (Nat → Prop) → World → Prop} (h : KeepJ Fx J St) : ∀ A pre W W', J A pre W → But A W W' → J A pre W' := fun A pre W W' h1 h2 => h.less _ _ _ _ (h.step A pre W W' h1 h2) (fun _ hk => .inl hk)
theorem KeepJ.new {α : Type} {Fx : World → Prop} {J : (Nat → Prop) → List α → World → Prop} {St : (Nat → Prop) → World → Prop} (h : KeepJ Fx J St) : ∀ A pre W W', J A pre W → Below W.heap.size W W' → J (fun k => A k ∨ (W.heap.size ≤ k ∧ k < W'.heap.size)) pre W' := fun A pre W W' h1 h2 => h.step A pre W W' h1 (But.of_next h2)
structure FeedsT {α : Type} (n : Nat) (P : Program) (l : Nat) (encs : α → Array Value) (Ok : (Nat → Prop) → α → World → Prop) (Pf : List α → Prop) (Fx : World → Prop) (J : (Nat → Prop) → List α → World → Prop) (St : (Nat → Prop) → World → Prop) : Prop extends KeepJ Fx J St where
  yield : ∀ A pre x W1, J A pre W1 → Ok A x W1 → Pf (pre ++ [x]) → YieldAt Fence.wide n P l (encs x) W1 fun e W' => (e = .returned (.bool true) ∧ J A (pre ++ [x]) W' ∧ But (fun k => ¬ A k) W1 W') ∨ (e = .returned (.bool false) ∧ St A W' ∧ But (fun k => ¬ A k) W1 W')
def GivesT {α : Type} (n : Nat) (P : Program) (g : Nat) (lb : Array Value) (encs : α → Array Value) (S : List α → World → Prop) (Ok : (Nat → Prop) → α → World → Prop) (Pf : List α → Prop) (A0 : Nat → Prop) (Fx : World → Prop) (W : World) : Prop :=
  ∀ (l : Nat) (J : (Nat → Prop) → List α → World → Prop) (St : (Nat → Prop) → World → Prop), FeedsT (n - 1) P l encs Ok Pf Fx J St → J A0 [] W →
    CallsIn Fence.wide n P g (#[.func (.yield l) #[] #[]] ++ lb) W fun e W' => (∃ v, e = .returned v) ∧ ((∃ xs, S xs W' ∧ J A0 xs W') ∨ St A0 W')

theorem wpIn_range_T {n : Nat} {P : Program} {α : Type} {g : Operand} {ps : Array Tmp} {assign body : Code} {Q : Exit → Act → World → Prop} {a : Act} {w : World} (h1 : 1 ≤ n)
    {gf : Nat} {lb : Array Value} (hg : a.eval g = .func (.func gf) #[] lb) (eg : ∀ args w, (callFunc gf args).run P w = .ok (.enter gf args) w)
    {encs : α → Array Value} {S : List α → World → Prop} {Ok : (Nat → Prop) → α → World → Prop} {Pf : List α → Prop} {A0 : Nat → Prop} {Fx : World → Prop} (hps : ∀ x, (encs x).size = ps.size)
    (hA0 : ∀ k, A0 k → k < w.heap.size)
    (hseq : ∀ W, Below w.heap.size w W → GivesT (n - 1) P gf lb encs S Ok Pf A0 Fx W)
    (hok : ∀ A x W W' k, Ok A x W → ¬ A k → But (fun j => j = k) W W' → Ok A x W')
    (hS : ∀ xs W W', S xs W → But (fun k => k = w.heap.size + 1) W W' → S xs W')
    (I : (Nat → Prop) → List α → World → Prop) (Ix : (Nat → Prop) → World → Prop) (hI : KeepJ Fx I Ix)
    (h0 : ∀ W, Below w.heap.size w W → W.heap.size = w.heap.size + 2 → I (fun k => A0 k ∨ k = w.heap.size ∨ k = w.heap.size + 1) [] W)
    (Ax : α → Act → Prop)
    (hassign : ∀ (l : Nat) (x : α) (W : World) (K : Act → World → Prop), (∀ a', Ax x a' → K a' W) →
      assign.wpIn (Fence.wide.inRound l) (n - 1 - 1) P (Exit.then K (fun _ _ _ => False)) { tmps := (ps.zip (encs x)).foldl (fun t (p, v) => t.setIfInBounds p v) a.tmps, defers := [] } W)
    (hbody : ∀ (l : Nat) (A : Nat → Prop) (pre : List α) (x : α) (a' : Act) (W : World), I (fun k => A k ∨ k = w.heap.size ∨ k = w.heap.size + 1) pre W → Ax x a' → Ok A x W → Pf (pre ++ [x]) →
      body.wpIn (Fence.wide.inRound l) (n - 1 - 1) P (fun e _ W' => (e = .normal ∧ I (fun k => A k ∨ k = w.heap.size ∨ k = w.heap.size + 1) (pre ++ [x]) W' ∧ But (fun k => ¬ (A k ∨ k = w.heap.size ∨ k = w.heap.size + 1)) W W') ∨ (e = .ret ∧ Ix (fun k => A k ∨ k = w.heap.size ∨ k = w.heap.size + 1) W' ∧ But (fun k => ¬ (A k ∨ k = w.heap.size ∨ k = w.heap.size + 1)) W W')) a' W)
    (hdone : ∀ (xs : List α) (W : World), S xs W → I (fun k => A0 k ∨ k = w.heap.size ∨ k = w.heap.size + 1) xs W → W.heap[w.heap.size]? = some (.deferred (some [])) → Q .normal { a with defers := { target := .collected w.heap.size, args := #[] } :: a.defers } W)
    (hleft : ∀ (W : World), Ix (fun k => A0 k ∨ k = w.heap.size ∨ k = w.heap.size + 1) W → W.heap[w.heap.size]? = some (.deferred (some [])) → Q .ret { a with defers := { target := .collected w.heap.size, args := #[] } :: a.defers } W) :
    (Code.rangeFunc g ps assign body).wpIn Fence.wide n P Q a w := by
  refine wpIn_rangeFunc fun fn hfn => ?_
  let rd : Loop := { state := .ready, pending := none, fn := fn, tmps := a.tmps, params := ps, assign := assign, body := body, defers := w.heap.size }
  let bs : Loop := { rd with state := .busy }
  let dn : Loop := { rd with state := .done, pending := some .ret }
  have hen : (Instr.enterLoop fn a.tmps ps assign body Fence.wide.round).run P w = .ok (w.heap.size + 1, [{ target := .collected w.heap.size, args := #[] }]) ((w.alloc (.deferred (some []))).alloc (.loop rd)) := run_enterLoop_outer fn a.tmps ps assign body
  have e1 : ((w.alloc (.deferred (some []))).alloc (.loop rd)).heap[w.heap.size + 1]? = some (.loop rd) := by
    have := World.alloc_heap_new (w.alloc (.deferred (some []))) (.loop rd)
    rwa [World.size_alloc] at this
  have e0 : ((w.alloc (.deferred (some []))).alloc (.loop rd)).heap[w.heap.size]? = some (.deferred (some [])) :=
    (Below.heap_alloc _ _ _ (by simp)).trans (World.alloc_heap_new w _)
  have eB : Below w.heap.size w ((w.alloc (.deferred (some []))).alloc (.loop rd)) := ((Below.refl _ w).alloc (Nat.le_refl _) _).alloc (by simp) _
  have eS : ((w.alloc (.deferred (some []))).alloc (.loop rd)).heap.size = w.heap.size + 2 := by simp
  generalize (w.alloc (.deferred (some []))).alloc (.loop rd) = W1 at *
  refine ⟨w.heap.size + 1, _, W1, { target := .fn (.func gf) lb, args := #[.func (.yield (w.heap.size + 1)) #[] #[]] }, W1, gf, #[.func (.yield (w.heap.size + 1)) #[] #[]] ++ lb, W1, hen, ?_, fun _ _ => trivial, ?_, fun _ => h1, ?_⟩
  · simp only [resolve, hg]
    simp [go_sem]
  · simp [invoke, go_sem, eg]
  refine (hseq W1 eB (w.heap.size + 1) (fun A pre W => I (fun k => A k ∨ k = w.heap.size ∨ k = w.heap.size + 1) pre W ∧ W.heap[w.heap.size + 1]? = some (.loop rd) ∧ W.heap[w.heap.size]? = some (.deferred (some [])) ∧ ¬ A w.heap.size ∧ ¬ A (w.heap.size + 1))
    (fun A W => W.heap[w.heap.size + 1]? = some (.loop dn) ∧ W.heap[w.heap.size]? = some (.deferred (some [])) ∧ Ix (fun k => A k ∨ k = w.heap.size ∨ k = w.heap.size + 1) W ∧ ¬ A w.heap.size ∧ ¬ A (w.heap.size + 1)) ⟨⟨?_, ?_, ?_, ?_, ?_, ?_⟩, ?_⟩ ?_).mono ?_
  · rintro A pre W W' ⟨k0, k1, k2, k3, k4⟩ hb
    have h2 := hI.step _ _ _ _ k0 (hb.mono (fun k _ h => .inl h))
    have hk1 := (Array.getElem?_eq_some_iff.1 k1).1
    refine ⟨hI.less _ _ _ _ h2 (fun k hk => ?_), hb.same k1 k4, hb.same k2 k3, fun h => h.elim k3 (fun h => by omega), fun h => h.elim k4 (fun h => by omega)⟩
    rcases hk with (hk | hk) | hk
    · exact .inl (.inl hk)
    · exact .inr hk
    · exact .inl (.inr hk)
  · rintro A pre W k ⟨k0, _⟩ hk
    exact hI.old _ _ _ k k0 (.inl hk)
  · rintro A B pre W ⟨k0, k1, k2, k3, k4⟩ hk
    exact ⟨hI.less _ _ _ _ k0 (fun k h => h.imp (hk k) id), k1, k2, fun h => k3 (hk _ h), fun h => k4 (hk _ h)⟩
  · rintro A pre W ⟨k0, _⟩
    exact hI.fx _ _ _ k0
  · rintro A B W ⟨k1, k2, k0, k3, k4⟩ hk
    exact ⟨k1, k2, hI.sless _ _ _ k0 (fun k h => h.imp (hk k) id), fun h => k3 (hk _ h), fun h => k4 (hk _ h)⟩
  · rintro A W W' ⟨k1, k2, k0, k3, k4⟩ hb
    exact ⟨hb.same k1 k4, hb.same k2 k3, hI.sturn _ _ _ k0 (hb.mono (fun k _ h => .inl h)), k3, k4⟩
  · -- a round
    rintro A pre x W ⟨k0, k1, k2, k3, k4⟩ hOk hPf
    have hy : (Instr.yield (w.heap.size + 1) (encs x)).run P W = _ := run_yield k1 (hps x)
    refine ⟨fn, _, assign, body, hy, roundIn_of_wpIn hfn (hassign _ x W _ ?_)⟩
    intro a' f4
    have mlt := (Array.getElem?_eq_some_iff.1 k1).1
    have u1 : (W.putObj (w.heap.size + 1) (.loop bs)).heap[w.heap.size + 1]? = some (.loop bs) := World.putObj_heap_same mlt
    have u2 : (W.putObj (w.heap.size + 1) (.loop bs)).heap[w.heap.size]? = some (.deferred (some [])) := (World.putObj_heap_other (by omega)).trans k2
    refine ⟨_, run_beginRound k1 rfl, ?_⟩
    have q1 := But.putObj W (w.heap.size + 1) (.loop bs)
    refine wpIn_mono (hbody _ A pre x a' _ (hI.turn _ _ _ _ k0 (q1.mono (fun k _ h => .inr (.inr h)))) f4 (hok _ _ _ _ _ hOk k4 q1) hPf) ?_
    have key : ∀ (W3 : World) (r : Loop), But (fun k => ¬ (A k ∨ k = w.heap.size ∨ k = w.heap.size + 1)) (W.putObj (w.heap.size + 1) (.loop bs)) W3 → But (fun k => ¬ A k) W (W3.putObj (w.heap.size + 1) (.loop r)) := fun W3 r p1 => by
      have q2 := But.putObj W3 (w.heap.size + 1) (.loop r)
      refine ⟨q2.os.trans (p1.os.trans q1.os), q2.tape.trans (p1.tape.trans q1.tape), q2.output.trans (p1.output.trans q1.output), Nat.le_trans q1.size (Nat.le_trans p1.size q2.size), fun k hk hd => ?_⟩
      have hA : A k := Classical.byContradiction hd
      have hkD : ¬ k = w.heap.size + 1 := fun e => k4 (e ▸ hA)
      have r1 := q1.block k hk hkD
      have r2 := p1.block k (Nat.lt_of_lt_of_le hk q1.size) (fun h => h (.inl hA))
      have r3 := q2.block k (Nat.lt_of_lt_of_le hk (Nat.le_trans q1.size p1.size)) hkD
      exact r3.trans (r2.trans r1)
    rintro e a3 W3 (⟨rfl, p3, p1⟩ | ⟨rfl, p3, p1⟩)
    · have v1 := p1.same u1 (fun h => h (.inr (.inr rfl)))
      have v2 := p1.same u2 (fun h => h (.inr (.inl rfl)))
      have q2 := But.putObj W3 (w.heap.size + 1) (.loop rd)
      refine ⟨_, _, run_endRound none v1, .inl ⟨rfl, ⟨hI.turn _ _ _ _ p3 (q2.mono (fun k _ h => .inr (.inr h))), ?_, ?_, k3, k4⟩, key W3 rd p1⟩⟩
      · exact World.putObj_heap_same (Array.getElem?_eq_some_iff.1 v1).1
      · exact (World.putObj_heap_other (by omega)).trans v2
    · have v1 := p1.same u1 (fun h => h (.inr (.inr rfl)))
      have v2 := p1.same u2 (fun h => h (.inr (.inl rfl)))
      have q2 := But.putObj W3 (w.heap.size + 1) (.loop dn)
      refine ⟨_, _, run_endRound (some .ret) v1, .inr ⟨rfl, ⟨?_, ?_, hI.sturn _ _ _ p3 (q2.mono (fun k _ h => .inr (.inr h))), k3, k4⟩, key W3 dn p1⟩⟩
      · exact World.putObj_heap_same (Array.getElem?_eq_some_iff.1 v1).1
      · exact (World.putObj_heap_other (by omega)).trans v2
  · exact ⟨h0 W1 eB eS, e1, e0, fun h => by have := hA0 _ h; omega, fun h => by have := hA0 _ h; omega⟩
  · -- behind it
    rintro e W2 ⟨⟨v, rfl⟩, ⟨xs, hS2, k0, k1, k2, k3, k4⟩ | ⟨k1, k2, k0, k3, k4⟩⟩
    · refine ⟨none, _, run_endLoop k1 (by simp [rd]), ?_⟩
      have q3 := But.putObj W2 (w.heap.size + 1) (.loop { rd with state := .exhausted })
      exact hdone xs _ (hS _ _ _ hS2 q3) (hI.turn _ _ _ _ k0 (q3.mono (fun k _ h => .inr (.inr h)))) ((World.putObj_heap_other (by omega)).trans k2)
    · refine ⟨some .ret, _, run_endLoop k1 (by simp [dn]), ?_⟩
      have q3 := But.putObj W2 (w.heap.size + 1) (.loop { dn with state := .exhausted })
      exact wpIn_ret (hleft _ (hI.sturn _ _ _ k0 (q3.mono (fun k _ h => .inr (.inr h)))) ((World.putObj_heap_other (by omega)).trans k2))
theorem yield_any {m m' : Nat} {P : Program} {l : Nat} {args : Array Value} {W : World} {R : Ending → World → Prop} (h : YieldAt Fence.wide m P l args W R) : YieldAt Fence.wide m' P l args W R := by
  obtain ⟨fn, tmps, assign, body, hy, hfn, h2⟩ := h
  exact ⟨fn, tmps, assign, body, hy, hfn, fun c cs _ => h2 c cs (fun d hd => by cases hd)⟩
end Go.Proofs.Ytoocafcagelbgaa
