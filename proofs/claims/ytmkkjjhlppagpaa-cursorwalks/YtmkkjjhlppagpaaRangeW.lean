/- A range over an iterator that may turn blocks ahead of its first round; what is said of what it hands out speaks of the world; the body may return. -/
import Derived.Test.YtmkkjjhlppagpaaRangeP
namespace Go.Proofs.Ytmkkjjhlppagpaa
open Go.RowKit Go.Shelf

structure FeedsW {α : Type} (n : Nat) (P : Program) (l : Nat) (encs : α → Array Value) (Ok : (Nat → Prop) → List α → α → World → Prop) (Fx : World → Prop) (J : (Nat → Prop) → List α → World → Prop) (St : World → Prop) : Prop extends Leaving J where
  fx : ∀ A pre W, J A pre W → Fx W
  yield : ∀ A pre x W1, J A pre W1 → Ok A pre x W1 → YieldAt Fence.wide n P l (encs x) W1 fun e W' => (e = .returned (.bool true) ∧ J A (pre ++ [x]) W' ∧ But (fun k => ¬ A k) W1 W') ∨ (e = .returned (.bool false) ∧ St W')
def GivesW {α : Type} (n : Nat) (P : Program) (g : Nat) (lb : Array Value) (encs : α → Array Value) (Pre : World → World → Prop) (S : List α → Prop) (Ok : (Nat → Prop) → List α → α → World → Prop) (A0 : Nat → Prop) (Fx : World → Prop) (W : World) : Prop :=
  ∀ (l : Nat) (J : (Nat → Prop) → List α → World → Prop) (St : World → Prop), FeedsW (n - 1) P l encs Ok Fx J St → (∀ W', Pre W W' → J A0 [] W') →
    CallsIn Fence.wide n P g (#[.func (.yield l) #[] #[]] ++ lb) W fun e W' => (∃ v, e = .returned v) ∧ ((∃ xs, S xs ∧ J A0 xs W') ∨ St W')

theorem wpIn_range_W {n : Nat} {P : Program} {α : Type} {g : Operand} {ps : Array Tmp} {assign body : Code} {Q : Exit → Act → World → Prop} {a : Act} {w : World} (h1 : 1 ≤ n)
    {gf : Nat} {lb : Array Value} (hg : a.eval g = .func (.func gf) #[] lb) (eg : ∀ args w, (callFunc gf args).run P w = .ok (.enter gf args) w)
    {encs : α → Array Value} {Pre : World → World → Prop} {S : List α → Prop} {Ok : (Nat → Prop) → List α → α → World → Prop} {A0 : Nat → Prop} {Fx : World → Prop} (hps : ∀ x, (encs x).size = ps.size)
    (hseq : ∀ W, Below w.heap.size w W → GivesW (n - 1) P gf lb encs Pre S Ok A0 Fx W)
    (I : (Nat → Prop) → List α → World → Prop) (hI : Leaving I) (hfx : ∀ A pre W, I A pre W → Fx W)
    (hturn : ∀ A pre W W', I A pre W → But (fun k => k = w.heap.size + 1) W W' → A (w.heap.size + 1) → (∃ r, W.heap[w.heap.size + 1]? = some (.loop r)) → I A pre W')
    (hok : ∀ A pre x W W', Ok A pre x W → But (fun k => k = w.heap.size + 1) W W' → (∃ r, W.heap[w.heap.size + 1]? = some (.loop r)) → Ok A pre x W')
    (h0 : ∀ W W', Below w.heap.size w W → W.heap.size = w.heap.size + 2 → Pre W W' → I (fun k => A0 k ∨ k = w.heap.size ∨ k = w.heap.size + 1) [] W' ∧ W'.heap[w.heap.size]? = W.heap[w.heap.size]? ∧ W'.heap[w.heap.size + 1]? = W.heap[w.heap.size + 1]?)
    (Ax : α → Act → Prop) (Ix : World → Prop)
    (hassign : ∀ (l : Nat) (x : α) (W : World) (K : Act → World → Prop), (∀ a', Ax x a' → K a' W) →
      assign.wpIn (Fence.wide.inRound l) (n - 1 - 1) P (Exit.then K (fun _ _ _ => False)) { tmps := (ps.zip (encs x)).foldl (fun t (p, v) => t.setIfInBounds p v) a.tmps, defers := [] } W)
    (hbody : ∀ (l : Nat) (A : Nat → Prop) (pre : List α) (x : α) (a' : Act) (W : World), I (fun k => A k ∨ k = w.heap.size ∨ k = w.heap.size + 1) pre W → Ax x a' → Ok A pre x W →
      body.wpIn (Fence.wide.inRound l) (n - 1 - 1) P (fun e _ W' => (e = .normal ∧ I (fun k => A k ∨ k = w.heap.size ∨ k = w.heap.size + 1) (pre ++ [x]) W' ∧ But (fun k => ¬ (A k ∨ k = w.heap.size ∨ k = w.heap.size + 1)) W W') ∨ (e = .ret ∧ Ix W' ∧ But (fun k => ¬ (A k ∨ k = w.heap.size ∨ k = w.heap.size + 1)) W W')) a' W)
    (hdone : ∀ (xs : List α) (W : World), S xs → I (fun k => A0 k ∨ k = w.heap.size ∨ k = w.heap.size + 1) xs W → W.heap[w.heap.size]? = some (.deferred (some [])) → Q .normal { a with defers := { target := .collected w.heap.size, args := #[] } :: a.defers } W)
    (hleft : ∀ (W W' : World), Ix W → But (fun k => k = w.heap.size + 1) W W' → (∃ r, W.heap[w.heap.size + 1]? = some (.loop r)) → W'.heap[w.heap.size]? = some (.deferred (some [])) → Q .ret { a with defers := { target := .collected w.heap.size, args := #[] } :: a.defers } W') :
    (Code.rangeFunc g ps assign body).wpIn Fence.wide n P Q a w := by
  refine wpIn_rangeFunc fun fn hfn => ?_
  let rd : Loop := { state := .ready, pending := none, fn := fn, tmps := a.tmps, params := ps, assign := assign, body := body, defers := w.heap.size }
  let bs : Loop := { rd with state := .busy }
  let dn : Loop := { rd with state := .done, pending := some .ret }
  have hen : (Instr.enterLoop fn a.tmps ps assign body Fence.wide.round).run P w = .ok (w.heap.size + 1, [{ target := .collected w.heap.size, args := #[] }]) ((w.alloc (.deferred (some []))).alloc (.loop rd)) := run_enterLoop_outer fn a.tmps ps assign body
  have e1 : ((w.alloc (.deferred (some []))).alloc (.loop rd)).heap[w.heap.size + 1]? = some (.loop rd) := by
    have := World.alloc_heap_new (w.alloc (.deferred (some []))) (.loop rd)
    rwa [World.size_alloc] at this
  have e0 : ((w.alloc (.deferred (some []))).alloc (.loop rd)).heap[w.heap.size]? = some (.deferred (some [])) :=
    (Below.heap_alloc _ _ _ (by simp)).trans (World.alloc_heap_new w _)
  have eB : Below w.heap.size w ((w.alloc (.deferred (some []))).alloc (.loop rd)) := ((Below.refl _ w).alloc (Nat.le_refl _) _).alloc (by simp) _
  have eS : ((w.alloc (.deferred (some []))).alloc (.loop rd)).heap.size = w.heap.size + 2 := by simp
  generalize (w.alloc (.deferred (some []))).alloc (.loop rd) = W1 at *
  refine ⟨w.heap.size + 1, _, W1, { target := .fn (.func gf) lb, args := #[.func (.yield (w.heap.size + 1)) #[] #[]] }, W1, gf, #[.func (.yield (w.heap.size + 1)) #[] #[]] ++ lb, W1, hen, ?_, fun _ _ => trivial, ?_, fun _ => h1, ?_⟩
  · simp only [resolve, hg]
    simp [go_sem]
  · simp [invoke, go_sem, eg]
  refine (hseq W1 eB (w.heap.size + 1) (fun A pre W => I (fun k => A k ∨ k = w.heap.size ∨ k = w.heap.size + 1) pre W ∧ W.heap[w.heap.size + 1]? = some (.loop rd) ∧ W.heap[w.heap.size]? = some (.deferred (some []))) (fun W => W.heap[w.heap.size + 1]? = some (.loop dn) ∧ W.heap[w.heap.size]? = some (.deferred (some [])) ∧ ∃ W0, Ix W0 ∧ But (fun k => k = w.heap.size + 1) W0 W ∧ ∃ r, W0.heap[w.heap.size + 1]? = some (.loop r)) ⟨⟨?_, ?_, ?_⟩, ?_, ?_⟩ ?_).mono ?_
  · rintro A pre W W' ⟨k0, k1, k2⟩ hb
    have h2 := hI.new _ _ _ _ k0 hb
    refine ⟨hI.less _ _ _ _ h2 (fun k hk => ?_), (hb.block _ (Array.getElem?_eq_some_iff.1 k1).1).trans k1, (hb.block _ (Array.getElem?_eq_some_iff.1 k2).1).trans k2⟩
    rcases hk with (hk | hk) | hk
    · exact .inl (.inl hk)
    · exact .inr hk
    · exact .inl (.inr hk)
  · rintro A pre W k ⟨k0, k1, k2⟩ hk
    exact hI.old _ _ _ k k0 (.inl hk)
  · rintro A B pre W ⟨k0, k1, k2⟩ hk
    exact ⟨hI.less _ _ _ _ k0 (fun k h => h.imp (hk k) id), k1, k2⟩
  · rintro A pre W ⟨k0, _, _⟩
    exact hfx _ _ _ k0
  · -- a round
    rintro A pre x W ⟨k0, k1, k2⟩ hOk
    have hy : (Instr.yield (w.heap.size + 1) (encs x)).run P W = _ := run_yield k1 (hps x)
    refine ⟨fn, _, assign, body, hy, roundIn_of_wpIn hfn (hassign _ x W _ ?_)⟩
    intro a' f4
    have mlt := (Array.getElem?_eq_some_iff.1 k1).1
    have u1 : (W.putObj (w.heap.size + 1) (.loop bs)).heap[w.heap.size + 1]? = some (.loop bs) := World.putObj_heap_same mlt
    have u2 : (W.putObj (w.heap.size + 1) (.loop bs)).heap[w.heap.size]? = some (.deferred (some [])) := (World.putObj_heap_other (by omega)).trans k2
    refine ⟨_, run_beginRound k1 rfl, ?_⟩
    have q1 := But.putObj W (w.heap.size + 1) (.loop bs)
    refine wpIn_mono (hbody _ A pre x a' _ (hturn _ _ _ _ k0 q1 (.inr (.inr rfl)) ⟨_, k1⟩) f4 (hok _ _ _ _ _ hOk q1 ⟨_, k1⟩)) ?_
    rintro e a3 W3 (⟨rfl, p3, p1⟩ | ⟨rfl, p3, p1⟩)
    · have v1 := p1.same u1 (fun h => h (.inr (.inr rfl)))
      have v2 := p1.same u2 (fun h => h (.inr (.inl rfl)))
      have q2 := But.putObj W3 (w.heap.size + 1) (.loop rd)
      refine ⟨_, _, run_endRound none v1, .inl ⟨rfl, ⟨hturn _ _ _ _ p3 q2 (.inr (.inr rfl)) ⟨_, v1⟩, ?_, ?_⟩, ?_⟩⟩
      · exact World.putObj_heap_same (Array.getElem?_eq_some_iff.1 v1).1
      · exact (World.putObj_heap_other (by omega)).trans v2
      · refine ⟨q2.os.trans (p1.os.trans q1.os), q2.tape.trans (p1.tape.trans q1.tape), q2.output.trans (p1.output.trans q1.output), Nat.le_trans q1.size (Nat.le_trans p1.size q2.size), fun k hk hd => ?_⟩
        have hA : A k := Classical.byContradiction hd
        by_cases hkD : k = w.heap.size + 1
        · subst hkD
          rw [k1]
          exact World.putObj_heap_same (Array.getElem?_eq_some_iff.1 v1).1
        · have r1 := q1.block k hk hkD
          have r2 := p1.block k (Nat.lt_of_lt_of_le hk q1.size) (fun h => h (.inl hA))
          have r3 := q2.block k (Nat.lt_of_lt_of_le hk (Nat.le_trans q1.size p1.size)) hkD
          exact r3.trans (r2.trans r1)
    · have v1 := p1.same u1 (fun h => h (.inr (.inr rfl)))
      have v2 := p1.same u2 (fun h => h (.inr (.inl rfl)))
      have q2 := But.putObj W3 (w.heap.size + 1) (.loop dn)
      refine ⟨_, _, run_endRound (some .ret) v1, .inr ⟨rfl, ?_, ?_, W3, p3, q2, _, v1⟩⟩
      · exact World.putObj_heap_same (Array.getElem?_eq_some_iff.1 v1).1
      · exact (World.putObj_heap_other (by omega)).trans v2
  · intro W' hpre
    obtain ⟨j0, j1, j2⟩ := h0 W1 W' eB eS hpre
    exact ⟨j0, j2.trans e1, j1.trans e0⟩
  · -- behind it
    rintro e W2 ⟨⟨v, rfl⟩, ⟨xs, hS, k0, k1, k2⟩ | ⟨k1, k2, W0, k3, k4, r, k5⟩⟩
    · refine ⟨none, _, run_endLoop k1 (by simp [rd]), ?_⟩
      exact hdone xs _ hS (hturn _ _ _ _ k0 (But.putObj _ _ _) (.inr (.inr rfl)) ⟨_, k1⟩) ((World.putObj_heap_other (by omega)).trans k2)
    · refine ⟨some .ret, _, run_endLoop k1 (by simp [dn]), ?_⟩
      have q3 := But.putObj W2 (w.heap.size + 1) (.loop { dn with state := .exhausted })
      exact wpIn_ret (hleft W0 _ k3 ⟨q3.os.trans k4.os, q3.tape.trans k4.tape, q3.output.trans k4.output, Nat.le_trans k4.size q3.size, fun k hk hd => (q3.block k (Nat.lt_of_lt_of_le hk k4.size) hd).trans (k4.block k hk hd)⟩ ⟨r, k5⟩ ((World.putObj_heap_other (by omega)).trans k2))
end Go.Proofs.Ytmkkjjhlppagpaa
