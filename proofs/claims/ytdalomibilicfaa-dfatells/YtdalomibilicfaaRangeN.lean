/- A range over an iterator within a round of another one; the outer one's body is told of its record. -/
import Derived.Test.YtdalomibilicfaaRangeV
namespace Go.Proofs.Ytdalomibilicfaa
open Go.RowKit Go.Shelf

theorem wpIn_range_N {n : Nat} {P : Program} {α : Type} {g : Operand} {ps : Array Tmp} {assign body : Code} {Q : Exit → Act → World → Prop} {a : Act} {w : World} (h1 : 1 ≤ n) {l₀ : Nat} {r₀ : Loop} (hl₀ : w.heap[l₀]? = some (.loop r₀))
    {gf : Nat} {lb : Array Value} (hg : a.eval g = .func (.func gf) #[] lb) (eg : ∀ args w, (callFunc gf args).run P w = .ok (.enter gf args) w)
    {encs : α → Array Value} {S : List α → World → Prop} {Ok : α → Prop} {Pf : List α → Prop} {A0 : Nat → Prop} {Fx : World → Prop} (hps : ∀ x, (encs x).size = ps.size)
    (hA0 : ∀ k, A0 k → k < w.heap.size)
    (hseq : ∀ W, Below w.heap.size w W → GivesT (n - 1) P gf lb encs S (fun _ x _ => Ok x) Pf A0 Fx W)
    (hS : ∀ xs W W', S xs W → But (fun k => k = w.heap.size) W W' → S xs W')
    (I : (Nat → Prop) → List α → World → Prop) (Ix : (Nat → Prop) → World → Prop) (hI : KeepJ Fx I Ix)
    (h0 : ∀ W, Below w.heap.size w W → W.heap.size = w.heap.size + 1 → I (fun k => A0 k ∨ k = w.heap.size) [] W)
    (Ax : α → Act → World → Nat → Nat → Prop)
    (hassign : ∀ (l : Nat) (x : α) (W : World) (K : Act → World → Prop), w.heap.size + 1 ≤ W.heap.size → (∀ a' W', Below W.heap.size W W' → (∀ W2, But (fun k => k = w.heap.size) W' W2 → Ax x a' W2 W.heap.size W'.heap.size) → K a' W') →
      assign.wpIn (Fence.wide.inRound l) (n - 1 - 1) P (Exit.then K (fun _ _ _ => False)) { tmps := (ps.zip (encs x)).foldl (fun t (p, v) => t.setIfInBounds p v) a.tmps, defers := [] } W)
    (hbody : ∀ (l : Nat) (A : Nat → Prop) (pre : List α) (x : α) (a' : Act) (W : World) (s s' : Nat), (∀ k, A k ∨ k = w.heap.size → k < s) → I (fun k => (A k ∨ k = w.heap.size) ∨ (s ≤ k ∧ k < s')) pre W → Ax x a' W s s' → Ok x → Pf (pre ++ [x]) →
      body.wpIn (Fence.wide.inRound l) (n - 1 - 1) P (fun e _ W' => (e = .normal ∧ I (fun k => A k ∨ k = w.heap.size) (pre ++ [x]) W' ∧ But (fun k => ¬ (A k ∨ k = w.heap.size)) W W')) a' W)
    (hdone : ∀ (xs : List α) (W : World), S xs W → I (fun k => A0 k ∨ k = w.heap.size) xs W → Q .normal a W) :
    (Code.rangeFunc g ps assign body).wpIn (Fence.wide.inRound l₀) n P Q a w := by
  refine wpIn_rangeFunc fun fn hfn => ?_
  let rd : Loop := { state := .ready, pending := none, fn := fn, tmps := a.tmps, params := ps, assign := assign, body := body, defers := r₀.defers }
  let bs : Loop := { rd with state := .busy }
  have hen : (Instr.enterLoop fn a.tmps ps assign body (Fence.wide.inRound l₀).round).run P w = .ok (w.heap.size, []) (w.alloc (.loop rd)) := run_enterLoop_inner hl₀ fn a.tmps ps assign body
  have e1 : (w.alloc (.loop rd)).heap[w.heap.size]? = some (.loop rd) := World.alloc_heap_new w _
  have eB : Below w.heap.size w (w.alloc (.loop rd)) := (Below.refl _ w).alloc (Nat.le_refl _) _
  have eS : (w.alloc (.loop rd)).heap.size = w.heap.size + 1 := by simp
  generalize w.alloc (.loop rd) = W1 at *
  refine ⟨w.heap.size, _, W1, { target := .fn (.func gf) lb, args := #[.func (.yield w.heap.size) #[] #[]] }, W1, gf, #[.func (.yield w.heap.size) #[] #[]] ++ lb, W1, hen, ?_, fun _ _ => trivial, ?_, fun _ => h1, ?_⟩
  · simp only [resolve, hg]
    simp [go_sem]
  · simp [invoke, go_sem, eg]
  refine CallsIn.mono (show CallsIn (Fence.wide.inRound l₀) (n - 1) P gf _ W1 _ from hseq W1 eB w.heap.size (fun A pre W => I (fun k => A k ∨ k = w.heap.size) pre W ∧ W.heap[w.heap.size]? = some (.loop rd) ∧ ¬ A w.heap.size)
    (fun _ _ => False) ⟨⟨?_, ?_, ?_, ?_, ?_, ?_⟩, ?_⟩ ?_) ?_
  · rintro A pre W W' ⟨k0, k1, k4⟩ hb
    have h2 := hI.step _ _ _ _ k0 (hb.mono (fun k _ h => .inl h))
    have hk1 := (Array.getElem?_eq_some_iff.1 k1).1
    refine ⟨hI.less _ _ _ _ h2 (fun k hk => ?_), hb.same k1 k4, fun h => h.elim k4 (fun h => by omega)⟩
    rcases hk with (hk | hk) | hk
    · exact .inl (.inl hk)
    · exact .inr hk
    · exact .inl (.inr hk)
  · rintro A pre W k ⟨k0, _⟩ hk
    exact hI.old _ _ _ k k0 (.inl hk)
  · rintro A B pre W ⟨k0, k1, k4⟩ hk
    exact ⟨hI.less _ _ _ _ k0 (fun k h => h.imp (hk k) id), k1, fun h => k4 (hk _ h)⟩
  · rintro A pre W ⟨k0, _⟩
    exact hI.fx _ _ _ k0
  · rintro A B W h
    exact h.elim
  · rintro A W W' h
    exact h.elim
  · -- a round
    rintro A pre x W ⟨k0, k1, k4⟩ hOk hPf
    have hy : (Instr.yield w.heap.size (encs x)).run P W = _ := run_yield k1 (hps x)
    have mlt := (Array.getElem?_eq_some_iff.1 k1).1
    refine ⟨fn, _, assign, body, hy, roundIn_of_wpIn hfn (hassign _ x W _ (by omega) ?_)⟩
    intro a' W0 hb0 f4
    have hb0s := hb0.size
    have g0 : I (fun k => (A k ∨ k = w.heap.size) ∨ (W.heap.size ≤ k ∧ k < W0.heap.size)) pre W0 := hI.new _ _ _ _ k0 hb0
    have g1 := (hb0.block _ mlt).trans k1
    have mlt0 := (Array.getElem?_eq_some_iff.1 g1).1
    have u1 : (W0.putObj w.heap.size (.loop bs)).heap[w.heap.size]? = some (.loop bs) := World.putObj_heap_same mlt0
    refine ⟨_, run_beginRound g1 rfl, ?_⟩
    have q1 := But.putObj W0 w.heap.size (.loop bs)
    refine wpIn_mono (hbody _ A pre x a' _ W.heap.size W0.heap.size (fun k hk => hI.old _ _ _ k k0 hk) (hI.turn _ _ _ _ g0 (q1.mono (fun k _ h => .inl (.inr h)))) (f4 _ q1) hOk hPf) ?_
    rintro e a3 W3 ⟨rfl, p3, p1⟩
    have v1 := p1.same u1 (fun h => h (.inr rfl))
    have q2 := But.putObj W3 w.heap.size (.loop rd)
    refine ⟨_, _, run_endRound none v1, .inl ⟨rfl, ⟨hI.less _ _ _ _ (hI.turn _ _ _ _ p3 (q2.mono (fun k _ h => .inr h))) (fun k hk => hk), ?_, k4⟩, ?_⟩⟩
    · exact World.putObj_heap_same (Array.getElem?_eq_some_iff.1 v1).1
    · refine ⟨q2.os.trans (p1.os.trans (q1.os.trans hb0.os)), q2.tape.trans (p1.tape.trans (q1.tape.trans hb0.tape)), q2.output.trans (p1.output.trans (q1.output.trans hb0.output)), Nat.le_trans hb0.size (Nat.le_trans q1.size (Nat.le_trans p1.size q2.size)), fun k hk hd => ?_⟩
      have hA : A k := Classical.byContradiction hd
      have hkD : ¬ k = w.heap.size := fun e => k4 (e ▸ hA)
      have r0 := hb0.block k hk
      have hk0 := Nat.lt_of_lt_of_le hk hb0.size
      have r1 := q1.block k hk0 hkD
      have r2 := p1.block k (Nat.lt_of_lt_of_le hk0 q1.size) (fun h => h (.inl hA))
      have r3 := q2.block k (Nat.lt_of_lt_of_le hk0 (Nat.le_trans q1.size p1.size)) hkD
      exact r3.trans (r2.trans (r1.trans r0))
  · exact ⟨h0 W1 eB eS, e1, fun h => by have := hA0 _ h; omega⟩
  · -- behind it
    rintro e W2 ⟨⟨v, rfl⟩, ⟨xs, hS2, k0, k1, k4⟩ | h⟩
    · refine ⟨none, _, run_endLoop k1 (by simp [rd]), ?_⟩
      have q3 := But.putObj W2 w.heap.size (.loop { rd with state := .exhausted })
      exact hdone xs _ (hS _ _ _ hS2 q3) (hI.turn _ _ _ _ k0 (q3.mono (fun k _ h => .inr h)))
    · exact h.elim
theorem wpIn_range_O {n : Nat} {P : Program} {α : Type} {g : Operand} {ps : Array Tmp} {assign body : Code} {Q : Exit → Act → World → Prop} {a : Act} {w : World} (h1 : 1 ≤ n)
    {gf : Nat} {lb : Array Value} (hg : a.eval g = .func (.func gf) #[] lb) (eg : ∀ args w, (callFunc gf args).run P w = .ok (.enter gf args) w)
    {encs : α → Array Value} {S : List α → World → Prop} {Ok : (Nat → Prop) → α → World → Prop} {Pf : List α → Prop} {A0 : Nat → Prop} {Fx : World → Prop} (hps : ∀ x, (encs x).size = ps.size)
    (hA0 : ∀ k, A0 k → k < w.heap.size)
    (hseq : ∀ W, Below w.heap.size w W → GivesT (n - 1) P gf lb encs S Ok Pf A0 Fx W)
    (hok : ∀ A x W W' k r, Ok A x W → W.heap[k]? = some (.loop r) → But (fun j => j = k) W W' → Ok A x W')
    (hS : ∀ xs W W' r, S xs W → W.heap[w.heap.size + 1]? = some (.loop r) → But (fun k => k = w.heap.size + 1) W W' → S xs W')
    (I : (Nat → Prop) → List α → World → Prop) (Ix : (Nat → Prop) → World → Prop) (hI : KeepJ Fx I Ix)
    (h0 : ∀ W, Below w.heap.size w W → W.heap.size = w.heap.size + 2 → I (fun k => A0 k ∨ k = w.heap.size ∨ k = w.heap.size + 1) [] W)
    (Ax : α → Act → Prop)
    (hassign : ∀ (l : Nat) (x : α) (W : World) (K : Act → World → Prop), (∀ a', Ax x a' → K a' W) →
      assign.wpIn (Fence.wide.inRound l) (n - 1 - 1) P (Exit.then K (fun _ _ _ => False)) { tmps := (ps.zip (encs x)).foldl (fun t (p, v) => t.setIfInBounds p v) a.tmps, defers := [] } W)
    (hbody : ∀ (l : Nat) (A : Nat → Prop) (pre : List α) (x : α) (a' : Act) (W : World), l = w.heap.size + 1 → (∃ r, W.heap[l]? = some (.loop r)) → I (fun k => A k ∨ k = w.heap.size ∨ k = w.heap.size + 1) pre W → Ax x a' → Ok A x W → Pf (pre ++ [x]) →
      body.wpIn (Fence.wide.inRound l) (n - 1 - 1) P (fun e _ W' => (e = .normal ∧ I (fun k => A k ∨ k = w.heap.size ∨ k = w.heap.size + 1) (pre ++ [x]) W' ∧ But (fun k => ¬ (A k ∨ k = w.heap.size ∨ k = w.heap.size + 1)) W W') ∨ (e = .ret ∧ Ix (fun k => A k ∨ k = w.heap.size ∨ k = w.heap.size + 1) W' ∧ But (fun k => ¬ (A k ∨ k = w.heap.size ∨ k = w.heap.size + 1)) W W')) a' W)
    (hdone : ∀ (xs : List α) (W : World), S xs W → I (fun k => A0 k ∨ k = w.heap.size ∨ k = w.heap.size + 1) xs W → W.heap[w.heap.size]? = some (.deferred (some [])) → Q .normal { a with defers := { target := .collected w.heap.size, args := #[] } :: a.defers } W)
    (hleft : ∀ (W : World), Ix (fun k => A0 k ∨ k = w.heap.size ∨ k = w.heap.size + 1) W → W.heap[w.heap.size]? = some (.deferred (some [])) → Q .ret { a with defers := { target := .collected w.heap.size, args := #[] } :: a.defers } W) :
    (Code.rangeFunc g ps assign body).wpIn Fence.wide n P Q a w := by
  refine wpIn_rangeFunc fun fn hfn => ?_
  let rd : Loop := { state := .ready, pending := none, fn := fn, tmps := a.tmps, params := ps, assign := assign, body := body, defers := w.heap.size }
  let bs : Loop := { rd with state := .busy }
  let dn : Loop := { rd with state := .done, pending := some .ret }
  have hen : (Instr.enterLoop fn a.tmps ps assign body Fence.wide.round).run P w = .ok (w.heap.size + 1, [{ target := .collected w.heap.size, args := #[] }]) ((w.alloc (.deferred (some []))).alloc (.loop rd)) := run_enterLoop_outer fn a.tmps ps assign body
  have e1 : ((w.alloc (.deferred (some []))).alloc (.loop rd)).heap[w.heap.size + 1]? = some (.loop rd) := by
    have := World.alloc_heap_new (w.alloc (.deferred (some []))) (.loop rd)
    rwa [World.size_alloc] at this
  have e0 : ((w.alloc (.deferred (some []))).alloc (.loop rd)).heap[w.heap.size]? = some (.deferred (some [])) :=
    (Below.heap_alloc _ _ _ (by simp)).trans (World.alloc_heap_new w _)
  have eB : Below w.heap.size w ((w.alloc (.deferred (some []))).alloc (.loop rd)) := ((Below.refl _ w).alloc (Nat.le_refl _) _).alloc (by simp) _
  have eS : ((w.alloc (.deferred (some []))).alloc (.loop rd)).heap.size = w.heap.size + 2 := by simp
  generalize (w.alloc (.deferred (some []))).alloc (.loop rd) = W1 at *
  refine ⟨w.heap.size + 1, _, W1, { target := .fn (.func gf) lb, args := #[.func (.yield (w.heap.size + 1)) #[] #[]] }, W1, gf, #[.func (.yield (w.heap.size + 1)) #[] #[]] ++ lb, W1, hen, ?_, fun _ _ => trivial, ?_, fun _ => h1, ?_⟩
  · simp only [resolve, hg]
    simp [go_sem]
  · simp [invoke, go_sem, eg]
  refine (hseq W1 eB (w.heap.size + 1) (fun A pre W => I (fun k => A k ∨ k = w.heap.size ∨ k = w.heap.size + 1) pre W ∧ W.heap[w.heap.size + 1]? = some (.loop rd) ∧ W.heap[w.heap.size]? = some (.deferred (some [])) ∧ ¬ A w.heap.size ∧ ¬ A (w.heap.size + 1))
    (fun A W => W.heap[w.heap.size + 1]? = some (.loop dn) ∧ W.heap[w.heap.size]? = some (.deferred (some [])) ∧ Ix (fun k => A k ∨ k = w.heap.size ∨ k = w.heap.size + 1) W ∧ ¬ A w.heap.size ∧ ¬ A (w.heap.size + 1)) ⟨⟨?_, ?_, ?_, ?_, ?_, ?_⟩, ?_⟩ ?_).mono ?_
  · rintro A pre W W' ⟨k0, k1, k2, k3, k4⟩ hb
    have h2 := hI.step _ _ _ _ k0 (hb.mono (fun k _ h => .inl h))
    have hk1 := (Array.getElem?_eq_some_iff.1 k1).1
    refine ⟨hI.less _ _ _ _ h2 (fun k hk => ?_), hb.same k1 k4, hb.same k2 k3, fun h => h.elim k3 (fun h => by omega), fun h => h.elim k4 (fun h => by omega)⟩
    rcases hk with (hk | hk) | hk
    · exact .inl (.inl hk)
    · exact .inr hk
    · exact .inl (.inr hk)
  · rintro A pre W k ⟨k0, _⟩ hk
    exact hI.old _ _ _ k k0 (.inl hk)
  · rintro A B pre W ⟨k0, k1, k2, k3, k4⟩ hk
    exact ⟨hI.less _ _ _ _ k0 (fun k h => h.imp (hk k) id), k1, k2, fun h => k3 (hk _ h), fun h => k4 (hk _ h)⟩
  · rintro A pre W ⟨k0, _⟩
    exact hI.fx _ _ _ k0
  · rintro A B W ⟨k1, k2, k0, k3, k4⟩ hk
    exact ⟨k1, k2, hI.sless _ _ _ k0 (fun k h => h.imp (hk k) id), fun h => k3 (hk _ h), fun h => k4 (hk _ h)⟩
  · rintro A W W' ⟨k1, k2, k0, k3, k4⟩ hb
    exact ⟨hb.same k1 k4, hb.same k2 k3, hI.sturn _ _ _ k0 (hb.mono (fun k _ h => .inl h)), k3, k4⟩
  · -- a round
    rintro A pre x W ⟨k0, k1, k2, k3, k4⟩ hOk hPf
    have hy : (Instr.yield (w.heap.size + 1) (encs x)).run P W = _ := run_yield k1 (hps x)
    refine ⟨fn, _, assign, body, hy, roundIn_of_wpIn hfn (hassign _ x W _ ?_)⟩
    intro a' f4
    have mlt := (Array.getElem?_eq_some_iff.1 k1).1
    have u1 : (W.putObj (w.heap.size + 1) (.loop bs)).heap[w.heap.size + 1]? = some (.loop bs) := World.putObj_heap_same mlt
    have u2 : (W.putObj (w.heap.size + 1) (.loop bs)).heap[w.heap.size]? = some (.deferred (some [])) := (World.putObj_heap_other (by omega)).trans k2
    refine ⟨_, run_beginRound k1 rfl, ?_⟩
    have q1 := But.putObj W (w.heap.size + 1) (.loop bs)
    refine wpIn_mono (hbody _ A pre x a' _ rfl ⟨_, u1⟩ (hI.turn _ _ _ _ k0 (q1.mono (fun k _ h => .inr (.inr h)))) f4 (hok _ _ _ _ _ _ hOk k1 q1) hPf) ?_
    have key : ∀ (W3 : World) (r : Loop), But (fun k => ¬ (A k ∨ k = w.heap.size ∨ k = w.heap.size + 1)) (W.putObj (w.heap.size + 1) (.loop bs)) W3 → But (fun k => ¬ A k) W (W3.putObj (w.heap.size + 1) (.loop r)) := fun W3 r p1 => by
      have q2 := But.putObj W3 (w.heap.size + 1) (.loop r)
      refine ⟨q2.os.trans (p1.os.trans q1.os), q2.tape.trans (p1.tape.trans q1.tape), q2.output.trans (p1.output.trans q1.output), Nat.le_trans q1.size (Nat.le_trans p1.size q2.size), fun k hk hd => ?_⟩
      have hA : A k := Classical.byContradiction hd
      have hkD : ¬ k = w.heap.size + 1 := fun e => k4 (e ▸ hA)
      have r1 := q1.block k hk hkD
      have r2 := p1.block k (Nat.lt_of_lt_of_le hk q1.size) (fun h => h (.inl hA))
      have r3 := q2.block k (Nat.lt_of_lt_of_le hk (Nat.le_trans q1.size p1.size)) hkD
      exact r3.trans (r2.trans r1)
    rintro e a3 W3 (⟨rfl, p3, p1⟩ | ⟨rfl, p3, p1⟩)
    · have v1 := p1.same u1 (fun h => h (.inr (.inr rfl)))
      have v2 := p1.same u2 (fun h => h (.inr (.inl rfl)))
      have q2 := But.putObj W3 (w.heap.size + 1) (.loop rd)
      refine ⟨_, _, run_endRound none v1, .inl ⟨rfl, ⟨hI.turn _ _ _ _ p3 (q2.mono (fun k _ h => .inr (.inr h))), ?_, ?_, k3, k4⟩, key W3 rd p1⟩⟩
      · exact World.putObj_heap_same (Array.getElem?_eq_some_iff.1 v1).1
      · exact (World.putObj_heap_other (by omega)).trans v2
    · have v1 := p1.same u1 (fun h => h (.inr (.inr rfl)))
      have v2 := p1.same u2 (fun h => h (.inr (.inl rfl)))
      have q2 := But.putObj W3 (w.heap.size + 1) (.loop dn)
      refine ⟨_, _, run_endRound (some .ret) v1, .inr ⟨rfl, ⟨?_, ?_, hI.sturn _ _ _ p3 (q2.mono (fun k _ h => .inr (.inr h))), k3, k4⟩, key W3 dn p1⟩⟩
      · exact World.putObj_heap_same (Array.getElem?_eq_some_iff.1 v1).1
      · exact (World.putObj_heap_other (by omega)).trans v2
  · exact ⟨h0 W1 eB eS, e1, e0, fun h => by have := hA0 _ h; omega, fun h => by have := hA0 _ h; omega⟩
  · -- behind it
    rintro e W2 ⟨⟨v, rfl⟩, ⟨xs, hS2, k0, k1, k2, k3, k4⟩ | ⟨k1, k2, k0, k3, k4⟩⟩
    · refine ⟨none, _, run_endLoop k1 (by simp [rd]), ?_⟩
      have q3 := But.putObj W2 (w.heap.size + 1) (.loop { rd with state := .exhausted })
      exact hdone xs _ (hS _ _ _ _ hS2 k1 q3) (hI.turn _ _ _ _ k0 (q3.mono (fun k _ h => .inr (.inr h)))) ((World.putObj_heap_other (by omega)).trans k2)
    · refine ⟨some .ret, _, run_endLoop k1 (by simp [dn]), ?_⟩
      have q3 := But.putObj W2 (w.heap.size + 1) (.loop { dn with state := .exhausted })
      exact wpIn_ret (hleft _ (hI.sturn _ _ _ k0 (q3.mono (fun k _ h => .inr (.inr h)))) ((World.putObj_heap_other (by omega)).trans k2))
end Go.Proofs.Ytdalomibilicfaa
