/- The range over the nodes of a tree, where the body writes the round's variables. -/
import Derived.Test.YthmpnhjlblcgdaaNRange
import Derived.Test.YthmpnhjlblcgdaaRangeM
namespace Go.Proofs.Ythmpnhjlblcgdaa
open Go.RowKit Go.Shelf

theorem range_nodesM {q : Nat} (hq : 1 ≤ q) {g : Operand} {ps : Array Tmp} {assign body : Code} {Q : Exit → Act → World → Prop} {a : Act} {w : World} {N d : Nat} {t : Nd} {ba : Option Addr} {bc nb : Nat} {A0 : Nat → Prop} (B : Nat) (w0 : World)
    (hw0 : Below B w0 w) (hBw : B ≤ w.heap.size) (hN : N ≤ 100000) (hct : cntN t ≤ N) (hT : TAt A0 d t (ndV t.h (.slice ba t.kids.length bc)) w) (hr : Row7 nb 0 t.h (.slice ba t.kids.length bc) w)
    (hg : a.eval g = .func (.func 44) #[] #[.pointer (some ⟨nb, 0, none⟩)]) (hps : ps.size = 2) (V : List Al → World → Prop) (D : World → Nat → Prop) (X : World → Prop)
    (hst : ∀ pre W W', V pre W → (∀ k, D W k → W'.heap[k]? = W.heap[k]?) → W.heap.size ≤ W'.heap.size → V pre W' ∧ ∀ k, D W' k → D W k)
    (hD : ∀ pre W k, V pre W → D W k → k < W.heap.size ∧ B ≤ k) (hV0 : V [] w) (hA0 : ∀ k, A0 k → k < w.heap.size ∧ ¬ D w k)
    (hX : ∀ W W', X W → But (fun k => k = w.heap.size + 1) W W' → (∃ r, W.heap[w.heap.size + 1]? = some (.loop r)) → X W')
    (Ax : Nat → Al → Act → World → Prop) (hax : ∀ s x a W W', Ax s x a W → But (fun k => k = w.heap.size + 1) W W' → (∃ r, W.heap[w.heap.size + 1]? = some (.loop r)) → Ax s x a W')
    (hassign : ∀ (l : Nat) (x : Al) (W : World) (K : Act → World → Prop), (∃ n A, TAt A n x.1 x.2.1 W) → (∀ a' W', Ax W.heap.size x a' W' → Below W.heap.size W W' → K a' W') →
      assign.wpIn (Fence.wide.inRound l) (q - 1 - 1) Try.prog (Exit.then K (fun _ _ _ => False)) { tmps := (ps.zip (encA x)).foldl (fun t (p, v) => t.setIfInBounds p v) a.tmps, defers := [] } W)
    (hbody : ∀ (l : Nat) (A : Nat → Prop) (pre : List Al) (x : Al) (a' : Act) (W : World) (s : Nat), (∀ k, A k → k < s) → (∀ k, D W k → k < s) → w.heap.size + 2 ≤ s → V pre W → (∀ k, A k → ¬ D W k) → OkA N (preN t 1) A pre x W → Ax s x a' W → Below B w0 W → w.heap.size + 2 ≤ W.heap.size →
      body.wpIn (Fence.wide.inRound l) (q - 1 - 1) Try.prog (fun e _ W' => (e = .normal ∧ V (pre ++ [x]) W' ∧ But (fun k => D W k ∨ s ≤ k) W W' ∧ ∀ k, D W' k → D W k ∨ W.heap.size ≤ k) ∨ (e = .ret ∧ X W' ∧ But (fun k => D W k ∨ s ≤ k) W W')) a' W)
    (hdone : ∀ (xs : List Al) (W : World), xs.map stripA = preN t 1 → V xs W → Below B w0 W → w.heap.size + 2 ≤ W.heap.size → W.heap[w.heap.size]? = some (.deferred (some [])) → Q .normal { a with defers := { target := .collected w.heap.size, args := #[] } :: a.defers } W)
    (hleft : ∀ (W : World), X W → Below B w0 W → w.heap.size + 2 ≤ W.heap.size → W.heap[w.heap.size]? = some (.deferred (some [])) → Q .ret { a with defers := { target := .collected w.heap.size, args := #[] } :: a.defers } W) :
    (Code.rangeFunc g ps assign body).wpIn Fence.wide q Try.prog Q a w := by
  refine wpIn_range_M hq (gf := 44) (lb := #[.pointer (some ⟨nb, 0, none⟩)]) hg (enters_of Try.func44 (by kernel_rfl) rfl) (encs := encA) (Pre := fun W W' => W' = W) (S := fun xs => xs.map stripA = preN t 1) (Ok := fun A pre x W => OkA N (preN t 1) A pre x W) (A0 := A0) (Fx := fun _ => True) (fun x => by rw [hps]; rfl)
    (fun W hb => nodes_gives (q - 1) N d t ba bc nb A0 W hN hct (hT.next hb) (hr.but (D := fun _ => False) (But.of_next hb) (World.block_lt_of_cell? _ _ hr.1) (fun h => h)))
    (HoldsR B w0 w V D) D (fun A pre W k h hk => (hD pre W k h.v hk).1) (fun A pre W W' h hb => (hst pre W W' h.v (fun k hk => hb.block k (hD pre W k h.v hk).1) hb.size).2) (fun A pre W W' h hb hA hl => (hst pre W W' h.v (fun k hk => hb.block k (hD pre W k h.v hk).1 (h.d k hk).2) hb.size).2) ⟨?_, ?_, ?_⟩ (fun _ _ _ _ => trivial) ?_ ?_ ?_ ?_ Ax hax (fun W => X W ∧ Below B w0 W ∧ w.heap.size + 2 ≤ W.heap.size) ?_ ?_ ?_ ?_
  · intro A pre W W' h hb
    obtain ⟨v', d'⟩ := hst pre W W' h.v (fun k hk => hb.block k (hD pre W k h.v hk).1) hb.size
    have hs := h.s
    refine ⟨v', h.b.trans (hb.mono (by omega)), fun k hk => ?_, fun k hk => h.d k (d' k hk), Nat.le_trans h.s hb.size⟩
    rcases hk with hk | hk
    · exact ⟨Nat.lt_of_lt_of_le (h.a k hk).1 hb.size, fun hd => (h.a k hk).2 (d' k hd)⟩
    · exact ⟨hk.2, fun hd => by have := (hD pre W k h.v (d' k hd)).1; omega⟩
  · intro A pre W k h hk
    exact (h.a k hk).1
  · intro A A' pre W h hk
    exact ⟨h.v, h.b, fun k h' => h.a k (hk k h'), h.d, h.s⟩
  · intro A pre W W' h hb hA hl
    obtain ⟨v', d'⟩ := hst pre W W' h.v (fun k hk => hb.block k (hD pre W k h.v hk).1 (h.d k hk).2) hb.size
    have hs := h.s
    exact ⟨v', h.b.trans (hb.below (by omega) (fun k _ e => by omega)), fun k hk => ⟨Nat.lt_of_lt_of_le (h.a k hk).1 hb.size, fun hd => (h.a k hk).2 (d' k hd)⟩, fun k hk => h.d k (d' k hk), Nat.le_trans h.s hb.size⟩
  · rintro A pre x W W' ⟨⟨n, h1⟩, h2⟩ hb hl
    exact ⟨⟨n, h1.loop hb hl⟩, h2⟩
  · rintro A pre x W W' ⟨⟨n, h1⟩, h2⟩ hb
    exact ⟨⟨n, h1.next hb⟩, h2⟩
  · rintro W W' hb hs rfl
    obtain ⟨v', d'⟩ := hst [] w W' hV0 (fun k hk => hb.block k (hD [] w k hV0 hk).1) hb.size
    refine ⟨⟨v', hw0.trans (hb.mono hBw), fun k hk => ?_, fun k hk => by have := (hD [] w k hV0 (d' k hk)).1; omega, by omega⟩, rfl, rfl⟩
    rcases hk with hk | hk | hk
    · exact ⟨Nat.lt_of_lt_of_le (hA0 k hk).1 hb.size, fun hd => (hA0 k hk).2 (d' k hd)⟩
    · exact ⟨by omega, fun hd => by have := (hD [] w k hV0 (d' k hd)).1; omega⟩
    · exact ⟨by omega, fun hd => by have := (hD [] w k hV0 (d' k hd)).1; omega⟩
  · rintro l x W K ⟨A, pre, ⟨n, h1⟩, _⟩ hK
    exact hassign l x W K ⟨n, A, h1⟩ hK
  · intro l A pre x a' W s hAs hDs h hx hok
    have hs2 := hAs (w.heap.size + 1) (.inr (.inr rfl))
    refine wpIn_mono (hbody l (fun k => A k ∨ k = w.heap.size ∨ k = w.heap.size + 1) pre x a' W s hAs hDs (by omega) h.v (fun k hk => (h.a k hk).2) ⟨⟨_, hok.1.choose_spec.imp (fun _ _ h => .inl h)⟩, hok.2⟩ hx h.b h.s) ?_
    rintro e a3 W3 (⟨rfl, h1, h2, h3⟩ | ⟨rfl, h1, h2⟩)
    · have hs := h.s
      refine .inl ⟨rfl, ⟨h1, h.b.trans (h2.below (by omega) (fun k _ hk => hk.elim (fun hk => (hD pre W k h.v hk).2) (fun _ => by omega))), fun k hk => ⟨Nat.lt_of_lt_of_le (h.a k hk).1 h2.size, fun hd => ?_⟩, fun k hk => ?_, Nat.le_trans h.s h2.size⟩, h2.mono (fun k _ hd hk => hd.elim (fun hd => (h.a k hk).2 hd) (fun hd => by have := hAs k hk; omega))⟩
      · rcases h3 k hd with h' | h'
        · exact (h.a k hk).2 h'
        · have := (h.a k hk).1; omega
      · rcases h3 k hk with h' | h'
        · exact h.d k h'
        · omega
    · have hs := h.s
      exact .inr ⟨rfl, ⟨h1, h.b.trans (h2.below (by omega) (fun k _ hk => hk.elim (fun hk => (hD pre W k h.v hk).2) (fun _ => by omega))), Nat.le_trans h.s h2.size⟩, h2.mono (fun k _ hd hk => hd.elim (fun hd => (h.a k hk).2 hd) (fun hd => by have := hAs k hk; omega))⟩
  · intro xs W hxs h hd
    exact hdone xs W hxs h.v h.b h.s hd
  · rintro W W' ⟨h1, h2, h3⟩ hb hl hd
    exact hleft W' (hX W W' h1 hb hl) (h2.trans (hb.below (by omega) (fun k _ e => by omega))) (Nat.le_trans h3 hb.size) hd
end Go.Proofs.Ythmpnhjlblcgdaa
