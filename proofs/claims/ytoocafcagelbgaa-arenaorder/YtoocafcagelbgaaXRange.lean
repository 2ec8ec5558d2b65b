/- What is kept between two rounds: blocks with what they hold; when it is left. -/
import Derived.Test.YtoocafcagelbgaaPWithin
namespace Go.Proofs.Ytoocafcagelbgaa
open Go.RowKit Go.Shelf

def mark (d : Nat) : Deferred := { target := .collected d, args := #[] }
def Mk (Ds : List Nat) (W : World) : Prop := Ds.Nodup ∧ ∀ d ∈ Ds, W.heap[d]? = some (.deferred (some []))
theorem leaves_marksC {F : Fence} {n : Nat} {P : Program} {fn : Func} {tmps : Array Value} {Rw : World → Prop} {R : Ending → World → Prop} {v : Value} (hres : ∀ W, Rw W → (results fn tmps).run P W = .ok v W) (D0 : Nat → Prop)
    (hR : ∀ W d, D0 d → W.heap[d]? = some (.deferred (some [])) → Rw W → Rw (W.putObj d (.deferred none))) (hfin : ∀ W, Rw W → R (.returned v) W) :
    ∀ (Ds : List Nat) (W : World), Mk Ds W → (∀ d ∈ Ds, D0 d) → Rw W → LeavesInM F n P fn tmps R (Ds.map mark) .returning W
  | [], W, _, _, h => ⟨v, hres W h, hfin W h⟩
  | d :: Ds, W, hM, hD, h => by
    have hd := hM.2 d (by simp)
    have hn := List.nodup_cons.1 hM.1
    refine ⟨by simp, .inl ⟨d, _, rfl, run_takeDeferred hd, ?_⟩⟩
    refine leaves_marksC hres D0 hR hfin Ds _ ⟨hn.2, fun e he => ?_⟩ (fun e he => hD e (by simp [he])) (hR W d (hD d (by simp)) hd h)
    exact (World.putObj_heap_other (fun h' => hn.1 (by rw [← h']; exact he))).trans (hM.2 e (by simp [he]))
theorem blk_new {W : World} {k : Nat} {ob o : Obj} (h : W.heap[k]? = some ob) : (W.alloc o).heap[k]? = some ob := (((Below.refl _ W).alloc (Nat.le_refl _) o).block k (blk_lt h)).trans h
/-- Blocks with what they hold. -/
structure XI {α : Type} (w : World) (Pp : List α → Prop) (C : List α → Nat → Obj → Prop) (A : Nat → Prop) (pre : List α) (V : World) : Prop where
  bel : Below w.heap.size w V
  has : ∀ k o, C pre k o → V.heap[k]? = some o ∧ ¬ A k
  low : ∀ k, A k → w.heap.size ≤ k ∧ k < V.heap.size
  pp : Pp pre
structure XL (w : World) (T : Prop) (C : Nat → Obj → Prop) (A : Nat → Prop) (V : World) : Prop where
  bel : Below w.heap.size w V
  has : ∀ k o, C k o → V.heap[k]? = some o ∧ ¬ A k
  low : ∀ k, A k → w.heap.size ≤ k ∧ k < V.heap.size
  pp : T
theorem XI.keep {α : Type} {w : World} {Pp : List α → Prop} {C : List α → Nat → Obj → Prop} {T : Prop} {C2 : Nat → Obj → Prop} : KeepJ (FxN w) (XI w Pp C) (XL w T C2) := by
  refine ⟨?_, ?_, ?_, ?_, ?_, ?_⟩
  · intro A pre V V' h hb
    refine ⟨h.bel.trans (hb.below h.bel.size (fun k hk => (h.low k hk).1)), fun k o hC => ?_, fun k hk => ?_, h.pp⟩
    · have := h.has k o hC
      refine ⟨but_blk hb this.1 this.2, fun e => e.elim this.2 (fun e => ?_)⟩
      have := blk_lt this.1
      omega
    · have := h.bel.size
      have := hb.size
      rcases hk with hk | hk
      · have := h.low k hk; omega
      · omega
  · intro A pre V k h hk
    exact (h.low k hk).2
  · intro A B pre V h hB
    exact ⟨h.bel, fun k o hC => ⟨(h.has k o hC).1, fun e => (h.has k o hC).2 (hB _ e)⟩, fun k hk => h.low k (hB _ hk), h.pp⟩
  · intro A pre V h
    exact h.bel
  · intro A B V h hB
    exact ⟨h.bel, fun k o hC => ⟨(h.has k o hC).1, fun e => (h.has k o hC).2 (hB _ e)⟩, fun k hk => h.low k (hB _ hk), h.pp⟩
  · intro A V V' h hb
    have hs := h.bel.size
    refine ⟨h.bel.trans (hb.below h.bel.size (fun k hk => (h.low k hk).1)), fun k o hC => ?_, fun k hk => ?_, h.pp⟩
    · have := h.has k o hC
      exact ⟨but_blk hb this.1 this.2, this.2⟩
    · have := h.low k hk
      have := hb.size
      omega
end Go.Proofs.Ytoocafcagelbgaa
