/- Texts joined: PDiffer0, PDiffer. -/
import Derived.Test.YtdalomibilicfaaPApart
import Derived.Deep.Cut
import Derived.Sort.CutIn
/- Differ: what is kept between two rounds, and what it tells. -/
namespace Go.Proofs.Ytdalomibilicfaa
open Go.RowKit Go.Shelf

theorem prs_len (n : Nat) : (prs n).length = (n + 1) * (n + 1) := by
  unfold prs
  rw [List.length_flatMap]
  simp [List.map_const']
theorem cntP_le (c : List Int) : cntP c ≤ (c.length + 1) * (c.length + 1) := by
  unfold cntP
  rw [← prs_len]
  exact List.length_filter_le _ _
theorem first_res {f f' g g' : List Int → Int} {P : List Int} (h : FirstD f g P) (hf : f = f') (hg : g = g') : FirstD f' g' P := by subst hf hg; exact h
theorem beside_fun {a b : List Ds} (ha : fitD a) (hb : fitD b) : resD (besideL a b) 0 = resD a 0 ∧ resD (besideL a b) (a.length : Int) = resD b 0 := by
  have h1 := List.length_pos_iff.2 ha.some
  have h2 := List.length_pos_iff.2 hb.some
  refine ⟨funext fun w => beside_res1 ha w 0 ⟨by omega, by omega⟩, funext fun w => ?_⟩
  have := beside_res2 (a := a) hb w 0 h2
  simpa using this
/-- No round tells the two apart: nothing does. -/
theorem differ_none {l : List Ds} (hf : fitD l) {s t : Int} (hs : okS l.length s) (ht : okS l.length t) {H : Hy} (hc : ChH l H) (hne : H ≠ []) (hl : Cls l H.length (lastC H)) (he : ∀ y ∈ H, clsOf y.2 s = clsOf y.2 t) : resD l s = resD l t := by
  obtain ⟨H', y, rfl⟩ : ∃ H' y, H = H' ++ [y] := by
    rcases List.eq_nil_or_concat H with rfl | ⟨H', y, rfl⟩
    · exact absurd rfl hne
    · exact ⟨H', y, by simp⟩
  rw [(lastV_snoc _ _).2] at hl
  exact (cls_all hf (hc H'.length y (by simp)) (by simpa using hl) s t hs ht).1 (he y (by simp))
/-- The first round that does. -/
theorem differ_some {l : List Ds} (hf : fitD l) {s t : Int} (hs : okS l.length s) (ht : okS l.length t) {H : Hy} {y : Value × List Int} (hc : ChH l (H ++ [y])) (he : ∀ z ∈ H, clsOf z.2 s = clsOf z.2 t) (hy : clsOf y.2 s ≠ clsOf y.2 t) :
    (apartL l (H.map Prod.snd).reverse s t).length = H.length ∧ (∀ z ∈ apartL l (H.map Prod.snd).reverse s t, 0 ≤ z ∧ z ≤ 255) ∧ FirstD (resD l s) (resD l t) (apartL l (H.map Prod.snd).reverse s t) := by
  have hk := apart_first hf (H.map Prod.snd).reverse s t hs ht (fun i c hi => by
    have hil := (List.getElem?_eq_some_iff.1 hi).1
    simp at hil
    rw [List.getElem?_reverse (by simpa using hil), List.getElem?_map] at hi
    obtain ⟨z, hz, rfl⟩ := Option.map_eq_some_iff.1 hi
    have := hc (H.length - 1 - i) z (by rw [List.getElem?_append_left (by omega)]; simpa using hz)
    simpa using this) (fun h => hy (((hc H.length y (by simp)).tell s t hs ht).2 (by simpa using h))) (fun k hk => by
    simp at hk
    exact ((hc k H[k] (by rw [List.getElem?_append_left hk]; exact List.getElem?_eq_getElem hk)).tell s t hs ht).1 (he _ (List.getElem_mem hk)))
  simpa using hk
/-- Boxes, and the row of classes so far. -/
structure XD (w : World) (N : Int) (C : Nat → Obj → Prop) (ab : Nat) (A : Nat → Prop) (pre : List Hy) (V : World) : Prop where
  bel : Below w.heap.size w V
  low : ∀ k, A k → w.heap.size ≤ k ∧ k < V.heap.size
  has : ∀ k o, C k o → V.heap[k]? = some o ∧ ¬ A k
  ex : ∃ av, V.heap[ab]? = some (Obj.cells #[av] 53) ∧ ¬ A ab ∧ V.ownsRow w.heap.size 57 1 av pre.length (pre.map lastV) ∧ ∀ k, av.ownBlock = some k → ¬ A k
  eqs : ∀ x ∈ pre, clsOf (lastC x) 0 = clsOf (lastC x) N
/-- What is told of the two when they differ. -/
structure XE (w0 : World) (R : List Int → Prop) (sb tb : Nat) (A : Nat → Prop) (V : World) : Prop where
  bel : Below w0.heap.size w0 V
  low : ∀ k, A k → w0.heap.size ≤ k
  nA : ¬ A sb ∧ ¬ A tb
  ex : ∃ P, R P ∧ V.heap[sb]? = some (Obj.cells #[.string (strB P)] 9) ∧ V.heap[tb]? = some (Obj.cells #[.bool true] 4)
theorem XD.keep (w w0 : World) (N : Int) (C : Nat → Obj → Prop) (ab Bx sb tb : Nat) (lv : Value) (R : List Int → Prop) (hx : C Bx (Obj.cells #[lv] 22)) : KeepJ (FxR w lv Bx) (XD w N C ab) (XE w0 R sb tb) := by
  refine ⟨?_, ?_, ?_, ?_, ?_, ?_⟩
  · intro A pre V V' h hb
    obtain ⟨av, e1, e2, e3, e4⟩ := h.ex
    refine ⟨h.bel.trans (hb.below h.bel.size (fun k hk => (h.low k hk).1)), fun k hk => ?_, fun k o hC => ?_, ⟨av, but_blk hb e1 e2, fun hA => ?_, ownsRow_keep e3 hb e4, fun k hk hA => ?_⟩, h.eqs⟩
    · have := h.bel.size
      have := hb.size
      rcases hk with hk | hk
      · have := h.low k hk; omega
      · omega
    · obtain ⟨q1, q2⟩ := h.has k o hC
      refine ⟨but_blk hb q1 q2, fun hA => hA.elim q2 (fun hA => ?_)⟩
      have := blk_lt q1
      omega
    · refine hA.elim e2 (fun hA => ?_)
      have := blk_lt e1
      omega
    · have := (World.ownsRow.lt e3 k hk).2
      exact hA.elim (e4 k hk) (fun h => by omega)
  · intro A pre V k h hk
    exact (h.low k hk).2
  · intro A B pre V h hB
    obtain ⟨av, e1, e2, e3, e4⟩ := h.ex
    exact ⟨h.bel, fun k hk => h.low k (hB _ hk), fun k o hC => ⟨(h.has k o hC).1, fun e => (h.has k o hC).2 (hB _ e)⟩, ⟨av, e1, fun h => e2 (hB _ h), e3, fun k hk h => e4 k hk (hB _ h)⟩, h.eqs⟩
  · intro A pre V h
    exact ⟨h.bel, (h.has _ _ hx).1⟩
  · intro A B V h hB
    exact ⟨h.bel, fun k hk => h.low k (hB _ hk), ⟨fun e => h.nA.1 (hB _ e), fun e => h.nA.2 (hB _ e)⟩, h.ex⟩
  · intro A V V' h hb
    obtain ⟨P, p1, p2, p3⟩ := h.ex
    exact ⟨h.bel.trans (hb.below h.bel.size h.low), h.low, h.nA, P, p1, but_blk hb p2 h.nA.1, but_blk hb p3 h.nA.2⟩
theorem snoc_ind {α : Type} {p : List α → Prop} (h0 : p []) (h1 : ∀ l x, p l → p (l ++ [x])) (l : List α) : p l := by
  have key : ∀ (n : Nat) (l : List α), l.length = n → p l := by
    intro n
    induction n with
    | zero => intro l h; rw [List.eq_nil_of_length_eq_zero h]; exact h0
    | succ n ih =>
      intro l h
      rcases List.eq_nil_or_concat l with rfl | ⟨l', x, rfl⟩
      · exact h0
      · rw [List.concat_eq_append] at h ⊢
        exact h1 _ _ (ih l' (by simpa using h))
  exact key _ l rfl
theorem inits_last (H : Hy) : (initsH H).map lastV = H.map Prod.fst := by
  refine snoc_ind (p := fun H : Hy => (initsH H).map lastV = H.map Prod.fst) rfl (fun H y ih => ?_) H
  rw [initsH_snoc, List.map_append, ih]
  simp [(lastV_snoc H y).1]
theorem inits_mem {H : Hy} {y : Value × List Int} (hy : y ∈ H) : ∃ x ∈ initsH H, lastC x = y.2 := by
  revert hy
  refine snoc_ind (p := fun H : Hy => y ∈ H → ∃ x ∈ initsH H, lastC x = y.2) (fun h => by cases h) (fun H z ih hy => ?_) H
  rw [initsH_snoc]
  rcases List.mem_append.1 hy with hy | hy
  · obtain ⟨x, hx, he⟩ := ih hy
    exact ⟨x, by simp [hx], he⟩
  · simp at hy
    subst hy
    exact ⟨H ++ [y], by simp, (lastV_snoc _ _).2⟩
/-- A row of one's own that holds rows. -/
theorem slr_own {B : Nat} {H : Hy} {av : Value} {V : World} (h : V.ownsRow B 57 1 av H.length (H.map Prod.fst)) (hs : ∀ z ∈ H, SlI z.2 z.1 V) : SlR (H.map Prod.snd) av V := by
  rcases h.2 with ⟨rfl, h0⟩ | ⟨g, cap, cur, rfl, _, hg, hle, _⟩
  · obtain rfl := List.eq_nil_of_length_eq_zero h0
    exact ⟨none, 0, rfl, fun i l hi => (by simp at hi), fun _ => rfl, Nat.le_refl _⟩
  · refine ⟨some ⟨g, 0, none⟩, cap, by rw [List.length_map], fun i l hi => ?_, fun e => (by cases e), by rw [List.length_map]; exact hle⟩
    rw [List.getElem?_map] at hi
    obtain ⟨z, hz, rfl⟩ := Option.map_eq_some_iff.1 hi
    refine ⟨g, 0, z.1, rfl, blk_lt hg, ?_, hs z (List.mem_of_getElem? hz)⟩
    rw [Nat.zero_add]
    exact own_cells1 h (by rw [List.getElem?_map, hz]; rfl)
theorem infoIs : (Try.prog.info? 57).map (fun i => (i.zero, i.size, i.bytes)) = some (some (.slice none 0 0), 1, 24) := by kernel_rfl
end Go.Proofs.Ytdalomibilicfaa
/- The program's Differ. -/
namespace Go.Proofs.Ytdalomibilicfaa
open Go.RowKit Go.Shelf
attribute [local go_sem] Oper.semAt_some

theorem allocs4 (w : World) (o0 o1 o2 o3 : Obj) : ((((w.alloc o0).alloc o1).alloc o2).alloc o3).heap.size = w.heap.size + 4 ∧ Below w.heap.size w ((((w.alloc o0).alloc o1).alloc o2).alloc o3) ∧ ((((w.alloc o0).alloc o1).alloc o2).alloc o3).heap[w.heap.size]? = some o0 ∧ ((((w.alloc o0).alloc o1).alloc o2).alloc o3).heap[w.heap.size + 1]? = some o1 ∧ ((((w.alloc o0).alloc o1).alloc o2).alloc o3).heap[w.heap.size + 1 + 1]? = some o2 ∧ ((((w.alloc o0).alloc o1).alloc o2).alloc o3).heap[w.heap.size + 1 + 1 + 1]? = some o3 := by
  refine ⟨by simp, ((((Below.refl _ _).alloc (Nat.le_refl _) _).alloc (by simp) _).alloc (by simp; omega) _).alloc (by simp; omega) _, blk_new (blk_new (blk_new (heap_alloc_new _ _))), blk_new (blk_new ?_), blk_new ?_, ?_⟩
  · simpa using heap_alloc_new (w.alloc o0) o1
  · simpa using heap_alloc_new ((w.alloc o0).alloc o1) o2
  · simpa using heap_alloc_new (((w.alloc o0).alloc o1).alloc o2) o3
/-- The boxes of the arguments and of the results. -/
def Bxs (w : World) (av bv : Value) (V : World) : Prop := Below w.heap.size w V ∧ V.heap[w.heap.size]? = some (Obj.cells #[av] 24) ∧ V.heap[w.heap.size + 1]? = some (Obj.cells #[bv] 24) ∧ V.heap[w.heap.size + 1 + 1]? = some (Obj.cells #[.string { data := #[] }] 9) ∧ V.heap[w.heap.size + 1 + 1 + 1]? = some (Obj.cells #[.bool false] 4)
theorem Bxs.next {w : World} {av bv : Value} {V W : World} (h : Bxs w av bv V) (hb : Below V.heap.size V W) : Bxs w av bv W := by
  obtain ⟨h0, h1, h2, h3, h4⟩ := h
  exact ⟨h0.trans (hb.mono h0.size), (hb.block _ (blk_lt h1)).trans h1, (hb.block _ (blk_lt h2)).trans h2, (hb.block _ (blk_lt h3)).trans h3, (hb.block _ (blk_lt h4)).trans h4⟩

section
variable {P : Program} {ops : Array Oper} {Q : Exit → Act → World → Prop} {md : Region.Mode} {S : World → Prop} {n : Nat}
/-- Three may come up: each is carried out. -/
theorem wpAnyL_three {i j m : Nat} {oi oj om : Oper} {fuel : Nat} {listed l1 l2 l3 : Array Bool} {a : Act} {w : World} (hr : Region.ready md ops listed = [i, j, m]) (hi : ops[i]? = some oi) (hj : ops[j]? = some oj) (hm : ops[m]? = some om)
    (hl1 : listed.setIfInBounds i true = l1) (hl2 : listed.setIfInBounds j true = l2) (hl3 : listed.setIfInBounds m true = l3)
    (h1 : ∀ K' : Act → World → Prop, Shut (∀ a w, (i < n → S w) → wpAnyL P md ops Q S n fuel l1 a w → K' a w) → if Region.wanted oi (yielded ops a.tmps) = true then Oper.wp P oi a w K' Q else K' (a.put oi.dst undef) w)
    (h2 : ∀ K' : Act → World → Prop, Shut (∀ a w, (j < n → S w) → wpAnyL P md ops Q S n fuel l2 a w → K' a w) → if Region.wanted oj (yielded ops a.tmps) = true then Oper.wp P oj a w K' Q else K' (a.put oj.dst undef) w)
    (h3 : ∀ K' : Act → World → Prop, Shut (∀ a w, (m < n → S w) → wpAnyL P md ops Q S n fuel l3 a w → K' a w) → if Region.wanted om (yielded ops a.tmps) = true then Oper.wp P om a w K' Q else K' (a.put om.dst undef) w) :
    wpAnyL P md ops Q S n (fuel + 1) listed a w := by
  subst hl1 hl2 hl3
  refine ⟨fun h0 => (by rw [hr] at h0; cases h0), fun k hk => ?_⟩
  rw [hr] at hk
  simp at hk
  rcases hk with rfl | rfl | rfl
  · exact wpOp_step hi (fun K' hK => h1 K' (fun a w hS hW => hK a w ⟨hS, hW⟩))
  · exact wpOp_step hj (fun K' hK => h2 K' (fun a w hS hW => hK a w ⟨hS, hW⟩))
  · exact wpOp_step hm (fun K' hK => h3 K' (fun a w hS hW => hK a w ⟨hS, hW⟩))
end
theorem run_cell2 {t u : TypeId} {fn : Func} {p q : Tmp} (h : fn.results = #[.cell p t, .cell q u]) (tmps : Array Value) (w : World) {a b : Nat} {x y : Value} (ha : tmps[p]?.getD undef = .pointer (some ⟨a, 0, none⟩)) (hb : tmps[q]?.getD undef = .pointer (some ⟨b, 0, none⟩)) (hx : (loadVar t ⟨a, 0, none⟩).run Try.prog w = .ok x w) (hy : (loadVar u ⟨b, 0, none⟩).run Try.prog w = .ok y w) : (results fn tmps).run Try.prog w = .ok (.tuple #[x, y]) w := results_cell2 h tmps Try.prog w ha hb hx hy
/-- How far the two are laid side by side. -/
structure Pg (w : World) (av bv : Value) (L : List Ds) (o6 o7 : Option Nat) (o : Option Value) (V : World) : Prop where
  bx : Bxs w av bv V
  sz : w.heap.size + 4 ≤ V.heap.size
  h6 : ∀ k, o6 = some k → V.heap[k]? = some (Obj.cells #[.slice none 0 0] 22) ∧ w.heap.size + 4 ≤ k
  h7 : ∀ k, o7 = some k → V.heap[k]? = some (Obj.cells #[.int .i64 0] 3) ∧ w.heap.size + 4 ≤ k
  hl : ∀ lv, o = some lv → SlD L lv V
  ne : ∀ k k', o6 = some k → o7 = some k' → k ≠ k'
theorem Pg.next {w : World} {av bv : Value} {L : List Ds} {o6 o7 : Option Nat} {o : Option Value} {V W : World} (h : Pg w av bv L o6 o7 o V) (hb : Below V.heap.size V W) : Pg w av bv L o6 o7 o W :=
  ⟨h.bx.next hb, Nat.le_trans h.sz hb.size, fun k e => ⟨(hb.block _ (blk_lt (h.h6 k e).1)).trans (h.h6 k e).1, (h.h6 k e).2⟩, fun k e => ⟨(hb.block _ (blk_lt (h.h7 k e).1)).trans (h.h7 k e).1, (h.h7 k e).2⟩, fun lv e => (h.hl lv e).next hb, h.ne⟩
theorem Pg.new6 {w : World} {av bv : Value} {L : List Ds} {o7 : Option Nat} {o : Option Value} {V : World} (h : Pg w av bv L none o7 o V) : Pg w av bv L (some V.heap.size) o7 o (V.alloc (Obj.cells #[.slice none 0 0] 22)) := by
  have h1 := h.next (below_box V (.slice none 0 0) 22)
  refine ⟨h1.bx, h1.sz, fun k e => ?_, h1.h7, h1.hl, fun k k' e e' => ?_⟩
  · cases e; exact ⟨heap_alloc_new _ _, h.sz⟩
  · cases e
    have := blk_lt (h.h7 k' e').1
    omega
theorem Pg.new7 {w : World} {av bv : Value} {L : List Ds} {o6 : Option Nat} {o : Option Value} {V : World} (h : Pg w av bv L o6 none o V) : Pg w av bv L o6 (some V.heap.size) o (V.alloc (Obj.cells #[.int .i64 0] 3)) := by
  have h1 := h.next (below_box V (.int .i64 0) 3)
  refine ⟨h1.bx, h1.sz, h1.h6, fun k e => ?_, h1.hl, fun k k' e e' => ?_⟩
  · cases e; exact ⟨heap_alloc_new _ _, h.sz⟩
  · cases e'
    have := blk_lt (h.h6 k e).1
    omega
theorem Pg.call {w : World} {av bv lv : Value} {L : List Ds} {o6 o7 : Option Nat} {V W : World} (h : Pg w av bv L o6 o7 none V) (hb : Below V.heap.size V W) (hl : SlD L lv W) : Pg w av bv L o6 o7 (some lv) W := by
  have h1 := h.next hb
  exact ⟨h1.bx, h1.sz, h1.h6, h1.h7, fun lv' e => by cases e; exact hl, h1.ne⟩
theorem Pg.cells {w : World} {av bv : Value} {L : List Ds} {o6 o7 : Option Nat} {o : Option Value} {V : World} (h : Pg w av bv L o6 o7 o V) : V.cell? ⟨w.heap.size, 0, none⟩ = some av ∧ V.cell? ⟨w.heap.size + 1, 0, none⟩ = some bv := by
  obtain ⟨_, h1, h2, _⟩ := h.bx
  exact ⟨by rw [Lib.cell_of_heap h1]; rfl, by rw [Lib.cell_of_heap h2]; rfl⟩
theorem Pg.box6 {w : World} {av bv : Value} {L : List Ds} {k : Nat} {o7 : Option Nat} {o : Option Value} {V : World} (h : Pg w av bv L (some k) o7 o V) : V.cell? ⟨k, 0, none⟩ = some (.slice none 0 0) ∧ V.frozen? ⟨k, 0, none⟩ = false := ⟨by rw [Lib.cell_of_heap (h.h6 k rfl).1]; rfl, Lib.frozen_of_heap (h.h6 k rfl).1 _⟩
theorem Pg.box7 {w : World} {av bv : Value} {L : List Ds} {k : Nat} {o6 : Option Nat} {o : Option Value} {V : World} (h : Pg w av bv L o6 (some k) o V) : V.cell? ⟨k, 0, none⟩ = some (.int .i64 0) ∧ V.frozen? ⟨k, 0, none⟩ = false := ⟨by rw [Lib.cell_of_heap (h.h7 k rfl).1]; rfl, Lib.frozen_of_heap (h.h7 k rfl).1 _⟩
theorem Pg.set6 {w : World} {av bv lv : Value} {L : List Ds} {k j : Nat} {V : World} (h : Pg w av bv L (some k) (some j) (some lv) V) : (V.setCell ⟨k, 0, none⟩ lv).cell? ⟨j, 0, none⟩ = some (.int .i64 0) ∧ (V.setCell ⟨k, 0, none⟩ lv).frozen? ⟨j, 0, none⟩ = false := by
  have h1 := set_blk (j := k) (o := 0) (v := lv) (h.h7 j rfl).1 (fun e => h.ne k j rfl rfl e.symm)
  exact ⟨by rw [Lib.cell_of_heap h1]; rfl, Lib.frozen_of_heap h1 _⟩
theorem Pg.cells6 {w : World} {av bv lv : Value} {L : List Ds} {k : Nat} {o7 : Option Nat} {o : Option Value} {V : World} (h : Pg w av bv L (some k) o7 o V) : (V.setCell ⟨k, 0, none⟩ lv).cell? ⟨w.heap.size, 0, none⟩ = some av ∧ (V.setCell ⟨k, 0, none⟩ lv).cell? ⟨w.heap.size + 1, 0, none⟩ = some bv := by
  obtain ⟨_, h1, h2, _⟩ := h.bx
  have hk := (h.h6 k rfl).2
  exact ⟨by rw [Lib.cell_of_heap (set_blk (j := k) (o := 0) (v := lv) h1 (by omega))]; rfl, by rw [Lib.cell_of_heap (set_blk (j := k) (o := 0) (v := lv) h2 (by omega))]; rfl⟩
/-- Laid side by side. -/
def Laid (w : World) (av bv : Value) (L : List Ds) (n : Int) (k6 k7 : Nat) (lv : Value) (V : World) : Prop :=
  Bxs w av bv V ∧ V.heap[k6]? = some (Obj.cells #[lv] 22) ∧ V.heap[k7]? = some (Obj.cells #[.int .i64 n] 3) ∧ SlD L lv V ∧ w.heap.size + 4 ≤ k6 ∧ w.heap.size + 4 ≤ k7
theorem Pg.fin {w : World} {av bv lv : Value} {L : List Ds} {k j : Nat} {V : World} (h : Pg w av bv L (some k) (some j) (some lv) V) (n : Int) : Laid w av bv L n k j lv ((V.setCell ⟨k, 0, none⟩ lv).setCell ⟨j, 0, none⟩ (.int .i64 n)) := by
  obtain ⟨a1, a2⟩ := h.h6 k rfl
  obtain ⟨b1, b2⟩ := h.h7 j rfl
  have hne := h.ne k j rfl rfl
  obtain ⟨x0, x1, x2, x3, x4⟩ := h.bx
  have r1 : (V.setCell ⟨k, 0, none⟩ lv).heap[j]? = some (Obj.cells #[.int .i64 0] 3) := set_blk b1 (fun e => hne e.symm)
  have s1 : But (fun i => i = k ∨ i = j) V ((V.setCell ⟨k, 0, none⟩ lv).setCell ⟨j, 0, none⟩ (.int .i64 n)) := ((But.refl _ _).setCell _ _ (.inr (.inl rfl))).setCell _ _ (.inr (.inr rfl))
  have key : ∀ q, q < w.heap.size + 4 → ¬ (q = k ∨ q = j) := fun q hq h => by omega
  refine ⟨⟨x0.trans (s1.below x0.size (fun q hq => by omega)), but_blk s1 x1 (key _ (by omega)), but_blk s1 x2 (key _ (by omega)), but_blk s1 x3 (key _ (by omega)), but_blk s1 x4 (key _ (by omega))⟩, set_blk (by simpa using blk_set (o := 0) a1 lv) hne, by simpa using blk_set (o := 0) r1 (.int .i64 n), ((h.hl lv rfl).box1 a1 lv).box1 r1 (.int .i64 n), a2, b2⟩

set_option maxRecDepth 100000 in
set_option maxHeartbeats 3200000 in
theorem differ_any (a b : List Ds) (u v : Value) (w : World) (hu : SlD a u w) (hv : SlD b v w) (hfa : fitB a = true) (hfb : fitB b = true) (hal : a.length ≤ 60) (hbl : b.length ≤ 60) (haa : ∀ s ∈ a, s.arcs.length ≤ 100000) (hbb : ∀ s ∈ b, s.arcs.length ≤ 100000) :
    Calls Try.prog 12 #[.agg #[u], .agg #[v]] w fun e w' => Below w.heap.size w w' ∧ ((e = .returned (.tuple #[.string ⟨#[]⟩, .bool false]) ∧ resD a 0 = resD b 0) ∨ ∃ P, e = .returned (.tuple #[.string (strB P), .bool true]) ∧ P.length ≤ 50000 ∧ (∀ z ∈ P, 0 ≤ z ∧ z ≤ 255) ∧ FirstD (resD a 0) (resD b 0) P) := by
  have ffa := (fitB_fit hfa).1
  have ffb := (fitB_fit hfb).1
  have HFA : Hid (∀ W, Below w.heap.size w W → Calls Try.prog 6 #[.agg #[u]] W fun e w' => e = .returned (.bool true) ∧ Below W.heap.size W w') := fun W hW => by
    have := fit_any a u W (hu.next hW)
    rw [hfa] at this
    exact this
  have HFB : Hid (∀ W, Below w.heap.size w W → Calls Try.prog 6 #[.agg #[v]] W fun e w' => e = .returned (.bool true) ∧ Below W.heap.size W w') := fun W hW => by
    have := fit_any b v W (hv.next hW)
    rw [hfb] at this
    exact this
  have HBE : Hid (∀ W, Below w.heap.size w W → Calls Try.prog 28 #[u, v] W fun e w' => ∃ lv, e = .returned lv ∧ SlD (besideL a b) lv w' ∧ Below W.heap.size W w') := fun W hW => beside_any a b u v W (hu.next hW) (hv.next hW) (by omega) (by omega) haa (fun s hs => ⟨hbb s hs, fun x hx => by have := (ffb.arcs s hs).2 x hx; omega⟩)
  have HFF : Hid (fitD a ∧ fitD b) := ⟨ffa, ffb⟩
  have HAR : Hid (∀ s ∈ besideL a b, s.arcs.length ≤ 100000) := fun s hs => by
    unfold besideL at hs
    rcases List.mem_append.1 hs with hs | hs
    · exact haa s hs
    · obtain ⟨t, ht, rfl⟩ := List.mem_map.1 hs
      simpa [shiftS] using hbb t ht
  obtain ⟨ua, uc, rfl, _⟩ := hu
  obtain ⟨va, vc, rfl, _⟩ := hv
  clear haa hbb ffa ffb hfa hfb
  refine (callsIn_wide (n := 5)).1 ?_
  refine callsIn_of_wp_marks Try.func12 rfl trivial ?_ rfl
  simp only [Try.ntmps12, List.size_toArray, List.length_cons, List.length_nil, Nat.reduceAdd, Nat.reduceSub, Array.replicate_succ, Array.replicate_zero, List.push_toArray, List.append_toArray, List.nil_append, List.cons_append]
  have H4 : Hid (Bxs w (.slice ua a.length uc) (.slice va b.length vc) ((((w.alloc (Obj.cells #[.slice ua a.length uc] 24)).alloc (Obj.cells #[.slice va b.length vc] 24)).alloc (Obj.cells #[.string { data := #[] }] 9)).alloc (Obj.cells #[.bool false] 4)) ∧ ((((w.alloc (Obj.cells #[.slice ua a.length uc] 24)).alloc (Obj.cells #[.slice va b.length vc] 24)).alloc (Obj.cells #[.string { data := #[] }] 9)).alloc (Obj.cells #[.bool false] 4)).heap.size = w.heap.size + 4) := ⟨(allocs4 w _ _ _ _).2, (allocs4 w _ _ _ _).1⟩
  gi_wp2_with fail
  have CFA := HFA.out _ H4.out.1.1
  generalize ((((w.alloc (Obj.cells #[.slice ua a.length uc] 24)).alloc (Obj.cells #[.slice va b.length vc] 24)).alloc (Obj.cells #[.string { data := #[] }] 9)).alloc (Obj.cells #[.bool false] 4)) = W4 at *
  refine ⟨trivial, (callsIn_wide.2 CFA).mono ?_⟩
  rintro e W5 ⟨rfl, hb5⟩
  have H5 : Hid (Bxs w (.slice ua a.length uc) (.slice va b.length vc) W5 ∧ w.heap.size + 4 ≤ W5.heap.size) := ⟨H4.out.1.next hb5, by have := H4.out.2; have := hb5.size; omega⟩
  clear CFA hb5 H4
  have k1 : W5.cell? ⟨w.heap.size + 1, 0, none⟩ = some (.slice va b.length vc) := by rw [Lib.cell_of_heap H5.out.1.2.2.1]; rfl
  have CFB := HFB.out _ H5.out.1.1
  gi_wp2_with fail
  refine ⟨trivial, (callsIn_wide.2 CFB).mono ?_⟩
  rintro e W6 ⟨rfl, hb6⟩
  have H6 : Hid (Bxs w (.slice ua a.length uc) (.slice va b.length vc) W6 ∧ w.heap.size + 4 ≤ W6.heap.size) := ⟨H5.out.1.next hb6, by have := H5.out.2; have := hb6.size; omega⟩
  clear CFB hb6 H5 k1
  gi_wp2_with fail
  refine wpIn_wide.2 ?_
  go_cut [6, 7] from 18 (fun t6 t7 wx => ∃ k6 k7 la lc, t6 = .pointer (some ⟨k6, 0, none⟩) ∧ t7 = .pointer (some ⟨k7, 0, none⟩) ∧ Hid (Laid w (.slice ua a.length uc) (.slice va b.length vc) (besideL a b) a.length k6 k7 (.slice la (besideL a b).length lc) wx))
  case first =>
    have PG : Pg w (.slice ua a.length uc) (.slice va b.length vc) (besideL a b) none none none W6.drew := ⟨H6.out.1.next (below_drewN (Below.refl _ _) 1), H6.out.2, fun k e => (by cases e), fun k e => (by cases e), fun k e => (by cases e), fun k k' e => (by cases e)⟩
    have HS := PG.cells
    clear H6
    refine wp_region_noPanic ?_
    refine wp_region_L (fun W => W.cell? ⟨w.heap.size, 0, none⟩ = some (.slice ua a.length uc) ∧ W.cell? ⟨w.heap.size + 1, 0, none⟩ = some (.slice va b.length vc)) 11 (by kernel_rfl) 12 rfl ?_
    generalize W6.drew = W0 at *
    refine wpAnyL_take' (i := 0) (v := ?_) (oi := { dst := some 18, op := Op.fieldAddr 24 (Operand.tmp 2) 0, type := 0, pos := "dfa.go:77", after := #[], guard := none }) rfl (by kernel_rfl) (by kernel_rfl) (by kernel_rfl) (by kernel_rfl) rfl (fun _ _ _ h => h) (Or.inl ⟨by rfl, ?_⟩) HS ?_
    rotate_left
    · intro W hSW
      go_simp
      try with_reducible rfl
    simp only [Act.put, List.setIfInBounds_toArray, List.set_cons_zero, List.set_cons_succ]
    refine wpAnyL_take' (i := 1) (v := ?_) (oi := { dst := some 19, op := Op.load 22 (Operand.tmp 18), type := 22, pos := "dfa.go:77", after := #[{ on := 0, ground := Ground.data }], guard := none }) rfl (by kernel_rfl) (by kernel_rfl) (by kernel_rfl) (by kernel_rfl) rfl (fun _ _ _ h => h) (Or.inl ⟨by rfl, ?_⟩) HS ?_
    rotate_left
    · intro W hSW
      go_simp
      try with_reducible rfl
    simp only [Act.put, List.setIfInBounds_toArray, List.set_cons_zero, List.set_cons_succ]
    refine wpAnyL_take' (i := 2) (v := ?_) (oi := { dst := some 20, op := Op.fieldAddr 24 (Operand.tmp 3) 0, type := 0, pos := "dfa.go:77", after := #[], guard := none }) rfl (by kernel_rfl) (by kernel_rfl) (by kernel_rfl) (by kernel_rfl) rfl (fun _ _ _ h => h) (Or.inl ⟨by rfl, ?_⟩) HS ?_
    rotate_left
    · intro W hSW
      go_simp
      try with_reducible rfl
    simp only [Act.put, List.setIfInBounds_toArray, List.set_cons_zero, List.set_cons_succ]
    refine wpAnyL_take' (i := 3) (v := ?_) (oi := { dst := some 21, op := Op.load 22 (Operand.tmp 20), type := 22, pos := "dfa.go:77", after := #[{ on := 2, ground := Ground.data }], guard := none }) rfl (by kernel_rfl) (by kernel_rfl) (by kernel_rfl) (by kernel_rfl) rfl (fun _ _ _ h => h) (Or.inl ⟨by rfl, ?_⟩) HS ?_
    rotate_left
    · intro W hSW
      go_simp
      try with_reducible rfl
    simp only [Act.put, List.setIfInBounds_toArray, List.set_cons_zero, List.set_cons_succ]
    refine wpAnyL_take' (i := 5) (v := ?_) (oi := { dst := some 23, op := Op.fieldAddr 24 (Operand.tmp 2) 0, type := 0, pos := "dfa.go:77", after := #[], guard := none }) rfl (by kernel_rfl) (by kernel_rfl) (by kernel_rfl) (by kernel_rfl) rfl (fun _ _ _ h => h) (Or.inl ⟨by rfl, ?_⟩) HS ?_
    rotate_left
    · intro W hSW
      go_simp
      try with_reducible rfl
    simp only [Act.put, List.setIfInBounds_toArray, List.set_cons_zero, List.set_cons_succ]
    refine wpAnyL_take' (i := 6) (v := ?_) (oi := { dst := some 24, op := Op.load 22 (Operand.tmp 23), type := 22, pos := "dfa.go:77", after := #[{ on := 5, ground := Ground.data }], guard := none }) rfl (by kernel_rfl) (by kernel_rfl) (by kernel_rfl) (by kernel_rfl) rfl (fun _ _ _ h => h) (Or.inl ⟨by rfl, ?_⟩) HS ?_
    rotate_left
    · intro W hSW
      go_simp
      try with_reducible rfl
    simp only [Act.put, List.setIfInBounds_toArray, List.set_cons_zero, List.set_cons_succ]
    refine wpAnyL_take' (i := 7) (v := ?_) (oi := { dst := some 25, op := Op.call { callee := Callee.builtin Builtin.len, args := #[Operand.tmp 24], argTypes := #[22] }, type := 3, pos := "dfa.go:77", after := #[{ on := 6, ground := Ground.data }], guard := none }) rfl (by kernel_rfl) (by kernel_rfl) (by kernel_rfl) (by kernel_rfl) rfl (fun _ _ _ h => h) (Or.inl ⟨by rfl, ?_⟩) HS ?_
    rotate_left
    · intro W hSW
      go_simp
      try with_reducible rfl
    simp only [Act.put, List.setIfInBounds_toArray, List.set_cons_zero, List.set_cons_succ]
    refine wpAnyL_three (i := 4) (j := 8) (m := 9) (oi := { dst := some 22, op := Op.call { callee := Callee.value (Operand.func 28), args := #[Operand.tmp 19, Operand.tmp 21], argTypes := #[22, 22] }, type := 22, pos := "dfa.go:77", after := #[{ on := 1, ground := Ground.data }, { on := 3, ground := Ground.data }], guard := none }) (oj := { dst := some 6, op := Op.alloc 22, type := 0, pos := "dfa.go:77", after := #[], guard := none }) (om := { dst := some 7, op := Op.alloc 3, type := 0, pos := "dfa.go:77", after := #[], guard := none }) (by kernel_rfl) rfl rfl rfl rfl rfl rfl (fun K hK => ?_) (fun K hK => ?_) (fun K hK => ?_)
    · go_simp
      refine (HBE.out _ PG.bx.1).mono ?_
      rintro e W7 ⟨lv, rfl, hsd, hb7⟩
      have PG1 := PG.call hb7 hsd
      obtain ⟨la, lc, rfl, _⟩ := id hsd
      refine hK.out _ _ (fun _ => PG1.cells) ?_
      clear hK
      try simp only [Act.put, List.setIfInBounds_toArray, List.set_cons_zero, List.set_cons_succ]
      refine wpAnyL_two (i := 8) (j := 9) (oi := { dst := some 6, op := Op.alloc 22, type := 0, pos := "dfa.go:77", after := #[], guard := none }) (oj := { dst := some 7, op := Op.alloc 3, type := 0, pos := "dfa.go:77", after := #[], guard := none }) (by kernel_rfl) rfl rfl rfl rfl (fun K hK => ?_) (fun K hK => ?_)
      · go_simp
        have PG2 := PG1.new6
        refine hK.out _ _ (fun _ => PG2.cells) ?_
        clear hK
        try simp only [Act.put, List.setIfInBounds_toArray, List.set_cons_zero, List.set_cons_succ]
        generalize (W7.alloc (Obj.cells #[.slice none 0 0] 22)) = V2 at *
        generalize W7.heap.size = k6 at *
        refine wpAnyL_one' (i := 9) (o := { dst := some 7, op := Op.alloc 3, type := 0, pos := "dfa.go:77", after := #[], guard := none }) (by kernel_rfl) rfl rfl (fun K hK => ?_)
        go_simp
        have PG3 := PG2.new7
        refine hK.out _ _ (fun _ => PG3.cells) ?_
        clear hK
        try simp only [Act.put, List.setIfInBounds_toArray, List.set_cons_zero, List.set_cons_succ]
        generalize (V2.alloc (Obj.cells #[.int .i64 0] 3)) = V3 at *
        generalize V2.heap.size = k7 at *
        obtain ⟨b1, b2⟩ := PG3.box6
        obtain ⟨b3, b4⟩ := PG3.set6
        refine wpAnyL_one' (i := 10) (o := { dst := none, op := Op.store 22 (Operand.tmp 6) (Operand.tmp 22), type := 0, pos := "dfa.go:77", after := #[{ on := 8, ground := Ground.data }, { on := 4, ground := Ground.data }, { on := 4, ground := Ground.chain }, { on := 0, ground := Ground.phase }, { on := 1, ground := Ground.phase }, { on := 2, ground := Ground.phase }, { on := 3, ground := Ground.phase }, { on := 4, ground := Ground.phase }, { on := 5, ground := Ground.textOnly Departure.lateStores }, { on := 6, ground := Ground.textOnly Departure.lateStores }, { on := 7, ground := Ground.textOnly Departure.lateStoresUnsure }, { on := 8, ground := Ground.phase }, { on := 9, ground := Ground.phase }], guard := none }) (by kernel_rfl) rfl rfl (fun K hK => ?_)
        go_simp
        refine hK.out _ _ (fun _ => PG3.cells6) ?_
        clear hK
        try simp only [Act.put, List.setIfInBounds_toArray, List.set_cons_zero, List.set_cons_succ]
        refine wpAnyL_one' (i := 11) (o := { dst := none, op := Op.store 3 (Operand.tmp 7) (Operand.tmp 25), type := 0, pos := "dfa.go:77", after := #[{ on := 9, ground := Ground.data }, { on := 7, ground := Ground.data }, { on := 10, ground := Ground.chain }, { on := 0, ground := Ground.phase }, { on := 1, ground := Ground.phase }, { on := 2, ground := Ground.phase }, { on := 3, ground := Ground.phase }, { on := 4, ground := Ground.phase }, { on := 5, ground := Ground.phase }, { on := 6, ground := Ground.phase }, { on := 7, ground := Ground.phase }, { on := 8, ground := Ground.phase }, { on := 9, ground := Ground.phase }, { on := 10, ground := Ground.phase }], guard := none }) (by kernel_rfl) rfl rfl (fun K hK => ?_)
        go_simp
        refine hK.out _ _ (fun h => absurd h (by decide)) ?_
        clear hK
        try simp only [Act.put, List.setIfInBounds_toArray, List.set_cons_zero, List.set_cons_succ]
        refine wpAnyL_done (by kernel_rfl) ?_ _
        refine NoPanic.normal ?_
        have PF := PG3.fin a.length
        go_wp2_with fail
        go_meet
        exact ⟨_, _, la, lc, rfl, rfl, PF⟩
      · go_simp
        have PG2 := PG1.new7
        refine hK.out _ _ (fun _ => PG2.cells) ?_
        clear hK
        try simp only [Act.put, List.setIfInBounds_toArray, List.set_cons_zero, List.set_cons_succ]
        generalize (W7.alloc (Obj.cells #[.int .i64 0] 3)) = V2 at *
        generalize W7.heap.size = k7 at *
        refine wpAnyL_one' (i := 8) (o := { dst := some 6, op := Op.alloc 22, type := 0, pos := "dfa.go:77", after := #[], guard := none }) (by kernel_rfl) rfl rfl (fun K hK => ?_)
        go_simp
        have PG3 := PG2.new6
        refine hK.out _ _ (fun _ => PG3.cells) ?_
        clear hK
        try simp only [Act.put, List.setIfInBounds_toArray, List.set_cons_zero, List.set_cons_succ]
        generalize (V2.alloc (Obj.cells #[.slice none 0 0] 22)) = V3 at *
        generalize V2.heap.size = k6 at *
        obtain ⟨b1, b2⟩ := PG3.box6
        obtain ⟨b3, b4⟩ := PG3.set6
        refine wpAnyL_one' (i := 10) (o := { dst := none, op := Op.store 22 (Operand.tmp 6) (Operand.tmp 22), type := 0, pos := "dfa.go:77", after := #[{ on := 8, ground := Ground.data }, { on := 4, ground := Ground.data }, { on := 4, ground := Ground.chain }, { on := 0, ground := Ground.phase }, { on := 1, ground := Ground.phase }, { on := 2, ground := Ground.phase }, { on := 3, ground := Ground.phase }, { on := 4, ground := Ground.phase }, { on := 5, ground := Ground.textOnly Departure.lateStores }, { on := 6, ground := Ground.textOnly Departure.lateStores }, { on := 7, ground := Ground.textOnly Departure.lateStoresUnsure }, { on := 8, ground := Ground.phase }, { on := 9, ground := Ground.phase }], guard := none }) (by kernel_rfl) rfl rfl (fun K hK => ?_)
        go_simp
        refine hK.out _ _ (fun _ => PG3.cells6) ?_
        clear hK
        try simp only [Act.put, List.setIfInBounds_toArray, List.set_cons_zero, List.set_cons_succ]
        refine wpAnyL_one' (i := 11) (o := { dst := none, op := Op.store 3 (Operand.tmp 7) (Operand.tmp 25), type := 0, pos := "dfa.go:77", after := #[{ on := 9, ground := Ground.data }, { on := 7, ground := Ground.data }, { on := 10, ground := Ground.chain }, { on := 0, ground := Ground.phase }, { on := 1, ground := Ground.phase }, { on := 2, ground := Ground.phase }, { on := 3, ground := Ground.phase }, { on := 4, ground := Ground.phase }, { on := 5, ground := Ground.phase }, { on := 6, ground := Ground.phase }, { on := 7, ground := Ground.phase }, { on := 8, ground := Ground.phase }, { on := 9, ground := Ground.phase }, { on := 10, ground := Ground.phase }], guard := none }) (by kernel_rfl) rfl rfl (fun K hK => ?_)
        go_simp
        refine hK.out _ _ (fun h => absurd h (by decide)) ?_
        clear hK
        try simp only [Act.put, List.setIfInBounds_toArray, List.set_cons_zero, List.set_cons_succ]
        refine wpAnyL_done (by kernel_rfl) ?_ _
        refine NoPanic.normal ?_
        have PF := PG3.fin a.length
        go_wp2_with fail
        go_meet
        exact ⟨_, _, la, lc, rfl, rfl, PF⟩
    · go_simp
      have PG1 := PG.new6
      refine hK.out _ _ (fun _ => PG1.cells) ?_
      clear hK
      try simp only [Act.put, List.setIfInBounds_toArray, List.set_cons_zero, List.set_cons_succ]
      generalize (W0.alloc (Obj.cells #[.slice none 0 0] 22)) = V1 at *
      generalize W0.heap.size = k6 at *
      refine wpAnyL_two (i := 4) (j := 9) (oi := { dst := some 22, op := Op.call { callee := Callee.value (Operand.func 28), args := #[Operand.tmp 19, Operand.tmp 21], argTypes := #[22, 22] }, type := 22, pos := "dfa.go:77", after := #[{ on := 1, ground := Ground.data }, { on := 3, ground := Ground.data }], guard := none }) (oj := { dst := some 7, op := Op.alloc 3, type := 0, pos := "dfa.go:77", after := #[], guard := none }) (by kernel_rfl) rfl rfl rfl rfl (fun K hK => ?_) (fun K hK => ?_)
      · go_simp
        refine (HBE.out _ PG1.bx.1).mono ?_
        rintro e W7 ⟨lv, rfl, hsd, hb7⟩
        have PG2 := PG1.call hb7 hsd
        obtain ⟨la, lc, rfl, _⟩ := id hsd
        refine hK.out _ _ (fun _ => PG2.cells) ?_
        clear hK
        try simp only [Act.put, List.setIfInBounds_toArray, List.set_cons_zero, List.set_cons_succ]
        refine wpAnyL_one' (i := 9) (o := { dst := some 7, op := Op.alloc 3, type := 0, pos := "dfa.go:77", after := #[], guard := none }) (by kernel_rfl) rfl rfl (fun K hK => ?_)
        go_simp
        have PG3 := PG2.new7
        refine hK.out _ _ (fun _ => PG3.cells) ?_
        clear hK
        try simp only [Act.put, List.setIfInBounds_toArray, List.set_cons_zero, List.set_cons_succ]
        generalize (W7.alloc (Obj.cells #[.int .i64 0] 3)) = V3 at *
        generalize W7.heap.size = k7 at *
        obtain ⟨b1, b2⟩ := PG3.box6
        obtain ⟨b3, b4⟩ := PG3.set6
        refine wpAnyL_one' (i := 10) (o := { dst := none, op := Op.store 22 (Operand.tmp 6) (Operand.tmp 22), type := 0, pos := "dfa.go:77", after := #[{ on := 8, ground := Ground.data }, { on := 4, ground := Ground.data }, { on := 4, ground := Ground.chain }, { on := 0, ground := Ground.phase }, { on := 1, ground := Ground.phase }, { on := 2, ground := Ground.phase }, { on := 3, ground := Ground.phase }, { on := 4, ground := Ground.phase }, { on := 5, ground := Ground.textOnly Departure.lateStores }, { on := 6, ground := Ground.textOnly Departure.lateStores }, { on := 7, ground := Ground.textOnly Departure.lateStoresUnsure }, { on := 8, ground := Ground.phase }, { on := 9, ground := Ground.phase }], guard := none }) (by kernel_rfl) rfl rfl (fun K hK => ?_)
        go_simp
        refine hK.out _ _ (fun _ => PG3.cells6) ?_
        clear hK
        try simp only [Act.put, List.setIfInBounds_toArray, List.set_cons_zero, List.set_cons_succ]
        refine wpAnyL_one' (i := 11) (o := { dst := none, op := Op.store 3 (Operand.tmp 7) (Operand.tmp 25), type := 0, pos := "dfa.go:77", after := #[{ on := 9, ground := Ground.data }, { on := 7, ground := Ground.data }, { on := 10, ground := Ground.chain }, { on := 0, ground := Ground.phase }, { on := 1, ground := Ground.phase }, { on := 2, ground := Ground.phase }, { on := 3, ground := Ground.phase }, { on := 4, ground := Ground.phase }, { on := 5, ground := Ground.phase }, { on := 6, ground := Ground.phase }, { on := 7, ground := Ground.phase }, { on := 8, ground := Ground.phase }, { on := 9, ground := Ground.phase }, { on := 10, ground := Ground.phase }], guard := none }) (by kernel_rfl) rfl rfl (fun K hK => ?_)
        go_simp
        refine hK.out _ _ (fun h => absurd h (by decide)) ?_
        clear hK
        try simp only [Act.put, List.setIfInBounds_toArray, List.set_cons_zero, List.set_cons_succ]
        refine wpAnyL_done (by kernel_rfl) ?_ _
        refine NoPanic.normal ?_
        have PF := PG3.fin a.length
        go_wp2_with fail
        go_meet
        exact ⟨_, _, la, lc, rfl, rfl, PF⟩
      · go_simp
        have PG2 := PG1.new7
        refine hK.out _ _ (fun _ => PG2.cells) ?_
        clear hK
        try simp only [Act.put, List.setIfInBounds_toArray, List.set_cons_zero, List.set_cons_succ]
        generalize (V1.alloc (Obj.cells #[.int .i64 0] 3)) = V2 at *
        generalize V1.heap.size = k7 at *
        refine wpAnyL_one' (i := 4) (o := { dst := some 22, op := Op.call { callee := Callee.value (Operand.func 28), args := #[Operand.tmp 19, Operand.tmp 21], argTypes := #[22, 22] }, type := 22, pos := "dfa.go:77", after := #[{ on := 1, ground := Ground.data }, { on := 3, ground := Ground.data }], guard := none }) (by kernel_rfl) rfl rfl (fun K hK => ?_)
        go_simp
        refine (HBE.out _ PG2.bx.1).mono ?_
        rintro e W7 ⟨lv, rfl, hsd, hb7⟩
        have PG3 := PG2.call hb7 hsd
        obtain ⟨la, lc, rfl, _⟩ := id hsd
        refine hK.out _ _ (fun _ => PG3.cells) ?_
        clear hK
        try simp only [Act.put, List.setIfInBounds_toArray, List.set_cons_zero, List.set_cons_succ]
        obtain ⟨b1, b2⟩ := PG3.box6
        obtain ⟨b3, b4⟩ := PG3.set6
        refine wpAnyL_one' (i := 10) (o := { dst := none, op := Op.store 22 (Operand.tmp 6) (Operand.tmp 22), type := 0, pos := "dfa.go:77", after := #[{ on := 8, ground := Ground.data }, { on := 4, ground := Ground.data }, { on := 4, ground := Ground.chain }, { on := 0, ground := Ground.phase }, { on := 1, ground := Ground.phase }, { on := 2, ground := Ground.phase }, { on := 3, ground := Ground.phase }, { on := 4, ground := Ground.phase }, { on := 5, ground := Ground.textOnly Departure.lateStores }, { on := 6, ground := Ground.textOnly Departure.lateStores }, { on := 7, ground := Ground.textOnly Departure.lateStoresUnsure }, { on := 8, ground := Ground.phase }, { on := 9, ground := Ground.phase }], guard := none }) (by kernel_rfl) rfl rfl (fun K hK => ?_)
        go_simp
        refine hK.out _ _ (fun _ => PG3.cells6) ?_
        clear hK
        try simp only [Act.put, List.setIfInBounds_toArray, List.set_cons_zero, List.set_cons_succ]
        refine wpAnyL_one' (i := 11) (o := { dst := none, op := Op.store 3 (Operand.tmp 7) (Operand.tmp 25), type := 0, pos := "dfa.go:77", after := #[{ on := 9, ground := Ground.data }, { on := 7, ground := Ground.data }, { on := 10, ground := Ground.chain }, { on := 0, ground := Ground.phase }, { on := 1, ground := Ground.phase }, { on := 2, ground := Ground.phase }, { on := 3, ground := Ground.phase }, { on := 4, ground := Ground.phase }, { on := 5, ground := Ground.phase }, { on := 6, ground := Ground.phase }, { on := 7, ground := Ground.phase }, { on := 8, ground := Ground.phase }, { on := 9, ground := Ground.phase }, { on := 10, ground := Ground.phase }], guard := none }) (by kernel_rfl) rfl rfl (fun K hK => ?_)
        go_simp
        refine hK.out _ _ (fun h => absurd h (by decide)) ?_
        clear hK
        try simp only [Act.put, List.setIfInBounds_toArray, List.set_cons_zero, List.set_cons_succ]
        refine wpAnyL_done (by kernel_rfl) ?_ _
        refine NoPanic.normal ?_
        have PF := PG3.fin a.length
        go_wp2_with fail
        go_meet
        exact ⟨_, _, la, lc, rfl, rfl, PF⟩
    · go_simp
      have PG1 := PG.new7
      refine hK.out _ _ (fun _ => PG1.cells) ?_
      clear hK
      try simp only [Act.put, List.setIfInBounds_toArray, List.set_cons_zero, List.set_cons_succ]
      generalize (W0.alloc (Obj.cells #[.int .i64 0] 3)) = V1 at *
      generalize W0.heap.size = k7 at *
      refine wpAnyL_two (i := 4) (j := 8) (oi := { dst := some 22, op := Op.call { callee := Callee.value (Operand.func 28), args := #[Operand.tmp 19, Operand.tmp 21], argTypes := #[22, 22] }, type := 22, pos := "dfa.go:77", after := #[{ on := 1, ground := Ground.data }, { on := 3, ground := Ground.data }], guard := none }) (oj := { dst := some 6, op := Op.alloc 22, type := 0, pos := "dfa.go:77", after := #[], guard := none }) (by kernel_rfl) rfl rfl rfl rfl (fun K hK => ?_) (fun K hK => ?_)
      · go_simp
        refine (HBE.out _ PG1.bx.1).mono ?_
        rintro e W7 ⟨lv, rfl, hsd, hb7⟩
        have PG2 := PG1.call hb7 hsd
        obtain ⟨la, lc, rfl, _⟩ := id hsd
        refine hK.out _ _ (fun _ => PG2.cells) ?_
        clear hK
        try simp only [Act.put, List.setIfInBounds_toArray, List.set_cons_zero, List.set_cons_succ]
        refine wpAnyL_one' (i := 8) (o := { dst := some 6, op := Op.alloc 22, type := 0, pos := "dfa.go:77", after := #[], guard := none }) (by kernel_rfl) rfl rfl (fun K hK => ?_)
        go_simp
        have PG3 := PG2.new6
        refine hK.out _ _ (fun _ => PG3.cells) ?_
        clear hK
        try simp only [Act.put, List.setIfInBounds_toArray, List.set_cons_zero, List.set_cons_succ]
        generalize (W7.alloc (Obj.cells #[.slice none 0 0] 22)) = V3 at *
        generalize W7.heap.size = k6 at *
        obtain ⟨b1, b2⟩ := PG3.box6
        obtain ⟨b3, b4⟩ := PG3.set6
        refine wpAnyL_one' (i := 10) (o := { dst := none, op := Op.store 22 (Operand.tmp 6) (Operand.tmp 22), type := 0, pos := "dfa.go:77", after := #[{ on := 8, ground := Ground.data }, { on := 4, ground := Ground.data }, { on := 4, ground := Ground.chain }, { on := 0, ground := Ground.phase }, { on := 1, ground := Ground.phase }, { on := 2, ground := Ground.phase }, { on := 3, ground := Ground.phase }, { on := 4, ground := Ground.phase }, { on := 5, ground := Ground.textOnly Departure.lateStores }, { on := 6, ground := Ground.textOnly Departure.lateStores }, { on := 7, ground := Ground.textOnly Departure.lateStoresUnsure }, { on := 8, ground := Ground.phase }, { on := 9, ground := Ground.phase }], guard := none }) (by kernel_rfl) rfl rfl (fun K hK => ?_)
        go_simp
        refine hK.out _ _ (fun _ => PG3.cells6) ?_
        clear hK
        try simp only [Act.put, List.setIfInBounds_toArray, List.set_cons_zero, List.set_cons_succ]
        refine wpAnyL_one' (i := 11) (o := { dst := none, op := Op.store 3 (Operand.tmp 7) (Operand.tmp 25), type := 0, pos := "dfa.go:77", after := #[{ on := 9, ground := Ground.data }, { on := 7, ground := Ground.data }, { on := 10, ground := Ground.chain }, { on := 0, ground := Ground.phase }, { on := 1, ground := Ground.phase }, { on := 2, ground := Ground.phase }, { on := 3, ground := Ground.phase }, { on := 4, ground := Ground.phase }, { on := 5, ground := Ground.phase }, { on := 6, ground := Ground.phase }, { on := 7, ground := Ground.phase }, { on := 8, ground := Ground.phase }, { on := 9, ground := Ground.phase }, { on := 10, ground := Ground.phase }], guard := none }) (by kernel_rfl) rfl rfl (fun K hK => ?_)
        go_simp
        refine hK.out _ _ (fun h => absurd h (by decide)) ?_
        clear hK
        try simp only [Act.put, List.setIfInBounds_toArray, List.set_cons_zero, List.set_cons_succ]
        refine wpAnyL_done (by kernel_rfl) ?_ _
        refine NoPanic.normal ?_
        have PF := PG3.fin a.length
        go_wp2_with fail
        go_meet
        exact ⟨_, _, la, lc, rfl, rfl, PF⟩
      · go_simp
        have PG2 := PG1.new6
        refine hK.out _ _ (fun _ => PG2.cells) ?_
        clear hK
        try simp only [Act.put, List.setIfInBounds_toArray, List.set_cons_zero, List.set_cons_succ]
        generalize (V1.alloc (Obj.cells #[.slice none 0 0] 22)) = V2 at *
        generalize V1.heap.size = k6 at *
        refine wpAnyL_one' (i := 4) (o := { dst := some 22, op := Op.call { callee := Callee.value (Operand.func 28), args := #[Operand.tmp 19, Operand.tmp 21], argTypes := #[22, 22] }, type := 22, pos := "dfa.go:77", after := #[{ on := 1, ground := Ground.data }, { on := 3, ground := Ground.data }], guard := none }) (by kernel_rfl) rfl rfl (fun K hK => ?_)
        go_simp
        refine (HBE.out _ PG2.bx.1).mono ?_
        rintro e W7 ⟨lv, rfl, hsd, hb7⟩
        have PG3 := PG2.call hb7 hsd
        obtain ⟨la, lc, rfl, _⟩ := id hsd
        refine hK.out _ _ (fun _ => PG3.cells) ?_
        clear hK
        try simp only [Act.put, List.setIfInBounds_toArray, List.set_cons_zero, List.set_cons_succ]
        obtain ⟨b1, b2⟩ := PG3.box6
        obtain ⟨b3, b4⟩ := PG3.set6
        refine wpAnyL_one' (i := 10) (o := { dst := none, op := Op.store 22 (Operand.tmp 6) (Operand.tmp 22), type := 0, pos := "dfa.go:77", after := #[{ on := 8, ground := Ground.data }, { on := 4, ground := Ground.data }, { on := 4, ground := Ground.chain }, { on := 0, ground := Ground.phase }, { on := 1, ground := Ground.phase }, { on := 2, ground := Ground.phase }, { on := 3, ground := Ground.phase }, { on := 4, ground := Ground.phase }, { on := 5, ground := Ground.textOnly Departure.lateStores }, { on := 6, ground := Ground.textOnly Departure.lateStores }, { on := 7, ground := Ground.textOnly Departure.lateStoresUnsure }, { on := 8, ground := Ground.phase }, { on := 9, ground := Ground.phase }], guard := none }) (by kernel_rfl) rfl rfl (fun K hK => ?_)
        go_simp
        refine hK.out _ _ (fun _ => PG3.cells6) ?_
        clear hK
        try simp only [Act.put, List.setIfInBounds_toArray, List.set_cons_zero, List.set_cons_succ]
        refine wpAnyL_one' (i := 11) (o := { dst := none, op := Op.store 3 (Operand.tmp 7) (Operand.tmp 25), type := 0, pos := "dfa.go:77", after := #[{ on := 9, ground := Ground.data }, { on := 7, ground := Ground.data }, { on := 10, ground := Ground.chain }, { on := 0, ground := Ground.phase }, { on := 1, ground := Ground.phase }, { on := 2, ground := Ground.phase }, { on := 3, ground := Ground.phase }, { on := 4, ground := Ground.phase }, { on := 5, ground := Ground.phase }, { on := 6, ground := Ground.phase }, { on := 7, ground := Ground.phase }, { on := 8, ground := Ground.phase }, { on := 9, ground := Ground.phase }, { on := 10, ground := Ground.phase }], guard := none }) (by kernel_rfl) rfl rfl (fun K hK => ?_)
        go_simp
        refine hK.out _ _ (fun h => absurd h (by decide)) ?_
        clear hK
        try simp only [Act.put, List.setIfInBounds_toArray, List.set_cons_zero, List.set_cons_succ]
        refine wpAnyL_done (by kernel_rfl) ?_ _
        refine NoPanic.normal ?_
        have PF := PG3.fin a.length
        go_wp2_with fail
        go_meet
        exact ⟨_, _, la, lc, rfl, rfl, PF⟩
  case rest =>
    obtain ⟨k6, k7, la, lc, rfl, rfl, HL⟩ := hcut
    clear H6 HBE
    have hll : (besideL a b).length = a.length + b.length := by unfold besideL; simp
    have HN : Hid ((besideL a b).length ≤ 120) := by show _ ≤ _; omega
    have HAP : Hid (∀ (V : World) (H : Hy) (av : Value), Below wc.heap.size wc V → SlR (H.map Prod.snd) av V → H.length ≤ 50000 → (∀ c ∈ H.map Prod.snd, c.length = (besideL a b).length) → Calls Try.prog 30 #[.slice la (besideL a b).length lc, av, .int .i64 0, .int .i64 a.length] V fun e w' => e = .returned (.string (strB (apartL (besideL a b) (H.map Prod.snd).reverse 0 a.length))) ∧ Below V.heap.size V w') := fun V H av hV hA hH hc => apart_any (besideL a b) (H.map Prod.snd) (.slice la (besideL a b).length lc) av 0 a.length V (HL.out.2.2.2.1.next hV) hA (beside_fit HFF.out.1 HFF.out.2) (by omega) HAR.out (by simpa using hH) hc ⟨by omega, by have := List.length_pos_iff.2 HFF.out.1.some; omega⟩ ⟨by omega, by have := List.length_pos_iff.2 HFF.out.2.some; omega⟩
    have HGV : Hid (∀ Bx V, GivesT 4 Try.prog 44 #[.pointer (some ⟨Bx, 0, none⟩)] encH (allH (besideL a b)) okH (pfH (besideL a b)) (fun _ => False) (FxR wc (.slice la (besideL a b).length lc) Bx) V) := fun Bx V => rounds_gives 4 (besideL a b) (.slice la (besideL a b).length lc) Bx wc V HL.out.2.2.2.1 (beside_fit HFF.out.1 HFF.out.2) (by omega) HAR.out
    clear hll
    have c6 : (wc.alloc (Obj.cells #[.slice none 0 0] 53)).cell? ⟨k6, 0, none⟩ = some (.slice la (besideL a b).length lc) := ((below_box wc (.slice none 0 0) 53).cell (p := ⟨k6, 0, none⟩) (blk_lt HL.out.2.1)).trans (by rw [Lib.cell_of_heap HL.out.2.1]; rfl)
    have HC := rounds_any (.slice la (besideL a b).length lc) ⟨_, _, _, rfl⟩ (wc.alloc (Obj.cells #[.slice none 0 0] 53))
    have H2 : Hid ((wc.alloc (Obj.cells #[.slice none 0 0] 53)).heap.size = wc.heap.size + 1 ∧ Below wc.heap.size wc (wc.alloc (Obj.cells #[.slice none 0 0] 53)) ∧ (wc.alloc (Obj.cells #[.slice none 0 0] 53)).heap[wc.heap.size]? = some (Obj.cells #[.slice none 0 0] 53)) := ⟨by simp, below_box _ _ _, heap_alloc_new _ _⟩
    gi_wp2_with fail
    refine ⟨trivial, (callsIn_wide.2 HC).mono ?_⟩
    rintro e w3 ⟨rfl, hw3⟩
    generalize wc.alloc (Obj.cells #[.slice none 0 0] 53) = w2 at *
    have HW3 : Hid (w3.heap.size = wc.heap.size + 2 ∧ Below wc.heap.size wc w3 ∧ w3.heap[wc.heap.size]? = some (Obj.cells #[.slice none 0 0] 53) ∧ w3.heap[w2.heap.size]? = some (Obj.cells #[.slice la (besideL a b).length lc] 22)) := by
      obtain ⟨z2, z3, z4⟩ := H2.out
      have B3 : Below w2.heap.size w2 w3 := by rw [hw3]; exact below_box _ _ _
      refine ⟨by rw [hw3]; simp; omega, z3.trans (B3.mono z3.size), (B3.block _ (blk_lt z4)).trans z4, by rw [hw3]; exact heap_alloc_new _ _⟩
    have HD2 : Hid (w2.heap.size = wc.heap.size + 1) := H2.out.1
    clear HC hw3 H2 c6
    gi_wp2_with fail
    refine wpIn_range_V (α := Hy) (by omega) (gf := 44) (lb := #[.pointer (some ⟨w2.heap.size, 0, none⟩)]) rfl (enters_of Try.func44 (by kernel_rfl) rfl) (encs := encH) (S := allH (besideL a b)) (Ok := okH) (Pf := pfH (besideL a b)) (A0 := fun _ => False) (Fx := FxR wc (.slice la (besideL a b).length lc) w2.heap.size) (fun _ => rfl) (fun q hq => hq.elim) (fun V _ => HGV.out _ V)
      (fun A x W W' k h hk hb y hy => ⟨(h y hy).1.block hb (fun ad n c e h2 => hk (by rw [← h2]; exact (h y hy).2 ad n c e)), (h y hy).2⟩) (fun xs W W' r h hk hb => okH_loop xs W W' _ r h hk hb)
      (XD wc a.length (fun k o => (k = k6 ∧ o = Obj.cells #[.slice la (besideL a b).length lc] 22) ∨ (k = k7 ∧ o = Obj.cells #[.int .i64 a.length] 3) ∨ (k = w.heap.size + 1 + 1 ∧ o = Obj.cells #[.string { data := #[] }] 9) ∨ (k = w.heap.size + 1 + 1 + 1 ∧ o = Obj.cells #[.bool false] 4) ∨ (k = w2.heap.size ∧ o = Obj.cells #[.slice la (besideL a b).length lc] 22)) wc.heap.size) (XE w (fun P : List Int => P.length ≤ 50000 ∧ (∀ z ∈ P, 0 ≤ z ∧ z ≤ 255) ∧ FirstD (resD a 0) (resD b 0) P) (w.heap.size + 1 + 1) (w.heap.size + 1 + 1 + 1)) (XD.keep _ _ _ _ _ _ _ _ _ _ (.inr (.inr (.inr (.inr ⟨rfl, rfl⟩))))) (fun V h1 h2 => ?init)
      (fun x a' => a' = { tmps := #[.agg #[.slice ua a.length uc], .agg #[.slice va b.length vc], .pointer (some ⟨w.heap.size, 0, none⟩), .pointer (some ⟨w.heap.size + 1, 0, none⟩), .pointer (some ⟨w.heap.size + 1 + 1, 0, none⟩), .pointer (some ⟨w.heap.size + 1 + 1 + 1, 0, none⟩), .pointer (some ⟨k6, 0, none⟩), .pointer (some ⟨k7, 0, none⟩), .pointer (some ⟨wc.heap.size, 0, none⟩), lastV x, .agg #[.slice ua a.length uc], .bool true, .bool false, .bool false, .agg #[.slice va b.length vc], .bool true, .bool false, .bool false, u18, u19, u20, u21, u22, u23, u24, u25, .slice la (besideL a b).length lc, .func (.func 44) #[] #[.pointer (some ⟨w2.heap.size, 0, none⟩)], lastV x, u29, u30, u31, u32, u33, u34, u35, u36, u37, u38, u39, u40, u41, u42, u43, u44], defers := [] })
      ?assign ?body ?done ?left
    case init =>
      obtain ⟨z1, z2, z3, z4⟩ := HW3.out
      obtain ⟨⟨x0, x1, x2, x3, x4⟩, l1, l2, l3, l4, l5⟩ := HL.out
      have nA : ∀ j, j < w3.heap.size → ¬ (False ∨ j = w3.heap.size ∨ j = w3.heap.size + 1) := fun j hj h => by
        rcases h with h | h | h
        · exact h
        · omega
        · omega
      refine ⟨below_then z2 h1 z2.size, fun k hk => ?_, fun k o hC => ?_, ⟨_, (h1.block _ (blk_lt z3)).trans z3, nA _ (blk_lt z3), World.ownsRow_nil _ _ _ _, fun k hk => (by cases hk)⟩, fun x hx => (by cases hx)⟩
      · rcases hk with h | h | h
        · exact h.elim
        · omega
        · omega
      · have key : w3.heap[k]? = some o := by
          rcases hC with ⟨rfl, rfl⟩ | ⟨rfl, rfl⟩ | ⟨rfl, rfl⟩ | ⟨rfl, rfl⟩ | ⟨rfl, rfl⟩
          · exact (z2.block _ (blk_lt l1)).trans l1
          · exact (z2.block _ (blk_lt l2)).trans l2
          · exact (z2.block _ (blk_lt x3)).trans x3
          · exact (z2.block _ (blk_lt x4)).trans x4
          · exact z4
        exact ⟨(h1.block _ (blk_lt key)).trans key, nA _ (blk_lt key)⟩
    case assign =>
      intro l' x V K hK
      simp only [encH]
      have HK : Hid _ := hK
      clear hK
      gi_wp2_with fail
      exact HK.out _ rfl
    case body =>
      rintro l' A' pre x a' V hI rfl hOk hPf
      obtain ⟨H, hH, hch, hlen⟩ := hPf
      obtain ⟨H', y, rfl, rfl, rfl⟩ := initsH_cut hH
      obtain ⟨lv1, lc1⟩ := lastV_snoc H' y
      have hcl := hch H'.length y (by simp)
      obtain ⟨av, e1, e2, e3, e4⟩ := hI.ex
      rw [inits_last, initsH_len] at e3
      obtain ⟨ba, bc, rfl⟩ := slice_of_ownK e3
      have hHl : H'.length ≤ 20000 := by
        have h1 := cntP_le (meetL [(-1 : Int)] ((besideL a b).map Ds.acc))
        rw [meetL_len, List.length_map] at h1
        have h2 : ((besideL a b).length + 1) * ((besideL a b).length + 1) ≤ 121 * 121 := Nat.mul_le_mul (by have := HN.out; omega) (by have := HN.out; omega)
        simp at hlen
        omega
      have hll : y.2.length = a.length + b.length := by rw [hcl.len]; unfold besideL; simp
      have ha1 : 0 < a.length := List.length_pos_iff.2 HFF.out.1.some
      have hb1 : 0 < b.length := List.length_pos_iff.2 HFF.out.2.some
      have HI : Hid (XD wc a.length (fun k o => (k = k6 ∧ o = Obj.cells #[.slice la (besideL a b).length lc] 22) ∨ (k = k7 ∧ o = Obj.cells #[.int .i64 a.length] 3) ∨ (k = w.heap.size + 1 + 1 ∧ o = Obj.cells #[.string { data := #[] }] 9) ∨ (k = w.heap.size + 1 + 1 + 1 ∧ o = Obj.cells #[.bool false] 4) ∨ (k = w2.heap.size ∧ o = Obj.cells #[.slice la (besideL a b).length lc] 22)) wc.heap.size (fun k => A' k ∨ k = w3.heap.size ∨ k = w3.heap.size + 1) (initsH H') V) := hI
      have HOK : Hid (okH A' (H' ++ [y]) V) := hOk
      have HE0 : Hid (V.heap[wc.heap.size]? = some (Obj.cells #[.slice ba H'.length bc] 53) ∧ ¬ (fun k => A' k ∨ k = w3.heap.size ∨ k = w3.heap.size + 1) wc.heap.size ∧ V.ownsRow wc.heap.size 57 1 (.slice ba H'.length bc) H'.length (H'.map Prod.fst) ∧ ∀ k, (Value.slice ba H'.length bc).ownBlock = some k → ¬ (fun k => A' k ∨ k = w3.heap.size ∨ k = w3.heap.size + 1) k) := ⟨e1, e2, e3, e4⟩
      have HCH : Hid (ChH (besideL a b) (H' ++ [y])) := hch
      obtain ⟨⟨ya, yc, hy1, hyr, _⟩, hyA⟩ := hOk y (by simp)
      have HQ : Hid (clsOf y.2 0 = y.2[0]'(by omega) ∧ clsOf y.2 a.length = y.2[a.length]'(by omega)) := by
        refine ⟨?_, ?_⟩
        · unfold clsOf
          rw [if_neg (by omega), show (0 : Int).toNat = 0 from rfl, List.getElem?_eq_getElem (by omega)]; rfl
        · unfold clsOf
          rw [if_neg (by omega), Int.toNat_natCast, List.getElem?_eq_getElem (by omega)]; rfl
      obtain ⟨yb, yo, rfl, hyb, c0⟩ := hyr 0 (y.2[0]'(by omega)) (List.getElem?_eq_getElem (by omega))
      obtain ⟨_, _, e9, _, c1⟩ := hyr a.length (y.2[a.length]'(by omega)) (List.getElem?_eq_getElem (by omega))
      cases e9
      unfold encI at c0 c1
      rw [Nat.add_zero] at c0
      have c7 : V.cell? ⟨k7, 0, none⟩ = some (.int .i64 a.length) := by rw [Lib.cell_of_heap (hI.has _ _ (.inr (.inl ⟨rfl, rfl⟩))).1]; rfl
      have c8 : V.cell? ⟨wc.heap.size, 0, none⟩ = some (.slice ba H'.length bc) := by rw [Lib.cell_of_heap e1]; rfl
      have c6 : V.cell? ⟨k6, 0, none⟩ = some (.slice la (besideL a b).length lc) := by rw [Lib.cell_of_heap (hI.has _ _ (.inl ⟨rfl, rfl⟩)).1]; rfl
      have HY : Hid (y.1 = .slice (some ⟨yb, yo, none⟩) y.2.length yc) := hy1
      rw [lv1, hy1]
      have hm1 : 0 < y.2.length := by omega
      have hm2 : a.length < y.2.length := by omega
      generalize y.2[0]'(by omega) = q0 at *
      generalize y.2[a.length]'(by omega) = q1 at *
      clear hI hOk hch hlen hcl hH hyr hyA hy1 lv1 lc1 e1 e2 e3 e4 hll
      have HV1 : Hid (Below V.heap.size V V.drew) := below_drewN (Below.refl _ _) 1
      gi_wp2_with fail
      refine wpIn_region_L (fun W => W.cell? ⟨yb, yo, none⟩ = some (.int .i64 q0) ∧ W.cell? ⟨yb, yo + a.length, none⟩ = some (.int .i64 q1) ∧ W.cell? ⟨k7, 0, none⟩ = some (.int .i64 a.length)) 8 (by kernel_rfl) 8 rfl (by kernel_rfl) (by rintro ⟨_, _, h⟩; rcases h with ⟨h, _⟩ | ⟨h, _⟩ <;> cases h) ?_
      have HS : V.drew.cell? ⟨yb, yo, none⟩ = some (.int .i64 q0) ∧ V.drew.cell? ⟨yb, yo + a.length, none⟩ = some (.int .i64 q1) ∧ V.drew.cell? ⟨k7, 0, none⟩ = some (.int .i64 a.length) := ⟨c0, c1, c7⟩
      have c6' : V.drew.cell? ⟨k6, 0, none⟩ = some (.slice la (besideL a b).length lc) := c6
      have c7' : V.drew.cell? ⟨k7, 0, none⟩ = some (.int .i64 a.length) := c7
      have c8' : V.drew.cell? ⟨wc.heap.size, 0, none⟩ = some (.slice ba H'.length bc) := c8
      clear c0 c1 c6 c7 c8
      generalize V.drew = V1 at *
      refine wpAnyL_take' (i := 0) (v := ?_) (oi := { dst := some 29, op := Op.move (Operand.tmp 9), type := 57, pos := "dfa.go:80", after := #[], guard := none }) rfl (by kernel_rfl) (by kernel_rfl) (by kernel_rfl) (by kernel_rfl) rfl (fun _ _ _ h => h) (Or.inl ⟨by rfl, ?_⟩) HS ?_
      rotate_left
      · intro W hSW
        go_simp
        try with_reducible rfl
      simp only [Act.put, List.setIfInBounds_toArray, List.set_cons_zero, List.set_cons_succ]
      refine wpAnyL_take' (i := 1) (v := ?_) (oi := { dst := some 30, op := Op.indexAddr 57 (Operand.tmp 29) (Operand.const (Value.int IntKind.i64 0)), type := 0, pos := "dfa.go:80", after := #[{ on := 0, ground := Ground.data }], guard := none }) rfl (by kernel_rfl) (by kernel_rfl) (by kernel_rfl) (by kernel_rfl) rfl (fun _ _ _ h => h) (Or.inl ⟨by rfl, ?_⟩) HS ?_
      rotate_left
      · intro W hSW
        go_simp
        try with_reducible rfl
      simp only [Act.put, List.setIfInBounds_toArray, List.set_cons_zero, List.set_cons_succ]
      refine wpAnyL_take' (i := 2) (v := ?_) (oi := { dst := some 31, op := Op.load 3 (Operand.tmp 30), type := 3, pos := "dfa.go:80", after := #[{ on := 1, ground := Ground.data }], guard := none }) rfl (by kernel_rfl) (by kernel_rfl) (by kernel_rfl) (by kernel_rfl) rfl (fun _ _ _ h => h) (Or.inl ⟨by rfl, ?_⟩) HS ?_
      rotate_left
      · intro W hSW
        go_simp
        try with_reducible rfl
      simp only [Act.put, List.setIfInBounds_toArray, List.set_cons_zero, List.set_cons_succ]
      refine wpAnyL_take' (i := 3) (v := ?_) (oi := { dst := some 32, op := Op.move (Operand.tmp 9), type := 57, pos := "dfa.go:80", after := #[], guard := none }) rfl (by kernel_rfl) (by kernel_rfl) (by kernel_rfl) (by kernel_rfl) rfl (fun _ _ _ h => h) (Or.inl ⟨by rfl, ?_⟩) HS ?_
      rotate_left
      · intro W hSW
        go_simp
        try with_reducible rfl
      simp only [Act.put, List.setIfInBounds_toArray, List.set_cons_zero, List.set_cons_succ]
      refine wpAnyL_take' (i := 4) (v := ?_) (oi := { dst := some 33, op := Op.load 3 (Operand.tmp 7), type := 3, pos := "dfa.go:80", after := #[], guard := none }) rfl (by kernel_rfl) (by kernel_rfl) (by kernel_rfl) (by kernel_rfl) rfl (fun _ _ _ h => h) (Or.inl ⟨by rfl, ?_⟩) HS ?_
      rotate_left
      · intro W hSW
        go_simp
        try with_reducible rfl
      simp only [Act.put, List.setIfInBounds_toArray, List.set_cons_zero, List.set_cons_succ]
      refine wpAnyL_take' (i := 5) (v := ?_) (oi := { dst := some 34, op := Op.indexAddr 57 (Operand.tmp 32) (Operand.tmp 33), type := 0, pos := "dfa.go:80", after := #[{ on := 3, ground := Ground.data }, { on := 4, ground := Ground.data }], guard := none }) rfl (by kernel_rfl) (by kernel_rfl) (by kernel_rfl) (by kernel_rfl) rfl (fun _ _ _ h => h) (Or.inl ⟨by rfl, ?_⟩) HS ?_
      rotate_left
      · intro W hSW
        go_simp
        try with_reducible rfl
      simp only [Act.put, List.setIfInBounds_toArray, List.set_cons_zero, List.set_cons_succ]
      refine wpAnyL_take' (i := 6) (v := ?_) (oi := { dst := some 35, op := Op.load 3 (Operand.tmp 34), type := 3, pos := "dfa.go:80", after := #[{ on := 5, ground := Ground.data }], guard := none }) rfl (by kernel_rfl) (by kernel_rfl) (by kernel_rfl) (by kernel_rfl) rfl (fun _ _ _ h => h) (Or.inl ⟨by rfl, ?_⟩) HS ?_
      rotate_left
      · intro W hSW
        go_simp
        try with_reducible rfl
      simp only [Act.put, List.setIfInBounds_toArray, List.set_cons_zero, List.set_cons_succ]
      refine wpAnyL_take' (i := 7) (v := ?_) (oi := { dst := some 36, op := Op.binOp BinOp.neq 3 (Operand.tmp 31) (Operand.tmp 35) 3, type := 4, pos := "dfa.go:80", after := #[{ on := 2, ground := Ground.data }, { on := 6, ground := Ground.data }], guard := none }) rfl (by kernel_rfl) (by kernel_rfl) (by kernel_rfl) (by kernel_rfl) rfl (fun _ _ _ h => h) (Or.inl ⟨by rfl, ?_⟩) HS ?_
      rotate_left
      · intro W hSW
        go_simp
        try with_reducible rfl
      simp only [Act.put, List.setIfInBounds_toArray, List.set_cons_zero, List.set_cons_succ]
      refine wpAnyL_done (by kernel_rfl) ?_ _
      clear HS
      by_cases hne : q0 = q1
      · have dne : (q0 != q1) = false := by simpa using hne
        have hEQ : Hid (clsOf y.2 0 = clsOf y.2 a.length) := by show _ = _; rw [HQ.out.1, HQ.out.2, hne]
        obtain ⟨ii, hii, hz0, hz1, hz2⟩ := info_parts infoIs
        have bA : Below V1.heap.size V1 (V1.alloc (Obj.cells #[.slice (some ⟨yb, yo, none⟩) y.2.length yc] 57)) := below_box _ _ _
        have hON : (V1.alloc (Obj.cells #[.slice (some ⟨yb, yo, none⟩) y.2.length yc] 57)).ownsRow wc.heap.size 57 1 (.slice ba H'.length bc) H'.length (H'.map Prod.fst) := own_below (own_below HE0.out.2.2.1 HV1.out) bA
        have hnw := new_cell V1 (.slice (some ⟨yb, yo, none⟩) y.2.length yc) 57
        have hszn : wc.heap.size ≤ (V1.alloc (Obj.cells #[.slice (some ⟨yb, yo, none⟩) y.2.length yc] 57)).heap.size := Nat.le_trans (Nat.le_trans HI.out.bel.size HV1.out.size) bA.size
        have HBA : Hid (Below V1.heap.size V1 (V1.alloc (Obj.cells #[.slice (some ⟨yb, yo, none⟩) y.2.length yc] 57))) := bA
        clear hne HQ HAP HOK c6' c7' bA
        gi_wp2_with (first
          | (gi_at_builtin; refine wpListIn_append_own_at _ rfl _ _ 53 rfl wc.heap.size 57 ii _ 1 24 Try.underlying53 hii hz0 hz1 hz2 rfl (by omega) _ _ _ rfl hON ⟨V1.heap.size, 0, none⟩ 1 1 [.slice (some ⟨yb, yo, none⟩) y.2.length yc] rfl rfl hnw (by simp [Value.oneCell']) (by unfold maxLen; omega) (by omega) hszn ?_)
          | gi_in)
        intro v' W5 ho5 hg5 _ hat5
        obtain ⟨m1, n1, own1, nA1⟩ := HE0.out
        have b15 : But (fun k => (Value.slice ba H'.length bc).ownBlock = some k) V W5 := (But.of_next (HV1.out.trans (HBA.out.mono HV1.out.size))).trans (but_grown hg5 (fun r h => h))
        have o5 := but_blk b15 m1 (own_nb own1 m1 (by decide))
        have c5 : W5.cell? ⟨wc.heap.size, 0, none⟩ = some (.slice ba H'.length bc) := by rw [Lib.cell_of_heap o5]; rfl
        have f5 : W5.frozen? ⟨wc.heap.size, 0, none⟩ = false := Lib.frozen_of_heap o5 _
        have HE : Hid (XD wc a.length (fun k o => (k = k6 ∧ o = Obj.cells #[.slice la (besideL a b).length lc] 22) ∨ (k = k7 ∧ o = Obj.cells #[.int .i64 a.length] 3) ∨ (k = w.heap.size + 1 + 1 ∧ o = Obj.cells #[.string { data := #[] }] 9) ∨ (k = w.heap.size + 1 + 1 + 1 ∧ o = Obj.cells #[.bool false] 4) ∨ (k = w2.heap.size ∧ o = Obj.cells #[.slice la (besideL a b).length lc] 22)) wc.heap.size (fun k => A' k ∨ k = w3.heap.size ∨ k = w3.heap.size + 1) (initsH H' ++ [H' ++ [y]]) (W5.setCell ⟨wc.heap.size, 0, none⟩ v') ∧ But (fun k => ¬ (fun k => A' k ∨ k = w3.heap.size ∨ k = w3.heap.size + 1) k) V (W5.setCell ⟨wc.heap.size, 0, none⟩ v')) := by
          have hI := HI.out
          have s1 : But (fun k => k = wc.heap.size) W5 (W5.setCell ⟨wc.heap.size, 0, none⟩ v') := (But.refl _ _).setCell _ _ (.inr rfl)
          have s2 : But (fun k => (Value.slice ba H'.length bc).ownBlock = some k ∨ k = wc.heap.size) V (W5.setCell ⟨wc.heap.size, 0, none⟩ v') := (b15.mono (fun k _ h => .inl h)).trans (s1.mono (fun k _ h => .inr h))
          have hv5 : ∀ k, v'.ownBlock = some k → (Value.slice ba H'.length bc).ownBlock = some k ∨ V1.heap.size ≤ k := fun k hk => by
            rcases hat5 with h | h
            · exact .inl (by rw [← h]; exact hk)
            · rw [h] at hk; cases hk; exact .inr (by simp)
          have hz2 := s2.size
          refine ⟨⟨hI.bel.trans (s2.below hI.bel.size (fun k hk => ?_)), fun k hk => by have := hI.low k hk; omega, fun k o hC => ?_, ⟨v', by simpa using blk_set (o := 0) o5 v', n1, ?_, fun k hk hA => ?_⟩, fun x hx => ?_⟩, s2.mono (fun k _ h hA => ?_)⟩
          · rcases hk with hk | hk
            · exact (World.ownsRow.lt own1 k hk).1
            · omega
          · obtain ⟨r1, r2⟩ := hI.has k o hC
            refine ⟨but_blk s2 r1 (fun h => ?_), r2⟩
            rcases h with h | h
            · rcases hC with ⟨_, rfl⟩ | ⟨_, rfl⟩ | ⟨_, rfl⟩ | ⟨_, rfl⟩ | ⟨_, rfl⟩
              · exact own_nb own1 r1 (by decide) h
              · exact own_nb own1 r1 (by decide) h
              · exact own_nb own1 r1 (by decide) h
              · exact own_nb own1 r1 (by decide) h
              · exact own_nb own1 r1 (by decide) h
            · rw [h] at r1
              rw [m1] at r1
              rcases hC with ⟨_, rfl⟩ | ⟨_, rfl⟩ | ⟨_, rfl⟩ | ⟨_, rfl⟩ | ⟨_, rfl⟩ <;> simp at r1
          · have h9 := ownsRow_keep ho5 s1 (fun k hk e => by rw [e] at hk; exact own_nb ho5 o5 (by decide) hk)
            rw [List.map_append, inits_last, List.length_append, initsH_len, List.map_cons, List.map_nil, (lastV_snoc H' y).1, HY.out]
            exact h9
          · rcases hv5 k hk with h | h
            · exact nA1 k h hA
            · have h1 := hI.low k hA
              have h2 := HV1.out.size
              omega
          · rcases List.mem_append.1 hx with hx | hx
            · exact hI.eqs x hx
            · simp at hx
              subst hx
              rw [(lastV_snoc H' y).2]
              exact hEQ.out
          · rcases h with h | h
            · exact nA1 k h hA
            · exact n1 (h ▸ hA)
        obtain ⟨va', vc', rfl⟩ := slice_of_ownK ho5
        clear m1 n1 own1 nA1 b15 o5 ho5 hg5 hat5 HI HE0 HBA hON hnw hszn hEQ HV1 HCH HY
        gi_wp2_with fail
        have HE' := HE.out
        simp only [not_or] at HE'
        exact HE'
      have dne : (q0 != q1) = true := by simpa using hne
      have CAP := HAP.out V1 H' (.slice ba H'.length bc) (HI.out.bel.trans (HV1.out.mono HI.out.bel.size)) (slr_own (own_below HE0.out.2.2.1 HV1.out) (fun z hz => (HOK.out z (by simp [hz])).1.next HV1.out)) (by omega) (fun c hc => by
        obtain ⟨z, hz, rfl⟩ := List.mem_map.1 hc
        obtain ⟨i, hi⟩ := List.getElem?_of_mem hz
        have hil := (List.getElem?_eq_some_iff.1 hi).1
        exact (HCH.out i z (by rw [List.getElem?_append_left hil]; exact hi)).len)
      have HFD : Hid ((fun P : List Int => P.length ≤ 50000 ∧ (∀ z ∈ P, 0 ≤ z ∧ z ≤ 255) ∧ FirstD (resD a 0) (resD b 0) P) (apartL (besideL a b) (H'.map Prod.snd).reverse 0 a.length)) := by
        obtain ⟨d1, d2, d3⟩ := differ_some (beside_fit HFF.out.1 HFF.out.2) (s := 0) (t := a.length) ⟨by omega, by have := hm1; have := HN.out; unfold besideL; simp; omega⟩ ⟨by omega, by unfold besideL; simp; omega⟩ HCH.out (fun z hz => by
          obtain ⟨x, hx, he⟩ := inits_mem hz
          rw [← he]
          exact HI.out.eqs x hx) (by rw [HQ.out.1, HQ.out.2]; exact hne)
        obtain ⟨f1, f2⟩ := beside_fun HFF.out.1 HFF.out.2
        exact ⟨by omega, d2, first_res d3 f1 f2⟩
      generalize apartL (besideL a b) (H'.map Prod.snd).reverse 0 a.length = P at *
      clear HAP HQ hne
      gi_wp2_with fail
      refine ⟨trivial, (callsIn_wide.2 CAP).mono ?_⟩
      rintro e W9 ⟨rfl, hb9⟩
      have hI := HI.out
      obtain ⟨t1, t2⟩ := hI.has (w.heap.size + 1 + 1) _ (.inr (.inr (.inl ⟨rfl, rfl⟩)))
      obtain ⟨t3, t4⟩ := hI.has (w.heap.size + 1 + 1 + 1) _ (.inr (.inr (.inr (.inl ⟨rfl, rfl⟩))))
      have hVW : Below V.heap.size V W9 := HV1.out.trans (hb9.mono HV1.out.size)
      have r1 := (hVW.block _ (blk_lt t1)).trans t1
      have r2 := (hVW.block _ (blk_lt t3)).trans t3
      have c1 : W9.cell? ⟨w.heap.size + 1 + 1, 0, none⟩ = some (.string { data := #[] }) := by rw [Lib.cell_of_heap r1]; rfl
      have f1 : W9.frozen? ⟨w.heap.size + 1 + 1, 0, none⟩ = false := Lib.frozen_of_heap r1 _
      have c2 : W9.cell? ⟨w.heap.size + 1 + 1 + 1, 0, none⟩ = some (.bool false) := by rw [Lib.cell_of_heap r2]; rfl
      have f2 : W9.frozen? ⟨w.heap.size + 1 + 1 + 1, 0, none⟩ = false := Lib.frozen_of_heap r2 _
      have HE : Hid (XE w (fun P : List Int => P.length ≤ 50000 ∧ (∀ z ∈ P, 0 ≤ z ∧ z ≤ 255) ∧ FirstD (resD a 0) (resD b 0) P) (w.heap.size + 1 + 1) (w.heap.size + 1 + 1 + 1) (fun k => A' k ∨ k = w3.heap.size ∨ k = w3.heap.size + 1) ((W9.setCell ⟨w.heap.size + 1 + 1, 0, none⟩ (.string (strB P))).setCell ⟨w.heap.size + 1 + 1 + 1, 0, none⟩ (.bool true)) ∧ But (fun k => ¬ (fun k => A' k ∨ k = w3.heap.size ∨ k = w3.heap.size + 1) k) V ((W9.setCell ⟨w.heap.size + 1 + 1, 0, none⟩ (.string (strB P))).setCell ⟨w.heap.size + 1 + 1 + 1, 0, none⟩ (.bool true))) := by
        have s1 : But (fun k => k = w.heap.size + 1 + 1 ∨ k = w.heap.size + 1 + 1 + 1) W9 ((W9.setCell ⟨w.heap.size + 1 + 1, 0, none⟩ (.string (strB P))).setCell ⟨w.heap.size + 1 + 1 + 1, 0, none⟩ (.bool true)) := ((But.refl _ _).setCell _ _ (.inr (.inl rfl))).setCell _ _ (.inr (.inr rfl))
        have s2 := (But.of_next (D := fun k => k = w.heap.size + 1 + 1 ∨ k = w.heap.size + 1 + 1 + 1) hVW).trans s1
        have hBw := HL.out.1.1
        have hBV : Below w.heap.size w V := hBw.trans (hI.bel.mono hBw.size)
        refine ⟨⟨hBV.trans (s2.below hBV.size (fun k hk => by omega)), fun k hk => by have := hI.low k hk; have := hBw.size; omega, ⟨t2, t4⟩, P, HFD.out, set_blk (by simpa using blk_set (o := 0) r1 (.string (strB P))) (by omega), by simpa using blk_set (o := 0) (set_blk r2 (by omega)) (.bool true)⟩, s2.mono (fun k _ h hA => ?_)⟩
        rcases h with h | h
        · exact t2 (h ▸ hA)
        · exact t4 (h ▸ hA)
      clear CAP hb9 hI t1 t2 t3 t4 hVW r1 r2 HI HE0 HOK HCH HY HV1 HFD c6' c7' c8'
      gi_wp2_with fail
      have HE' := HE.out
      simp only [not_or] at HE'
      exact HE'
    case done =>
      intro xs V hS hI hd
      obtain ⟨t1, t2⟩ := hI.has (w.heap.size + 1 + 1) _ (.inr (.inr (.inl ⟨rfl, rfl⟩)))
      obtain ⟨t3, t4⟩ := hI.has (w.heap.size + 1 + 1 + 1) _ (.inr (.inr (.inr (.inl ⟨rfl, rfl⟩))))
      have c1 : V.cell? ⟨w.heap.size + 1 + 1, 0, none⟩ = some (.string { data := #[] }) := by rw [Lib.cell_of_heap t1]; rfl
      have f1 : V.frozen? ⟨w.heap.size + 1 + 1, 0, none⟩ = false := Lib.frozen_of_heap t1 _
      have c2 : V.cell? ⟨w.heap.size + 1 + 1 + 1, 0, none⟩ = some (.bool false) := by rw [Lib.cell_of_heap t3]; rfl
      have f2 : V.frozen? ⟨w.heap.size + 1 + 1 + 1, 0, none⟩ = false := Lib.frozen_of_heap t3 _
      have HEQ : Hid (resD a 0 = resD b 0) := by
        obtain ⟨H, rfl, s2, s3, s4, s5⟩ := hS
        obtain ⟨f1, f2⟩ := beside_fun HFF.out.1 HFF.out.2
        have ha1 : 0 < a.length := List.length_pos_iff.2 HFF.out.1.some
        have hb1 : 0 < b.length := List.length_pos_iff.2 HFF.out.2.some
        show _ = _
        rw [← f1, ← f2]
        exact differ_none (beside_fit HFF.out.1 HFF.out.2) ⟨by omega, by unfold besideL; simp; omega⟩ ⟨by omega, by unfold besideL; simp; omega⟩ s2 s3 s4 (fun y hy => by
          obtain ⟨x, hx, he⟩ := inits_mem hy
          rw [← he]
          exact hI.eqs x hx)
      have HR : Hid (∀ W, W = (V.setCell ⟨w.heap.size + 1 + 1, 0, none⟩ (.string { data := #[] })).setCell ⟨w.heap.size + 1 + 1 + 1, 0, none⟩ (.bool false) → (Below w.heap.size w W ∧ W.heap[w.heap.size + 1 + 1]? = some (Obj.cells #[.string { data := #[] }] 9) ∧ W.heap[w.heap.size + 1 + 1 + 1]? = some (Obj.cells #[.bool false] 4)) ∧ W.heap[w3.heap.size]? = some (.deferred (some [])) ∧ w.heap.size + 4 ≤ w3.heap.size) := fun W hW => by
        have hBw := HL.out.1.1
        have hBV : Below w.heap.size w V := hBw.trans (hI.bel.mono hBw.size)
        have s1 : But (fun k => k = w.heap.size + 1 + 1 ∨ k = w.heap.size + 1 + 1 + 1) V ((V.setCell ⟨w.heap.size + 1 + 1, 0, none⟩ (.string { data := #[] })).setCell ⟨w.heap.size + 1 + 1 + 1, 0, none⟩ (.bool false)) := ((But.refl _ _).setCell _ _ (.inr (.inl rfl))).setCell _ _ (.inr (.inr rfl))
        have hw3 : w.heap.size + 4 ≤ w3.heap.size := by
          have h1 := blk_lt HL.out.1.2.2.2.2
          have h2 := HW3.out.1
          omega
        rw [hW]
        exact ⟨⟨hBV.trans (s1.below hBV.size (fun k hk => by omega)), set_blk (by simpa using blk_set (o := 0) t1 (.string { data := #[] })) (by omega), by simpa using blk_set (o := 0) (set_blk t3 (by omega)) (.bool false)⟩, but_blk s1 hd (by omega), hw3⟩
      clear hS hI hd t1 t2 t3 t4 HL HW3 HD2 HGV HAP HN HAR HFF
      gi_wp2_with fail
      obtain ⟨R1, R2, R3⟩ := HR.out _ rfl
      exact leaves_marksC (Rw := fun W => Below w.heap.size w W ∧ W.heap[w.heap.size + 1 + 1]? = some (Obj.cells #[.string { data := #[] }] 9) ∧ W.heap[w.heap.size + 1 + 1 + 1]? = some (Obj.cells #[.bool false] 4)) (v := .tuple #[.string { data := #[] }, .bool false]) (fun W h => by
        have q1 : W.cell? ⟨w.heap.size + 1 + 1, 0, none⟩ = some (.string { data := #[] }) := by rw [Lib.cell_of_heap h.2.1]; rfl
        have q2 : W.cell? ⟨w.heap.size + 1 + 1 + 1, 0, none⟩ = some (.bool false) := by rw [Lib.cell_of_heap h.2.2]; rfl
        exact run_cell2 rfl _ W rfl rfl (by go_simp) (by go_simp)) (fun q => w.heap.size + 4 ≤ q) (fun W q h1 h2 h3 => by
        have pb := But.putObj W q (.deferred none)
        exact ⟨h3.1.trans (pb.below h3.1.size (fun k hk => by omega)), but_blk pb h3.2.1 (by omega), but_blk pb h3.2.2 (by omega)⟩) (fun W h => ⟨h.1, .inl ⟨rfl, HEQ.out⟩⟩) [w3.heap.size] _ ⟨by simp, fun q hq => by simp at hq; subst hq; exact R2⟩ (fun q hq => by simp at hq; subst hq; exact R3) R1
    case left =>
      intro V hX hd
      obtain ⟨P, p1, p2, p3⟩ := hX.ex
      have HEP : Hid ((fun P : List Int => P.length ≤ 50000 ∧ (∀ z ∈ P, 0 ≤ z ∧ z ≤ 255) ∧ FirstD (resD a 0) (resD b 0) P) P) := p1
      have R3 : w.heap.size + 4 ≤ w3.heap.size := by
        have h1 := blk_lt HL.out.1.2.2.2.2
        have h2 := HW3.out.1
        omega
      have R1 : Below w.heap.size w V ∧ V.heap[w.heap.size + 1 + 1]? = some (Obj.cells #[.string (strB P)] 9) ∧ V.heap[w.heap.size + 1 + 1 + 1]? = some (Obj.cells #[.bool true] 4) := ⟨hX.bel, p2, p3⟩
      clear hX p1 p2 p3 HL HW3 HD2 HGV HAP HN HAR HFF
      gi_wp2_with fail
      exact leaves_marksC (Rw := fun W => Below w.heap.size w W ∧ W.heap[w.heap.size + 1 + 1]? = some (Obj.cells #[.string (strB P)] 9) ∧ W.heap[w.heap.size + 1 + 1 + 1]? = some (Obj.cells #[.bool true] 4)) (v := .tuple #[.string (strB P), .bool true]) (fun W h => by
        have q1 : W.cell? ⟨w.heap.size + 1 + 1, 0, none⟩ = some (.string (strB P)) := by rw [Lib.cell_of_heap h.2.1]; rfl
        have q2 : W.cell? ⟨w.heap.size + 1 + 1 + 1, 0, none⟩ = some (.bool true) := by rw [Lib.cell_of_heap h.2.2]; rfl
        exact run_cell2 rfl _ W rfl rfl (by go_simp) (by go_simp)) (fun q => w.heap.size + 4 ≤ q) (fun W q h1 h2 h3 => by
        have pb := But.putObj W q (.deferred none)
        exact ⟨h3.1.trans (pb.below h3.1.size (fun k hk => by omega)), but_blk pb h3.2.1 (by omega), but_blk pb h3.2.2 (by omega)⟩) (fun W h => ⟨h.1, .inr ⟨P, rfl, HEP.out⟩⟩) [w3.heap.size] _ ⟨by simp, fun q hq => by simp at hq; subst hq; exact hd⟩ (fun q hq => by simp at hq; subst hq; exact R3) R1
end Go.Proofs.Ytdalomibilicfaa
