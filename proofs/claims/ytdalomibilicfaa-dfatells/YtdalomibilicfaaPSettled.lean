/- Classes of states: settled. -/
import Derived.Test.YtdalomibilicfaaPRounds
namespace Go.Proofs.Ytdalomibilicfaa
open Go.RowKit Go.Shelf
attribute [local go_sem] Oper.semAt_some

/-- What is kept between two rounds: blocks with what they hold. -/
structure XG {α : Type} (w : World) (C : List α → Nat → Obj → Prop) (A : Nat → Prop) (pre : List α) (V : World) : Prop where
  bel : Below w.heap.size w V
  has : ∀ k o, C pre k o → V.heap[k]? = some o ∧ ¬ A k
  low : ∀ k, A k → w.heap.size ≤ k ∧ k < V.heap.size
theorem XG.keep {α : Type} {w : World} {C : List α → Nat → Obj → Prop} {Fx : World → Prop} (hfx : ∀ pre V, Below w.heap.size w V → (∀ k o, C pre k o → V.heap[k]? = some o) → Fx V) : KeepJ Fx (XG w C) (fun _ _ => False) := by
  refine ⟨?_, ?_, ?_, ?_, ?_, ?_⟩
  · intro A pre V V' h hb
    refine ⟨h.bel.trans (hb.below h.bel.size (fun k hk => (h.low k hk).1)), fun k o hC => ?_, fun k hk => ?_⟩
    · have := h.has k o hC
      refine ⟨but_blk hb this.1 this.2, fun e => e.elim this.2 (fun e => ?_)⟩
      have := blk_lt this.1
      omega
    · have := h.bel.size
      have := hb.size
      rcases hk with hk | hk
      · have := h.low k hk; omega
      · omega
  · intro A pre V k h hk
    exact (h.low k hk).2
  · intro A B pre V h hB
    exact ⟨h.bel, fun k o hC => ⟨(h.has k o hC).1, fun e => (h.has k o hC).2 (hB _ e)⟩, fun k hk => h.low k (hB _ hk)⟩
  · intro A pre V h
    exact hfx pre V h.bel (fun k o hC => (h.has k o hC).1)
  · intro A B V h
    exact h.elim
  · intro A V V' h
    exact h.elim
def lastH (hs : List Hy) : Value := lastV ((hs.getLast?).getD [])
theorem lastH_snoc (hs : List Hy) (h : Hy) : lastH (hs ++ [h]) = lastV h := by unfold lastH; simp
def CSet (v : Value) (sb Bl : Nat) (pre : List Hy) (k : Nat) (o : Obj) : Prop := (k = sb ∧ o = Obj.cells #[lastH pre] 57) ∨ (k = Bl ∧ o = Obj.cells #[v] 22)
theorem okH_loop {l : List Ds} (xs : List Hy) (W W' : World) (k : Nat) (r : Loop) (h : allH l xs W) (hk : W.heap[k]? = some (.loop r)) (hb : But (fun j => j = k) W W') : allH l xs W' := by
  obtain ⟨H, h1, h2, h3, h4, h5⟩ := h
  exact ⟨H, h1, h2, h3, h4, fun y hy => (h5 y hy).loop hk hb⟩

set_option maxRecDepth 100000 in
set_option maxHeartbeats 3200000 in
theorem settled_any (l : List Ds) (v : Value) (w : World) (hl : SlD l v w) (hf : fitD l) (hn : l.length ≤ 10000) (har : ∀ s ∈ l, s.arcs.length ≤ 100000) :
    Calls Try.prog 34 #[v] w fun e w' => ∃ cv c k, e = .returned cv ∧ SlI c cv w' ∧ Cls l k c ∧ Cls l (k + 1) c ∧ Below w.heap.size w w' := by
  have HGV : Hid (∀ Bl V, GivesT 4 Try.prog 44 #[.pointer (some ⟨Bl, 0, none⟩)] encH (allH l) okH (pfH l) (fun _ => False) (FxR w v Bl) V) := fun Bl V => rounds_gives 4 l v Bl w V hl hf hn har
  obtain ⟨va, vc, rfl, _⟩ := hl
  clear hf har
  have HC := rounds_any (.slice va l.length vc) ⟨_, _, _, rfl⟩ (w.alloc (Obj.cells #[.slice none 0 0] 57))
  have H2 : Hid ((w.alloc (Obj.cells #[.slice none 0 0] 57)).heap.size = w.heap.size + 1 ∧ Below w.heap.size w (w.alloc (Obj.cells #[.slice none 0 0] 57)) ∧ (w.alloc (Obj.cells #[.slice none 0 0] 57)).heap[w.heap.size]? = some (Obj.cells #[.slice none 0 0] 57)) := ⟨by simp, below_box _ _ _, heap_alloc_new _ _⟩
  refine (callsIn_wide (n := 5)).1 ?_
  refine callsIn_of_wp_marks Try.func34 rfl trivial ?_ rfl
  simp only [Try.ntmps34, List.size_toArray, List.length_cons, List.length_nil, Nat.reduceAdd, Nat.reduceSub, Array.replicate_succ, Array.replicate_zero, List.push_toArray, List.append_toArray, List.nil_append, List.cons_append]
  gi_wp2_with fail
  refine ⟨trivial, (callsIn_wide.2 HC).mono ?_⟩
  rintro e w3 ⟨rfl, hw3⟩
  generalize w.alloc (Obj.cells #[.slice none 0 0] 57) = w2 at *
  have HW3 : Hid (w3.heap.size = w.heap.size + 2 ∧ Below w.heap.size w w3 ∧ w3.heap[w.heap.size]? = some (Obj.cells #[.slice none 0 0] 57) ∧ w3.heap[w2.heap.size]? = some (Obj.cells #[.slice va l.length vc] 22)) := by
    obtain ⟨z2, z3, z4⟩ := H2.out
    have B3 : Below w2.heap.size w2 w3 := by rw [hw3]; exact below_box _ _ _
    refine ⟨by rw [hw3]; simp; omega, z3.trans (B3.mono z3.size), (B3.block _ (blk_lt z4)).trans z4, by rw [hw3]; exact heap_alloc_new _ _⟩
  have HD2 : Hid (w2.heap.size = w.heap.size + 1) := H2.out.1
  clear HC hw3 H2
  gi_wp2_with fail
  refine wpIn_range_V (α := Hy) (by omega) (gf := 44) (lb := #[.pointer (some ⟨w2.heap.size, 0, none⟩)]) rfl (enters_of Try.func44 (by kernel_rfl) rfl) (encs := encH) (S := allH l) (Ok := okH) (Pf := pfH l) (A0 := fun _ => False) (Fx := FxR w (.slice va l.length vc) w2.heap.size) (fun _ => rfl) (fun q hq => hq.elim) (fun V _ => HGV.out _ V)
    (fun A x W W' k h hk hb y hy => ⟨(h y hy).1.block hb (fun ad n c e h2 => hk (by rw [← h2]; exact (h y hy).2 ad n c e)), (h y hy).2⟩) (fun xs W W' r h hk hb => okH_loop xs W W' _ r h hk hb)
    (XG w (CSet (.slice va l.length vc) w.heap.size w2.heap.size)) (fun _ _ => False) (XG.keep (fun pre V hb hC => ⟨hb, hC _ _ (.inr ⟨rfl, rfl⟩)⟩)) (fun V h1 h2 => ?init)
    (fun x a' => a' = { tmps := #[.slice va l.length vc, undef, .slice none 0 0, .pointer (some ⟨w.heap.size, 0, none⟩), lastV x, .slice va l.length vc, .func (.func 44) #[] #[.pointer (some ⟨w2.heap.size, 0, none⟩)], lastV x, undef, undef], defers := [] })
    ?assign ?body ?done (fun V h => h.elim)
  case init =>
    obtain ⟨z1, z2, z3, z4⟩ := HW3.out
    have z6 := HD2.out
    refine ⟨below_then z2 h1 z2.size, fun k o hC => ?_, fun k hk => ?_⟩
    · have key : w3.heap[k]? = some o := by
        rcases hC with ⟨rfl, rfl⟩ | ⟨rfl, rfl⟩
        · exact z3
        · exact z4
      have hk := blk_lt key
      refine ⟨(h1.block _ hk).trans key, fun h => ?_⟩
      rcases h with h | h | h
      · exact h
      · omega
      · omega
    · rcases hk with h | h | h
      · exact h.elim
      · omega
      · omega
  case assign =>
    intro l' x V K hK
    simp only [encH]
    have HK : Hid _ := hK
    clear hK
    gi_wp2_with fail
    exact HK.out _ rfl
  case body =>
    rintro l' A' pre x a' V hI rfl hOk hPf
    obtain ⟨c0, nA⟩ := hI.has _ _ (.inl ⟨rfl, rfl⟩)
    have cc : V.cell? ⟨w.heap.size, 0, none⟩ = some (lastH pre) := by rw [Lib.cell_of_heap c0]; rfl
    have cf : V.frozen? ⟨w.heap.size, 0, none⟩ = false := Lib.frozen_of_heap c0 _
    obtain ⟨xa, xn, xc, hx⟩ : ∃ a n c, lastV x = .slice a n c := by
      obtain ⟨H, hH, _⟩ := hPf
      obtain ⟨H', y, _, _, rfl⟩ := initsH_cut hH
      obtain ⟨⟨ao, cap, h9, _⟩, _⟩ := hOk y (by simp)
      rw [(lastV_snoc _ _).1]
      exact ⟨_, _, _, h9⟩
    have HE : Hid (XG w (CSet (.slice va l.length vc) w.heap.size w2.heap.size) (fun k => A' k ∨ k = w3.heap.size ∨ k = w3.heap.size + 1) (pre ++ [x]) (V.setCell ⟨w.heap.size, 0, none⟩ (.slice xa xn xc)) ∧ But (fun k => ¬ (A' k ∨ k = w3.heap.size ∨ k = w3.heap.size + 1)) V (V.setCell ⟨w.heap.size, 0, none⟩ (.slice xa xn xc))) := by
      have B : But (fun k => k = w.heap.size) V (V.setCell ⟨w.heap.size, 0, none⟩ (.slice xa xn xc)) := (But.refl _ _).setCell _ _ (.inr rfl)
      refine ⟨⟨hI.bel.trans (B.below hI.bel.size (fun k hk => by omega)), fun k o hC => ?_, fun k hk => ?_⟩, B.mono (fun k _ h h2 => nA (by rw [← h]; exact h2))⟩
      · have z6 := HD2.out
        rcases hC with ⟨rfl, rfl⟩ | ⟨rfl, rfl⟩
        · rw [lastH_snoc, hx]
          exact ⟨by simpa using blk_set (o := 0) c0 (.slice xa xn xc), nA⟩
        · obtain ⟨e1, e2⟩ := hI.has _ _ (.inr ⟨rfl, rfl⟩)
          exact ⟨but_blk B e1 (fun e => by omega), e2⟩
      · have := hI.low k hk
        have := B.size
        omega
    rw [hx]
    clear hI hPf hOk c0 nA hx
    gi_wp2
    have HE' := HE.out
    simp only [not_or] at HE'
    exact HE'
  case done =>
    intro xs V hS hI hd
    obtain ⟨c0, nA⟩ := hI.has _ _ (.inl ⟨rfl, rfl⟩)
    obtain ⟨H, rfl, s2, s3, s4, s5⟩ := hS
    obtain ⟨H', y, rfl⟩ : ∃ H' y, H = H' ++ [y] := by
      rcases List.eq_nil_or_concat H with rfl | ⟨H', y, rfl⟩
      · exact absurd rfl s3
      · exact ⟨H', y, by simp⟩
    have hlv : lastH (initsH (H' ++ [y])) = y.1 := by rw [initsH_snoc, lastH_snoc, (lastV_snoc _ _).1]
    rw [hlv] at c0
    have hsy := s5 y (by simp)
    have HE : Hid (SlI y.2 y.1 V ∧ Cls l H'.length y.2 ∧ Cls l (H'.length + 1) y.2 ∧ Below w.heap.size w V ∧ ∀ W q, W.heap[q]? = some (.deferred (some [])) → SlI y.2 y.1 W → SlI y.2 y.1 (W.putObj q (.deferred none))) := by
      refine ⟨hsy, s2 H'.length y (by simp), by rw [(lastV_snoc _ _).2] at s4; simpa using s4, hI.bel, fun W q hq h => ?_⟩
      obtain ⟨ao, cap, h0, h1, h2⟩ := h
      have hb := But.putObj W q (.deferred none)
      refine ⟨ao, cap, h0, fun i x hi => ?_, h2⟩
      obtain ⟨b, off, e, hb1, hc⟩ := h1 i x hi
      refine ⟨b, off, e, Nat.lt_of_lt_of_le hb1 hb.size, (hb.cell (p := ⟨b, off + i, none⟩) hb1 (fun hd => ?_)).trans hc⟩
      simp only at hd
      subst hd
      simp [World.cell?, hq] at hc
    obtain ⟨ya, yc, hy, _⟩ := hsy
    rw [hy] at c0 HE
    have cc : V.cell? ⟨w.heap.size, 0, none⟩ = some (.slice ya y.2.length yc) := by rw [Lib.cell_of_heap c0]; rfl
    clear hI c0 nA s2 s3 s4 s5 hlv hy
    gi_wp2
    exact leaves_marksC (Rw := fun W => SlI y.2 (.slice ya y.2.length yc) W ∧ Below w.heap.size w W) (v := .slice ya y.2.length yc) (fun W _ => (results_tmp (t := 2) rfl _ _ _).trans (by rfl)) (fun q => w.heap.size ≤ q) (fun W q h1 h2 h3 => ⟨HE.out.2.2.2.2 W q h2 h3.1, h3.2.trans ((But.putObj W q (.deferred none)).below h3.2.size (fun k hk => by omega))⟩) (fun W h => ⟨_, y.2, H'.length, rfl, h.1, HE.out.2.1, HE.out.2.2.1, h.2⟩) [w3.heap.size] V ⟨by simp, fun q hq => by simp at hq; subst hq; exact hd⟩ (fun q hq => by simp at hq; subst hq; have := HW3.out.1; omega) ⟨HE.out.1, HE.out.2.2.2.1⟩
end Go.Proofs.Ytdalomibilicfaa
