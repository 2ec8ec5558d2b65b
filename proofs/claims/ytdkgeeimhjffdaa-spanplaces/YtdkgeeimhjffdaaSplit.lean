/- Split of the program: the parts of the whole that a range within has. -/
import Derived.Test.YtdkgeeimhjffdaaSplitMath
import Derived.Maps.OwnIn
namespace Go.Proofs.Ytdkgeeimhjffdaa
open Go.RowKit Go.Shelf
attribute [local go_sem] Oper.semAt_some

/-- The out box lies at N, and its row below the heap's end. -/
def GdO (N : Nat) (A : World) : Prop := ∃ v : Value, A.heap[N]? = some (.cells #[v] 22 (0, 0)) ∧ ∀ k, v.ownBlock = some k → k < A.heap.size
/-- What was below n0 lies as it lay; and every box of a range that is not the out box's row is kept, and does not become it. -/
structure KpO (n0 N : Nat) (A B : World) : Prop where
  old : Below n0 A B
  kp : ∀ v : Value, A.heap[N]? = some (.cells #[v] 22 (0, 0)) → (∀ k, v.ownBlock = some k → k < A.heap.size) → ∃ v' : Value, B.heap[N]? = some (.cells #[v'] 22 (0, 0)) ∧ (∀ k, v'.ownBlock = some k → k < B.heap.size) ∧
    ∀ (k : Nat) (cs : Array Value) (fr : Nat × Nat), A.heap[k]? = some (.cells cs 29 fr) → v.ownBlock ≠ some k → B.heap[k]? = some (.cells cs 29 fr) ∧ v'.ownBlock ≠ some k
theorem KpO.refl (n0 N : Nat) (A : World) : KpO n0 N A A := ⟨Below.refl _ _, fun v h1 h2 => ⟨v, h1, h2, fun _ _ _ h3 h4 => ⟨h3, h4⟩⟩⟩
theorem KpO.trans {n0 N : Nat} {A B C : World} (h : KpO n0 N A B) (k : KpO n0 N B C) : KpO n0 N A C := ⟨h.old.trans k.old, fun v h1 h2 => by
  obtain ⟨v', h3, h4, h5⟩ := h.kp v h1 h2
  obtain ⟨v'', h6, h7, h8⟩ := k.kp v' h3 h4
  exact ⟨v'', h6, h7, fun i cs fr hi hv => by obtain ⟨a, b⟩ := h5 i cs fr hi hv; exact h8 i cs fr a b⟩⟩
theorem KpO.grown {n0 N : Nat} {A B : World} {row : Option Nat} (hg : A.grownBy B row) (hn : n0 ≤ A.heap.size) (hr : ∀ r, row = some r → n0 ≤ r ∧ ∃ o : Obj, A.heap[r]? = some o ∧ o.isCells = false) : KpO n0 N A B := by
  have key : ∀ (k : Nat) (cs : Array Value) (t : TypeId) (fr : Nat × Nat), A.heap[k]? = some (.cells cs t fr) → B.heap[k]? = some (.cells cs t fr) := fun k cs t fr hk =>
    (hg.block k (Array.getElem?_eq_some_iff.1 hk).1 fun e => by
      obtain ⟨_, o, ho, hc⟩ := hr k e.symm
      rw [hk] at ho
      cases ho
      cases hc).trans hk
  exact ⟨(Below.refl _ _).grown hg hn (fun r e => (hr r e).1), fun v h1 h2 => ⟨v, key _ _ _ _ h1, fun k e => Nat.lt_of_lt_of_le (h2 k e) hg.size, fun k cs fr hk hv => ⟨key _ _ _ _ hk, hv⟩⟩⟩
theorem KpO.alloc {n0 N : Nat} {A : World} (hn : n0 ≤ A.heap.size) (o : Obj) : KpO n0 N A (A.alloc o) := .grown (World.grownBy_alloc A o none) hn (fun _ e => by cases e)
theorem KpO.putObj {n0 N : Nat} {A : World} {l : Nat} {o : Obj} (hl : n0 ≤ l) (h : A.heap[l]? = some o) (hc : o.isCells = false) (o' : Obj) : KpO n0 N A (A.putObj l o') :=
  .grown (grownBy_putObj' A l o') (by have := (Array.getElem?_eq_some_iff.1 h).1; omega) (fun r e => by cases e; exact ⟨hl, o, h, hc⟩)

theorem parts_stopsO (n : Nat) (hn : 1 ≤ n) (n0 N Bl : Nat) (es : List Rg) (ao : Option Addr) (cap : Nat) (hf : Fit es) (ho : ∀ r ∈ es, RgOk r) (hl : es.length ≤ 1000000) (w : World)
    (hn0 : ∀ (i : Nat) (r : Rg), es[i]? = some r → ∃ b off, ao = some ⟨b, off, none⟩ ∧ b < n0) (hBl : w.cell? ⟨Bl, 0, none⟩ = some (.slice ao es.length cap)) (hc : RgAt es ao w) (hG : GdO N w) :
    SeqStopsK Fence.wide n Try.prog 41 #[.pointer (some ⟨Bl, 0, none⟩)] encP (KpO n0 N) (fun ys => ys = partsL 0 es) (fun pre => pre <+: partsL 0 es) es.length w := fun l J Jx W hW hJ _ hY h0 =>
  parts1_in n hn l Bl es ao cap hf ho hl (KpO n0 N) (GdO N)
    (fun {A B} hk hr i r hi => by
      obtain ⟨b, off, h1, h2, h3, h4⟩ := hr i r hi
      obtain ⟨b', off', h1', hlt⟩ := hn0 i r hi
      rw [h1] at h1'
      cases h1'
      exact ⟨b, off, h1, Nat.lt_of_lt_of_le h2 hk.old.size, (hk.old.cell (p := ⟨b, off + i * 2, none⟩) hlt).trans h3, (hk.old.cell (p := ⟨b, off + i * 2 + 1, none⟩) hlt).trans h4⟩)
    (fun {A B x y} hG hk => by
      obtain ⟨v, hv, hlt⟩ := hG
      have hN : N < A.heap.size := (Array.getElem?_eq_some_iff.1 hv).1
      obtain ⟨v', h1, h2, h3⟩ := hk.kp v ((Below.heap_alloc A _ N hN).trans hv) (fun k e => by have := hlt k e; simp; omega)
      have hb := (h3 A.heap.size _ _ (World.alloc_heap_new A _) (fun e => by have := hlt _ e; omega)).1
      exact ⟨by rw [cell_of_row B _ 0 _ _ _ hb]; rfl, by rw [cell_of_row B _ 1 _ _ _ hb]; rfl, v', h1, h2⟩)
    J Jx W hJ hY ((hW.cell (p := ⟨Bl, 0, none⟩) (World.block_lt_of_cell? _ _ hBl)).trans hBl) (hc.next hW)
    (by
      obtain ⟨v, hv, hlt⟩ := hG
      exact ⟨v, (hW.block N (Array.getElem?_eq_some_iff.1 hv).1).trans hv, fun k e => Nat.lt_of_lt_of_le (hlt k e) hW.size⟩) h0

/-- Split's own variables, from block N on: x; out. -/
structure SpC (N : Nat) (x : Rg) (v : Value) (W : World) : Prop where
  x : W.heap[N]? = some (.cells #[.int .i64 x.1, .int .i64 x.2] 29 (0, 0))
  o : W.heap[N + 1]? = some (.cells #[v] 22 (0, 0))
theorem SpC.kept {N B : Nat} {x : Rg} {v : Value} {W W' : World} {row : Option Nat} (h : SpC N x v W) (hg : W.grownBy W' row) (hB : N + 2 ≤ B) (hr : ∀ r, row = some r → B ≤ r) : SpC N x v W' := by
  have key : ∀ (k : Nat) (o : Obj), W.heap[k]? = some o → k < N + 2 → W'.heap[k]? = some o := fun k o hk hlt =>
    (hg.block k (Array.getElem?_eq_some_iff.1 hk).1 (fun e => by have := hr k e.symm; omega)).trans hk
  exact ⟨key _ _ h.x (by omega), key _ _ h.o (by omega)⟩
theorem SpC.kept' {N : Nat} {x : Rg} {v : Value} {W W' : World} {row : Option Nat} (h : SpC N x v W) (hg : W.grownBy W' row) (hr : ∀ r, row = some r → ∃ o : Obj, W.heap[r]? = some o ∧ o.isCells = false) : SpC N x v W' :=
  ⟨(grownBy_keeps_cells hg hr h.x rfl).trans h.x, (grownBy_keeps_cells hg hr h.o rfl).trans h.o⟩
theorem SpC.cells {N : Nat} {x : Rg} {v : Value} {W : World} (h : SpC N x v W) :
    W.cell? ⟨N, 0, none⟩ = some (.int .i64 x.1) ∧ W.cell? ⟨N, 1, none⟩ = some (.int .i64 x.2) ∧ W.cell? ⟨N + 1, 0, none⟩ = some v ∧ W.frozen? ⟨N + 1, 0, none⟩ = false :=
  ⟨by rw [cell_of_row W _ 0 _ _ _ h.x]; rfl, by rw [cell_of_row W _ 1 _ _ _ h.x]; rfl, by rw [cell_of_row W _ 0 _ _ _ h.o]; rfl, frozen_of_row W _ 0 _ _ h.o⟩
theorem SpC.lt {N : Nat} {x : Rg} {v : Value} {W : World} (h : SpC N x v W) : N + 1 < W.heap.size := (Array.getElem?_eq_some_iff.1 h.o).1
theorem SpC.setO {N : Nat} {x : Rg} {v : Value} {W : World} (h : SpC N x v W) (v' : Value) : SpC N x v' (W.setCell ⟨N + 1, 0, none⟩ v') :=
  ⟨(Below.heap_setCell _ _ _ _ (by show N ≠ N + 1; omega)).trans h.x, by rw [heap_setCell_same _ _ 0 _ _ _ h.o]; rfl⟩

theorem sp_app {N B : Nat} {x : Rg} {v : Value} {rs : List Rg} {r : Rg} {ob : Obj} {w W w2 : World} {g' c' : Nat} (hK : SpC N x v W) (hO : OwnR B rs v W) (hB : Below N w W) (hNB : N + 2 ≤ B) (hsz : B ≤ W.heap.size)
    (hown : w2.ownsRow B 29 2 (.slice (some ⟨g', 0, none⟩) (rs.length + 1) c') (rs.length + 1) (rs.flatMap encR ++ encR r)) (hgrow : (W.alloc ob).grownBy w2 v.ownBlock)
    (hblk : (Value.slice (some ⟨g', 0, none⟩) (rs.length + 1) c').ownBlock = v.ownBlock ∨ (Value.slice (some ⟨g', 0, none⟩) (rs.length + 1) c').ownBlock = some (W.alloc ob).heap.size) :
    ∃ w3, w2.setCell ⟨N + 1, 0, none⟩ (.slice (some ⟨g', 0, none⟩) (rs.length + 1) c') = w3 ∧ SpC N x (.slice (some ⟨g', 0, none⟩) (rs.length + 1) c') w3 ∧ OwnR B (rs ++ [r]) (.slice (some ⟨g', 0, none⟩) (rs.length + 1) c') w3 ∧ Below N w w3 ∧ KeepsFrom B W w3 ∧ KpO N (N + 1) W w3 ∧ B ≤ w3.heap.size ∧
      w2.cell? ⟨N + 1, 0, none⟩ = some v ∧ w2.frozen? ⟨N + 1, 0, none⟩ = false := by
  have hK0 : SpC N x v (W.alloc ob) := hK.kept (World.grownBy_alloc W ob none) hNB (fun _ e => by cases e)
  have hO0 : OwnR B rs v (W.alloc ob) := World.ownsRow.alloc hO ob
  have hrow : ∀ k, v.ownBlock = some k → B ≤ k ∧ ∃ cur, (W.alloc ob).heap[k]? = some (.cells cur 29 (0, 0)) := by
    intro k hk
    rcases hO0.2 with ⟨rfl, _⟩ | ⟨g, cap, cur, rfl, hb, hg, _⟩
    · cases hk
    · cases hk
      exact ⟨hb, cur, hg⟩
  have hK2 : SpC N x v w2 := hK0.kept hgrow hNB (fun k e => (hrow k e).1)
  have hO2 : OwnR B (rs ++ [r]) (.slice (some ⟨g', 0, none⟩) (rs.length + 1) c') w2 := OwnR.snoc hown
  have hO3 : OwnR B (rs ++ [r]) (.slice (some ⟨g', 0, none⟩) (rs.length + 1) c') (w2.setCell ⟨N + 1, 0, none⟩ (.slice (some ⟨g', 0, none⟩) (rs.length + 1) c')) := hO2.store (by omega) _ _
  have hB3 : Below N w (w2.setCell ⟨N + 1, 0, none⟩ (.slice (some ⟨g', 0, none⟩) (rs.length + 1) c')) := ((hB.alloc (by omega) ob).grown hgrow (by simp; omega) (fun k e => by have := (hrow k e).1; omega)).setCell (by show N ≤ N + 1; omega) _
  have hWB : Below N W (w2.setCell ⟨N + 1, 0, none⟩ (.slice (some ⟨g', 0, none⟩) (rs.length + 1) c')) := (((Below.refl N W).alloc (by omega) ob).grown hgrow (by simp; omega) (fun k e => by have := (hrow k e).1; omega)).setCell (by show N ≤ N + 1; omega) _
  refine ⟨_, rfl, hK2.setO _, hO3, hB3, ?_, ⟨hWB, ?_⟩, ?_, hK2.cells.2.2.1, hK2.cells.2.2.2⟩
  · refine (((KeepsOthers.alloc _ _).trans (KeepsOthers.of_grownBy hgrow ?_)).trans (KeepsOthers.setCell _ _ _)).from _
    intro k o hk ho
    obtain ⟨_, cur, hc⟩ := hrow k hk
    rw [hc] at ho
    cases ho
    rfl
  · intro u hu hlt
    rw [hK.o] at hu
    cases hu
    refine ⟨_, (hK2.setO _).o, fun k e => (hO3.lt k e).2, fun k cs fr hk hv => ⟨?_, fun e => ?_⟩⟩
    · have hkl : k < W.heap.size := (Array.getElem?_eq_some_iff.1 hk).1
      have h1 : (W.alloc ob).heap[k]? = some (.cells cs 29 fr) := (Below.heap_alloc W _ k hkl).trans hk
      have h2 : w2.heap[k]? = some (.cells cs 29 fr) := (hgrow.block k (by simp; omega) (fun e => hv e.symm)).trans h1
      refine (Below.heap_setCell _ _ _ _ ?_).trans h2
      show k ≠ N + 1
      rintro rfl
      rw [hK.o] at hk
      cases hk
    · have hkl : k < W.heap.size := (Array.getElem?_eq_some_iff.1 hk).1
      rcases hblk with h | h
      · exact hv (h.symm.trans e)
      · rw [e] at h
        simp at h
        omega
  · have := hgrow.size
    simp [World.setCell] at this ⊢
    omega

def SpI (N B : Nat) (x : Rg) (pre : List Pt) (W : World) : Prop := (∃ v, SpC N x v W ∧ OwnR B (pre.flatMap (cutW x)) v W) ∧ B ≤ W.heap.size
theorem SpI.kept {N B : Nat} {x : Rg} {pre : List Pt} {W W' : World} {row : Option Nat} (h : SpI N B x pre W) (hg : W.grownBy W' row) (hr : ∀ r, row = some r → ∃ o : Obj, W.heap[r]? = some o ∧ o.isCells = false) : SpI N B x pre W' := by
  obtain ⟨⟨v, h1, h2⟩, h3⟩ := h
  refine ⟨⟨v, h1.kept' hg hr, h2.kept hg (fun r e => .inr ?_)⟩, Nat.le_trans h3 hg.size⟩
  obtain ⟨o, ho, hc⟩ := hr r e
  exact ⟨o, ho, fun cs fr e => by rw [e] at hc; cases hc⟩

theorem sp_start (w : World) (x : Rg) (v : Value) {W0 : World} (hW0 : ((w.alloc (Obj.cells #[Value.int IntKind.i64 x.1, Value.int IntKind.i64 x.2] 29)).alloc (Obj.cells #[Value.slice none 0 0] 22)).alloc (Obj.cells #[v] 22) = W0) :
    Below w.heap.size w W0 ∧ W0.heap.size = w.heap.size + 3 ∧ W0.cell? ⟨w.heap.size + 1 + 1, 0, none⟩ = some v ∧ SpC w.heap.size x (.slice none 0 0) W0 := by
  subst hW0
  have hh : (((w.alloc (Obj.cells #[Value.int IntKind.i64 x.1, Value.int IntKind.i64 x.2] 29)).alloc (Obj.cells #[Value.slice none 0 0] 22)).alloc (Obj.cells #[v] 22)).heap =
    ((w.heap.push (Obj.cells #[Value.int IntKind.i64 x.1, Value.int IntKind.i64 x.2] 29)).push (Obj.cells #[Value.slice none 0 0] 22)).push (Obj.cells #[v] 22) := rfl
  refine ⟨(((Below.refl _ _).alloc (Nat.le_refl _) _).alloc (by simp) _).alloc (by simp <;> omega) _, by simp, ?_, ⟨?_, ?_⟩⟩
  · rw [cell_of_row _ _ 0 #[v] 22 (0, 0) (by rw [hh]; simp [Array.getElem_push])]; rfl
  all_goals
    rw [hh]
    simp [Array.getElem_push, Nat.add_assoc]

set_option maxRecDepth 100000 in
set_option maxHeartbeats 2000000 in
theorem split_in (n : Nat) (hn : 3 ≤ n) (es : List Rg) (ao : Option Addr) (cap : Nat) (x : Rg) (w : World) (hc : RgAt es ao w) (hf : Fit es) (ho : ∀ r ∈ es, RgOk r) (hl : es.length ≤ 1000) (hx : RgOk x) :
    CallsIn Fence.wide n Try.prog 29 #[.slice ao es.length cap, .agg #[.int .i64 x.1, .int .i64 x.2]] w fun e w' => ∃ ro rc, e = .returned (.slice ro (splitP x es).length rc) ∧ RgAt (splitP x es) ro w' ∧ Below w.heap.size w w' := by
  have h1 : 1 ≤ n := by omega
  obtain ⟨i0, hi, hz0, hz1, hz2⟩ := info_parts info29
  refine callsIn_of_wp_marks Try.func29 rfl trivial ?_ rfl
  simp only [Try.ntmps29, List.size_toArray, List.length_cons, List.length_nil, Nat.reduceAdd, Nat.reduceSub, Array.replicate_succ, Array.replicate_zero, List.push_toArray, List.append_toArray, List.nil_append, List.cons_append]
  gi_wp2_with fail
  refine ⟨trivial, ?_⟩
  refine (callsIn_wide.2 (parts_any _ _ _ _)).mono ?_
  rintro e w1 ⟨rfl, rfl⟩
  gi_wp2
  obtain ⟨W0, hW0⟩ : ∃ W0, ((w.alloc (Obj.cells #[Value.int IntKind.i64 x.1, Value.int IntKind.i64 x.2] 29)).alloc (Obj.cells #[Value.slice none 0 0] 22)).alloc (Obj.cells #[.slice ao es.length cap] 22) = W0 := ⟨_, rfl⟩
  obtain ⟨hB0, hsz, hcl, hC0⟩ := sp_start w x _ hW0
  rw [hW0]
  clear hW0
  have hG0 : GdO (w.heap.size + 1) W0 := ⟨_, hC0.o, fun k e => by cases e⟩
  refine wpIn_rangeFunc_ownH rfl h1 (gf := 41) (lb := #[.pointer (some ⟨w.heap.size + 1 + 1, 0, none⟩)]) rfl trivial (enters_of Try.func41 (by kernel_rfl) rfl)
    (parts_stopsO (n - 1) (by omega) w.heap.size (w.heap.size + 1) (w.heap.size + 1 + 1) es ao cap hf ho (by omega) W0 (fun i r hi => by obtain ⟨b, off, h, hlt, _⟩ := hc i r hi; exact ⟨b, off, h, hlt⟩) hcl (hc.next hB0) hG0)
    KpO.trans (fun W l o o' hl h hc _ => KpO.putObj (by omega) h hc o') (Below.refl _ _) (fun _ => rfl)
    (fun pre W => SpI w.heap.size W0.heap.size x pre W ∧ Below w.heap.size w W)
    (fun c pre W => False ∧ Below w.heap.size w W)
    (OwnFrom.and (Own.from (fun s A B row hs hg hr => hs.kept hg hr) _) (ownFrom_below (Nat.le_refl _) (by omega)))
    (fun c => OwnFrom.and (Own.from (fun s A B row hs hg hr => hs) _) (ownFrom_below (Nat.le_refl _) (by omega)))
    ⟨⟨⟨_, hC0, OwnR.nil _ _⟩, Nat.le_refl _⟩, hB0⟩
    (fun y a' W => ∃ Bx, (W.cell? ⟨Bx, 0, none⟩ = some (.int .i64 y.2.1) ∧ W.cell? ⟨Bx, 1, none⟩ = some (.int .i64 y.2.2)) ∧ a' = { tmps := #[.slice ao es.length cap, .agg #[.int .i64 x.1, .int .i64 x.2], undef, .pointer (some ⟨w.heap.size, 0, none⟩), .slice none 0 0, .pointer (some ⟨w.heap.size + 1, 0, none⟩), .int .i64 y.1, .pointer (some ⟨Bx, 0, none⟩), undef, undef, .slice ao es.length cap, .func (.func 41) #[] #[.pointer (some ⟨w.heap.size + 1 + 1, 0, none⟩)], .int .i64 y.1, .agg #[.int .i64 y.2.1, .int .i64 y.2.2], undef, undef, undef, undef, undef, undef, undef, undef, undef, undef, undef, undef, undef, undef, undef, undef, undef, undef, undef, undef, undef, undef, undef, undef, undef, undef, undef, undef, undef, undef, undef, undef, undef, undef], defers := [] })
    (fun y a' _ X Y row hs hg hr => by obtain ⟨Bx, ⟨h1, h2⟩, h4⟩ := hs; exact ⟨Bx, ⟨cell_kept h1 hg (fun r e => (hr r e).2), cell_kept h2 hg (fun r e => (hr r e).2)⟩, h4⟩)
    ?assign ?body ?done ?stop
  case assign =>
    rintro l pre y W K ⟨hP, hB⟩ hK
    gi_wp2
    exact hK _ _ ((KeepsOthers.alloc _ _).from _) (KpO.alloc hB.size _) ⟨hP.kept (World.grownBy_alloc W _ none) (fun _ e => by cases e), hB.alloc hB.size _⟩ ⟨W.heap.size, ⟨by go_simp, by go_simp⟩, rfl⟩
  case body =>
    rintro l pre y a' W hl' hr ⟨⟨⟨v, hK, hO⟩, hsz0⟩, hB⟩ ⟨Bx, ⟨hb0, hb1⟩, rfl⟩ hlt
    obtain ⟨c1, c2, c3, f1⟩ := hK.cells
    have HK : Hid (SpC w.heap.size x v W) := hK
    have HO : Hid (OwnR W0.heap.size (pre.flatMap (cutW x)) v W) := hO
    have hlen : (pre.flatMap (cutW x)).length ≤ pre.length := flatW_len x pre
    obtain ⟨L, hL⟩ : ∃ L, wrap64 (y.2.2 - y.2.1) = L := ⟨_, rfl⟩
    obtain ⟨T, hT⟩ : ∃ T, wrap64 (y.1 + L) = T := ⟨_, rfl⟩
    obtain ⟨d, hd⟩ : ∃ d, max x.1 y.1 = d := ⟨_, rfl⟩
    obtain ⟨e, he⟩ : ∃ e, min x.2 T = e := ⟨_, rfl⟩
    obtain ⟨f0, hf0⟩ : ∃ f, wrap64 (d - y.1) = f := ⟨_, rfl⟩
    obtain ⟨F0, hF0⟩ : ∃ f, wrap64 (y.2.1 + f0) = f := ⟨_, rfl⟩
    obtain ⟨f1', hf1⟩ : ∃ f, wrap64 (e - y.1) = f := ⟨_, rfl⟩
    obtain ⟨F1, hF1⟩ : ∃ f, wrap64 (y.2.1 + f1') = f := ⟨_, rfl⟩
    have HC : Hid ((pre ++ [y]).flatMap (cutW x) = pre.flatMap (cutW x) ++ if d < e then [(F0, F1)] else []) := by
      show _ = _
      simp only [List.flatMap_append, List.flatMap_cons, List.flatMap_nil, List.append_nil]
      rw [cutW, hL, hT, hd, he, hf0, hF0, hf1, hF1]
    have HSZ : Hid (W0.heap.size = w.heap.size + 3) := hsz
    have HB : Hid (Below w.heap.size w W) := hB
    have hKlt := hK.lt
    clear hK hr hB hcl hC0 hG0 hB0 hsz hf ho hc hx
    generalize pre.flatMap (cutW x) = rs at *
    by_cases hde : d < e
    · gi_wp2_with (gi_at_builtin; refine wpListIn_append_own_at _ rfl _ _ 22 rfl W0.heap.size 29 i0 _ 2 16 Try.underlying22 hi hz0 hz1 hz2 rfl (by decide) _ _ _ rfl (World.ownsRow.alloc hO _) ⟨W.heap.size, 0, none⟩ 1 1 (encR (F0, F1)) rfl rfl (cells2 _ _ _) (encR_one _) (by unfold maxLen; omega) (by omega) (by simp; omega) ?_)
      intro v' w2 hown' hgrow _ hblk
      obtain ⟨g', c', rfl⟩ := ownsRow_succ hown'
      obtain ⟨w3, hw3, hK3, hO3, hB3, hF3, hP3, hsz3, e1, e2⟩ := sp_app HK.out HO.out HB.out (by rw [HSZ.out]; omega) hsz0 hown' hgrow (by simpa using hblk)
      have HR : Hid (SpI w.heap.size W0.heap.size x (pre ++ [y]) w3 ∧ KeepsFrom W0.heap.size W w3 ∧ KpO w.heap.size (w.heap.size + 1) W w3) := ⟨⟨⟨_, hK3, by rw [HC.out, if_pos hde]; exact hO3⟩, hsz3⟩, hF3, hP3⟩
      clear hown' hgrow hblk hF3 hP3 hK3 hO3
      gi_wp2
      exact ⟨HR.out.2.1, HR.out.2.2, HR.out.1, hB3⟩
    · gi_wp2
      exact ⟨KeepsFrom.refl _ _, KpO.refl _ _ _, ⟨⟨v, HK.out, by rw [HC.out, if_neg (by omega), List.append_nil]; exact HO.out⟩, hsz0⟩, HB.out⟩
  case done =>
    rintro D ys W hD rfl ⟨⟨⟨v, hP, hO⟩, _⟩, hB⟩ hDf
    rw [flatW_eq hf ho hx] at hO
    obtain ⟨ro, rc, rfl, hrg, _⟩ := OwnR.at_ hO
    obtain ⟨c1, c2, c3, f1⟩ := hP.cells
    have hrg2 : RgAt (splitP x es) ro (W.putObj D (.deferred none)) := hrg.kept (grownBy_putObj' W D (.deferred none)) (fun r e => by cases e; exact ⟨_, hDf, rfl⟩)
    have hB2 : Below w.heap.size w (W.putObj D (.deferred none)) := hB.trans (belowK_b (w := w) (Nat.le_refl _) W D _ _ (by omega) hDf rfl rfl)
    clear hP hO hrg hc hf ho
    gi_wp2
    refine ⟨by simp, .inl ⟨_, _, rfl, run_takeDeferred hDf, ?_⟩⟩
    exact ⟨_, results_tmp rfl _ _ _, ro, rc, rfl, hrg2, hB2⟩
  case stop =>
    rintro D c pre W hD hpre ⟨hF, _⟩ hK
    exact hF.elim

theorem split_any (es : List Rg) (ao : Option Addr) (cap : Nat) (x : Rg) (w : World) (hc : RgAt es ao w) (hf : Fit es) (ho : ∀ r ∈ es, RgOk r) (hl : es.length ≤ 1000) (hx : RgOk x) :
    Calls Try.prog 29 #[.slice ao es.length cap, .agg #[.int .i64 x.1, .int .i64 x.2]] w fun e w' => ∃ ro rc, e = .returned (.slice ro (splitP x es).length rc) ∧ RgAt (splitP x es) ro w' ∧ Below w.heap.size w w' :=
  callsIn_wide.1 (split_in 3 (Nat.le_refl _) es ao cap x w hc hf ho hl hx)
end Go.Proofs.Ytdkgeeimhjffdaa
