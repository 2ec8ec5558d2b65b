/- The iterator over a plain grammar's productions; worlds that turn in a few blocks alone. -/
import Derived.Test.YtckbfiigbckmeaaDoorFew
import Derived.RangeFuncNested
import Derived.RangeFuncBound
import Derived.RangeFuncCalls
import Derived.RangeFuncLeaves
import Derived.Shelf.Abstract
import Derived.Shelf.RegionOpen
import Derived.OwnWalkIn
import Derived.TacticsInMore
import Derived.LoopNIn
import Derived.LoopIn
import Derived.Scope
namespace Go.Proofs.YtckbfiigbckmeaaDoor
open Go.RowKit Go.Shelf
attribute [local go_sem] Oper.semAt_some

/-- Cells of these blocks hold what they held. -/
def KpC (D : Nat → Prop) (A B : World) : Prop := ∀ (ad : Addr) (v : Value), D ad.block → A.cell? ad = some v → B.cell? ad = some v
theorem KpC.refl (D : Nat → Prop) (A : World) : KpC D A A := fun _ _ _ h => h
theorem KpC.trans {D : Nat → Prop} {A B C : World} (h : KpC D A B) (k : KpC D B C) : KpC D A C := fun a v hd hv => k a v hd (h a v hd hv)
theorem KpC.grown {D : Nat → Prop} {A B : World} {row : Option Nat} (hg : A.grownBy B row) (hr : ∀ r, row = some r → ∃ o : Obj, A.heap[r]? = some o ∧ o.isCells = false) : KpC D A B := fun _ _ _ hv => cell_kept hv hg hr
theorem KpC.putObj {D : Nat → Prop} (W : World) (l : Nat) (o o' : Obj) (h : W.heap[l]? = some o) (hc : o.isCells = false) : KpC D W (W.putObj l o') :=
  .grown (grownBy_putObj' W l o') (fun r e => by cases e; exact ⟨o, h, hc⟩)
theorem KpC.alloc {D : Nat → Prop} (W : World) (o : Obj) : KpC D W (W.alloc o) := .grown (World.grownBy_alloc W o none) (fun _ e => by cases e)

set_option maxHeartbeats 400000 in
theorem prods_any (f : Fl) (a : FlA) (w : World) :
    Calls Tryd.prog 65 #[a.val f] w fun e w' => e = .returned (.func (.func 81) #[] #[.pointer (some ⟨w.heap.size, 0, none⟩)]) ∧ w' = w.alloc (fobj f a 25) := by
  obtain ⟨ta, tc, na, nc, pa, pc⟩ := a
  unfold FlA.val fobj
  simp only
  go_enter Tryd.func65, Tryd.ntmps65
  go_wp2
  go_ret
  exact ⟨rfl, rfl⟩

theorem range_pre {a b : Nat} (h : a ≤ b) : List.range a <+: List.range b := by
  obtain ⟨d, rfl⟩ : ∃ d, b = a + d := ⟨b - a, by omega⟩
  exact ⟨(List.range d).map (a + ·), List.range_add.symm⟩

set_option maxRecDepth 100000 in
set_option maxHeartbeats 1000000 in
theorem prods1_in (n : Nat) (hn : 1 ≤ n) (l Bx pb off N pc : Nat) (lf : Nat → Int) (ra : Nat → Option Addr) (rl rc : Nat → Nat) (pp : Nat → Int) (hN : N ≤ 400) (J Jx : List Nat → World → Prop)
    (hA : ∀ s W o, J s W → J s (W.alloc o))
    (hY : ∀ pre x W, J pre W → pre.length < N → YieldAt Fence.wide (n - 1) Tryd.prog l #[.int .i64 (lf x), .slice (ra x) (rl x) (rc x)] W fun e W' =>
      (e = .returned (.bool true) ∧ J (pre ++ [x]) W' ∧ KpC (fun k => k = Bx ∨ k = pb) W W') ∨ (e = .returned (.bool false) ∧ Jx (pre ++ [x]) W'))
    (W : World) (h0 : J [] W) (c2 : W.cell? ⟨Bx, 2, none⟩ = some (.slice (some ⟨pb, off, none⟩) N pc))
    (hc : ∀ j, j < N → W.cell? ⟨pb, off + j * 3, none⟩ = some (.int .i64 (lf j)) ∧ W.cell? ⟨pb, off + j * 3 + 1, none⟩ = some (.slice (ra j) (rl j) (rc j)) ∧ W.cell? ⟨pb, off + j * 3 + 2, none⟩ = some (.int .i64 (pp j))) :
    CallsIn Fence.wide n Tryd.prog 81 #[.func (.yield l) #[] #[], .pointer (some ⟨Bx, 0, none⟩)] W fun e W' => (∃ v, e = .returned v) ∧
      ((∃ ys, ys = List.range N ∧ J ys W') ∨ (∃ pre, pre <+: List.range N ∧ Jx pre W')) := by
  refine callsIn_of_wp Tryd.func81 rfl trivial ?_ rfl
  simp only [Tryd.ntmps81, List.size_toArray, List.length_cons, List.length_nil, Nat.reduceAdd, Nat.reduceSub, Array.replicate_succ, Array.replicate_zero, List.push_toArray, List.append_toArray, List.nil_append, List.cons_append]
  gi_wp2
  gi_loopw [8] (fun i wr => ∃ (j : Nat), i = .int .i64 j ∧ j ≤ N ∧ J (List.range j) wr ∧ ∀ j, j < N → wr.cell? ⟨pb, off + j * 3, none⟩ = some (.int .i64 (lf j)) ∧ wr.cell? ⟨pb, off + j * 3 + 1, none⟩ = some (.slice (ra j) (rl j) (rc j)) ∧ wr.cell? ⟨pb, off + j * 3 + 2, none⟩ = some (.int .i64 (pp j)))
    (fun i _ => N - (intOf i).toNat)
  case atStart => exact ⟨0, rfl, Nat.zero_le _, h0, hc⟩
  case round =>
    clear hc c2 h0
    obtain ⟨j, rfl, hj, hJ, hc⟩ := hrel
    by_cases hlt : j < N
    · obtain ⟨d0, d1, d2⟩ := hc j hlt
      have HC : Hid (∀ j, j < N → wr.cell? ⟨pb, off + j * 3, none⟩ = some (.int .i64 (lf j)) ∧ wr.cell? ⟨pb, off + j * 3 + 1, none⟩ = some (.slice (ra j) (rl j) (rc j)) ∧ wr.cell? ⟨pb, off + j * 3 + 2, none⟩ = some (.int .i64 (pp j))) := hc
      clear hc
      obtain ⟨fn, tmps, assign, body, hy, hR⟩ := hY (List.range j) j (wr.alloc (Obj.cells #[.int .i64 (lf j), .slice (ra j) (rl j) (rc j), .int .i64 (pp j)] 45)) (hA _ _ _ hJ) (by simpa using hlt)
      have HS : Hid (List.range j ++ [j] = List.range (j + 1)) := List.range_succ.symm
      clear hY hA
      gi_wp2
      refine hR.mono ?_
      rintro e W3 (⟨rfl, hJ3, hk3⟩ | ⟨rfl, hJx3⟩)
      · have HC3 : Hid (∀ j, j < N → W3.cell? ⟨pb, off + j * 3, none⟩ = some (.int .i64 (lf j)) ∧ W3.cell? ⟨pb, off + j * 3 + 1, none⟩ = some (.slice (ra j) (rl j) (rc j)) ∧ W3.cell? ⟨pb, off + j * 3 + 2, none⟩ = some (.int .i64 (pp j))) := fun i hi => by
          obtain ⟨e0, e1, e2⟩ := HC.out i hi
          have hk := (KpC.alloc wr _).trans hk3
          exact ⟨hk _ _ (.inr rfl) e0, hk _ _ (.inr rfl) e1, hk _ _ (.inr rfl) e2⟩
        rw [HS.out] at hJ3
        clear hk3 HC d0 d1 d2 hR hy hJ
        gi_wp2
        go_roundw
        case rel => exact ⟨j + 1, by go_num, by omega, hJ3, HC3.out⟩
        case measure => simp [intOf]; omega
      · rw [HS.out] at hJx3
        gi_wp2
        refine bodyPost_ret (results_none rfl _ _ _) rfl ?_
        exact ⟨⟨_, rfl⟩, .inr ⟨_, range_pre (by omega), hJx3⟩⟩
    · obtain rfl : j = N := by omega
      clear hc hY hA
      gi_wp2
      go_end0
      exact ⟨⟨_, rfl⟩, .inl ⟨_, rfl, hJ⟩⟩

theorem prods_stops (n : Nat) (hn : 1 ≤ n) (Bx pb off N pc : Nat) (lf : Nat → Int) (ra : Nat → Option Addr) (rl rc : Nat → Nat) (pp : Nat → Int) (hN : N ≤ 400) (w : World) (hBx : Bx < w.heap.size) (hpb : pb < w.heap.size)
    (c2 : w.cell? ⟨Bx, 2, none⟩ = some (.slice (some ⟨pb, off, none⟩) N pc))
    (hc : ∀ j, j < N → w.cell? ⟨pb, off + j * 3, none⟩ = some (.int .i64 (lf j)) ∧ w.cell? ⟨pb, off + j * 3 + 1, none⟩ = some (.slice (ra j) (rl j) (rc j)) ∧ w.cell? ⟨pb, off + j * 3 + 2, none⟩ = some (.int .i64 (pp j))) :
    SeqStopsK Fence.wide n Tryd.prog 81 #[.pointer (some ⟨Bx, 0, none⟩)] (fun x => #[.int .i64 (lf x), .slice (ra x) (rl x) (rc x)]) (KpC (fun k => k = Bx ∨ k = pb)) (fun ys => ys = List.range N) (fun pre => pre <+: List.range N) N w := fun l J Jx W hW hJ _ hY h0 =>
  prods1_in n hn l Bx pb off N pc lf ra rl rc pp hN J Jx (fun s W' o hs => hJ s _ _ none hs (World.grownBy_alloc W' o none) (fun _ e => by cases e)) hY W h0
    ((hW.cell (p := ⟨Bx, 2, none⟩) hBx).trans c2)
    (fun j hj => by
      obtain ⟨e0, e1, e2⟩ := hc j hj
      exact ⟨(hW.cell (p := ⟨pb, off + j * 3, none⟩) hpb).trans e0, (hW.cell (p := ⟨pb, off + j * 3 + 1, none⟩) hpb).trans e1, (hW.cell (p := ⟨pb, off + j * 3 + 2, none⟩) hpb).trans e2⟩)
theorem wpIn_scope_wide {n : Nat} {P : Program} {c : Code} {Q : Exit → Act → World → Prop} {a : Act} {w : World} (h : c.wpIn Fence.wide n P (Exit.noGoto Q) a w) : (Code.scope c).wpIn Fence.wide n P Q a w :=
  wpIn_wide.2 (wp_scope_straight (wpIn_wide.1 h))
end Go.Proofs.YtckbfiigbckmeaaDoor
