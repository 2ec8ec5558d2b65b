/- The iterator over a plain grammar's productions; worlds that turn in a few blocks alone. -/
import Derived.Test.YtlaplmmicccbcaaGreatDoorJ01
import Derived.Test.YtlaplmmicccbcaaGreatDoorJ02
import Derived.Test.YtlaplmmicccbcaaGreatDoorJ05
import Derived.RangeFuncNested
import Derived.RangeFuncBound
import Derived.RangeFuncCalls
import Derived.RangeFuncLeaves
import Derived.Shelf.Abstract
import Derived.Shelf.RegionOpen
import Derived.OwnWalkIn
import Derived.TacticsInMore
import Derived.LoopNIn
import Derived.LoopIn
import Derived.Scope
import Derived.Sort.LoopGhostIn
import Derived.Deep.Onto
import Derived.Deep.Upon
namespace Go.Proofs.YtlaplmmicccbcaaGreatDoor
open Go.RowKit Go.Shelf
attribute [local go_sem] Oper.semAt_some

/-- Cells of these blocks hold what they held. -/
def KpC (D : Nat → Prop) (A B : World) : Prop := ∀ (ad : Addr) (v : Value), D ad.block → A.cell? ad = some v → B.cell? ad = some v
theorem KpC.refl (D : Nat → Prop) (A : World) : KpC D A A := fun _ _ _ h => h
theorem KpC.trans {D : Nat → Prop} {A B C : World} (h : KpC D A B) (k : KpC D B C) : KpC D A C := fun a v hd hv => k a v hd (h a v hd hv)
theorem KpC.grown {D : Nat → Prop} {A B : World} {row : Option Nat} (hg : A.grownBy B row) (hr : ∀ r, row = some r → ∃ o : Obj, A.heap[r]? = some o ∧ o.isCells = false) : KpC D A B := fun _ _ _ hv => cell_kept hv hg hr
theorem KpC.putObj {D : Nat → Prop} (W : World) (l : Nat) (o o' : Obj) (h : W.heap[l]? = some o) (hc : o.isCells = false) : KpC D W (W.putObj l o') :=
  .grown (grownBy_putObj' W l o') (fun r e => by cases e; exact ⟨o, h, hc⟩)
theorem KpC.alloc {D : Nat → Prop} (W : World) (o : Obj) : KpC D W (W.alloc o) := .grown (World.grownBy_alloc W o none) (fun _ e => by cases e)

set_option maxHeartbeats 400000 in
theorem prods_any (f : Fl) (a : FlA) (w : World) :
    Calls Tryz.prog 104 #[a.val f] w fun e w' => e = .returned (.func (.func 121) #[] #[.pointer (some ⟨w.heap.size, 0, none⟩)]) ∧ w' = w.alloc (fobj f a 25) := by
  obtain ⟨ta, tc, na, nc, pa, pc⟩ := a
  unfold FlA.val fobj
  simp only
  go_enter Tryz.func104, Tryz.ntmps104
  go_wp2
  go_ret
  exact ⟨rfl, rfl⟩

theorem range_pre {a b : Nat} (h : a ≤ b) : List.range a <+: List.range b := by
  obtain ⟨d, rfl⟩ : ∃ d, b = a + d := ⟨b - a, by omega⟩
  exact ⟨(List.range d).map (a + ·), List.range_add.symm⟩

set_option maxRecDepth 100000 in
set_option maxHeartbeats 1000000 in
theorem prods1_in (n : Nat) (hn : 1 ≤ n) (l Bx pb off N pc : Nat) (lf : Nat → Int) (ra : Nat → Option Addr) (rl rc : Nat → Nat) (pp : Nat → Int) (hN : N ≤ 400) (J Jx : List Nat → World → Prop)
    (hA : ∀ s W o, J s W → J s (W.alloc o))
    (hY : ∀ pre x W, J pre W → pre.length < N → YieldAt Fence.wide (n - 1) Tryz.prog l #[.int .i64 (lf x), .slice (ra x) (rl x) (rc x)] W fun e W' =>
      (e = .returned (.bool true) ∧ J (pre ++ [x]) W' ∧ KpC (fun k => k = Bx ∨ k = pb) W W') ∨ (e = .returned (.bool false) ∧ Jx (pre ++ [x]) W'))
    (W : World) (h0 : J [] W) (c2 : W.cell? ⟨Bx, 2, none⟩ = some (.slice (some ⟨pb, off, none⟩) N pc))
    (hc : ∀ j, j < N → W.cell? ⟨pb, off + j * 3, none⟩ = some (.int .i64 (lf j)) ∧ W.cell? ⟨pb, off + j * 3 + 1, none⟩ = some (.slice (ra j) (rl j) (rc j)) ∧ W.cell? ⟨pb, off + j * 3 + 2, none⟩ = some (.int .i64 (pp j))) :
    CallsIn Fence.wide n Tryz.prog 121 #[.func (.yield l) #[] #[], .pointer (some ⟨Bx, 0, none⟩)] W fun e W' => (∃ v, e = .returned v) ∧
      ((∃ ys, ys = List.range N ∧ J ys W') ∨ (∃ pre, pre <+: List.range N ∧ Jx pre W')) := by
  refine callsIn_of_wp Tryz.func121 rfl trivial ?_ rfl
  simp only [Tryz.ntmps121, List.size_toArray, List.length_cons, List.length_nil, Nat.reduceAdd, Nat.reduceSub, Array.replicate_succ, Array.replicate_zero, List.push_toArray, List.append_toArray, List.nil_append, List.cons_append]
  gi_wp2
  gi_loopw [8] (fun i wr => ∃ (j : Nat), i = .int .i64 j ∧ j ≤ N ∧ J (List.range j) wr ∧ ∀ j, j < N → wr.cell? ⟨pb, off + j * 3, none⟩ = some (.int .i64 (lf j)) ∧ wr.cell? ⟨pb, off + j * 3 + 1, none⟩ = some (.slice (ra j) (rl j) (rc j)) ∧ wr.cell? ⟨pb, off + j * 3 + 2, none⟩ = some (.int .i64 (pp j)))
    (fun i _ => N - (intOf i).toNat)
  case atStart => exact ⟨0, rfl, Nat.zero_le _, h0, hc⟩
  case round =>
    clear hc c2 h0
    obtain ⟨j, rfl, hj, hJ, hc⟩ := hrel
    by_cases hlt : j < N
    · obtain ⟨d0, d1, d2⟩ := hc j hlt
      have HC : Hid (∀ j, j < N → wr.cell? ⟨pb, off + j * 3, none⟩ = some (.int .i64 (lf j)) ∧ wr.cell? ⟨pb, off + j * 3 + 1, none⟩ = some (.slice (ra j) (rl j) (rc j)) ∧ wr.cell? ⟨pb, off + j * 3 + 2, none⟩ = some (.int .i64 (pp j))) := hc
      clear hc
      obtain ⟨fn, tmps, assign, body, hy, hR⟩ := hY (List.range j) j (wr.alloc (Obj.cells #[.int .i64 (lf j), .slice (ra j) (rl j) (rc j), .int .i64 (pp j)] 54)) (hA _ _ _ hJ) (by simpa using hlt)
      have HS : Hid (List.range j ++ [j] = List.range (j + 1)) := List.range_succ.symm
      clear hY hA
      gi_wp2
      refine hR.mono ?_
      rintro e W3 (⟨rfl, hJ3, hk3⟩ | ⟨rfl, hJx3⟩)
      · have HC3 : Hid (∀ j, j < N → W3.cell? ⟨pb, off + j * 3, none⟩ = some (.int .i64 (lf j)) ∧ W3.cell? ⟨pb, off + j * 3 + 1, none⟩ = some (.slice (ra j) (rl j) (rc j)) ∧ W3.cell? ⟨pb, off + j * 3 + 2, none⟩ = some (.int .i64 (pp j))) := fun i hi => by
          obtain ⟨e0, e1, e2⟩ := HC.out i hi
          have hk := (KpC.alloc wr _).trans hk3
          exact ⟨hk _ _ (.inr rfl) e0, hk _ _ (.inr rfl) e1, hk _ _ (.inr rfl) e2⟩
        rw [HS.out] at hJ3
        clear hk3 HC d0 d1 d2 hR hy hJ
        gi_wp2
        go_roundw
        case rel => exact ⟨j + 1, by go_num, by omega, hJ3, HC3.out⟩
        case measure => simp [intOf]; omega
      · rw [HS.out] at hJx3
        gi_wp2
        refine bodyPost_ret (results_none rfl _ _ _) rfl ?_
        exact ⟨⟨_, rfl⟩, .inr ⟨_, range_pre (by omega), hJx3⟩⟩
    · obtain rfl : j = N := by omega
      clear hc hY hA
      gi_wp2
      go_end0
      exact ⟨⟨_, rfl⟩, .inl ⟨_, rfl, hJ⟩⟩

theorem prods_stops (n : Nat) (hn : 1 ≤ n) (Bx pb off N pc : Nat) (lf : Nat → Int) (ra : Nat → Option Addr) (rl rc : Nat → Nat) (pp : Nat → Int) (hN : N ≤ 400) (w : World) (hBx : Bx < w.heap.size) (hpb : pb < w.heap.size)
    (c2 : w.cell? ⟨Bx, 2, none⟩ = some (.slice (some ⟨pb, off, none⟩) N pc))
    (hc : ∀ j, j < N → w.cell? ⟨pb, off + j * 3, none⟩ = some (.int .i64 (lf j)) ∧ w.cell? ⟨pb, off + j * 3 + 1, none⟩ = some (.slice (ra j) (rl j) (rc j)) ∧ w.cell? ⟨pb, off + j * 3 + 2, none⟩ = some (.int .i64 (pp j))) :
    SeqStopsK Fence.wide n Tryz.prog 121 #[.pointer (some ⟨Bx, 0, none⟩)] (fun x => #[.int .i64 (lf x), .slice (ra x) (rl x) (rc x)]) (KpC (fun k => k = Bx ∨ k = pb)) (fun ys => ys = List.range N) (fun pre => pre <+: List.range N) N w := fun l J Jx W hW hJ _ hY h0 =>
  prods1_in n hn l Bx pb off N pc lf ra rl rc pp hN J Jx (fun s W' o hs => hJ s _ _ none hs (World.grownBy_alloc W' o none) (fun _ e => by cases e)) hY W h0
    ((hW.cell (p := ⟨Bx, 2, none⟩) hBx).trans c2)
    (fun j hj => by
      obtain ⟨e0, e1, e2⟩ := hc j hj
      exact ⟨(hW.cell (p := ⟨pb, off + j * 3, none⟩) hpb).trans e0, (hW.cell (p := ⟨pb, off + j * 3 + 1, none⟩) hpb).trans e1, (hW.cell (p := ⟨pb, off + j * 3 + 2, none⟩) hpb).trans e2⟩)
theorem wpIn_scope_wide {n : Nat} {P : Program} {c : Code} {Q : Exit → Act → World → Prop} {a : Act} {w : World} (h : c.wpIn Fence.wide n P (Exit.noGoto Q) a w) : (Code.scope c).wpIn Fence.wide n P Q a w :=
  wpIn_wide.2 (wp_scope_straight (wpIn_wide.1 h))
end Go.Proofs.YtlaplmmicccbcaaGreatDoor
/- Rounds over the productions, till as many in a row as there are have changed nothing. -/
namespace Go.Proofs.YtlaplmmicccbcaaGreatDoor
open Go.RowKit Go.Shelf
attribute [local go_sem] Oper.semAt_some

/-- A world turned in these blocks alone. -/
structure But (D : Nat → Prop) (w w' : World) : Prop where
  os : w'.os = w.os
  tape : w'.tape = w.tape
  output : w'.output = w.output
  size : w.heap.size ≤ w'.heap.size
  block : ∀ k, k < w.heap.size → ¬ D k → w'.heap[k]? = w.heap[k]?
theorem But.refl (D : Nat → Prop) (w : World) : But D w w := ⟨rfl, rfl, rfl, Nat.le_refl _, fun _ _ _ => rfl⟩
theorem But.trans {D : Nat → Prop} {a b c : World} (h : But D a b) (k : But D b c) : But D a c :=
  ⟨k.os.trans h.os, k.tape.trans h.tape, k.output.trans h.output, Nat.le_trans h.size k.size, fun i hi hd => (k.block i (Nat.lt_of_lt_of_le hi h.size) hd).trans (h.block i hi hd)⟩
theorem But.mono {D E : Nat → Prop} {a b : World} (h : But D a b) (hd : ∀ k, k < a.heap.size → D k → E k) : But E a b :=
  ⟨h.os, h.tape, h.output, h.size, fun k hk he => h.block k hk (fun hD => he (hd k hk hD))⟩
theorem But.of_below {n : Nat} {a b : World} (h : Below n a b) : But (fun k => n ≤ k) a b := ⟨h.os, h.tape, h.output, h.size, fun k _ hd => h.block k (by omega)⟩
theorem But.of_next {D : Nat → Prop} {a b : World} (h : Below a.heap.size a b) : But D a b := ⟨h.os, h.tape, h.output, h.size, fun k hk _ => h.block k hk⟩
theorem But.below {n : Nat} {D : Nat → Prop} {a b : World} (h : But D a b) (hn : n ≤ a.heap.size) (hd : ∀ k, D k → n ≤ k) : Below n a b :=
  ⟨h.os, h.tape, h.output, h.size, fun k hk => h.block k (by omega) (fun hD => by have := hd k hD; omega)⟩
theorem But.cell {D : Nat → Prop} {a b : World} (h : But D a b) {p : Addr} (hp : p.block < a.heap.size) (hd : ¬ D p.block) : b.cell? p = a.cell? p := World.cell?_of_block (h.block _ hp hd)
theorem But.frozen {D : Nat → Prop} {a b : World} (h : But D a b) {p : Addr} (hp : p.block < a.heap.size) (hd : ¬ D p.block) : b.frozen? p = a.frozen? p := World.frozen?_of_block (h.block _ hp hd)
theorem But.keeps {D : Nat → Prop} {a b : World} (h : But D a b) {B : Nat} (hd : ∀ k, D k → k < B) : KeepsFrom B a b :=
  ⟨h.size, fun k o hB hk _ => (h.block k (Array.getElem?_eq_some_iff.1 hk).1 (fun hD => by have := hd k hD; omega)).trans hk⟩
theorem But.kpC {D E : Nat → Prop} {a b : World} (h : But D a b) (hd : ∀ k, E k → ¬ D k) : KpC E a b := fun ad v he hv => by
  obtain ⟨o, ho, _⟩ := cells_of_cell hv
  rw [h.cell (Array.getElem?_eq_some_iff.1 ho).1 (hd _ he)]; exact hv

theorem But.drew {D : Nat → Prop} {a b : World} (h : But D a b) : But D a b.drew := ⟨h.os, h.tape, h.output, h.size, h.block⟩
theorem But.drewN {D : Nat → Prop} {a b : World} (h : But D a b) (n : Nat) : But D a (b.drewN n) := ⟨h.os, h.tape, h.output, h.size, h.block⟩
/-- Closed at production i, where c rounds in a row up to place j have changed nothing. -/
def LastC (n j c i : Nat) : Prop := (i < j ∧ j - i ≤ c) ∨ (j ≤ i ∧ j + n - i ≤ c)

def mark (d : Nat) : Deferred := { target := .collected d, args := #[] }
/-- Blocks for deferred calls that hold none, one for each loop that is over. -/
def Mk (B : Nat) (Ds : List Nat) (W : World) : Prop := Ds.Nodup ∧ ∀ d ∈ Ds, B ≤ d ∧ W.heap[d]? = some (.deferred (some []))
theorem leaves_marks {F : Fence} {n : Nat} {P : Program} {fn : Func} {tmps : Array Value} {B : Nat} {Rw : World → Prop} (hres : ∀ W, ∃ v, (results fn tmps).run P W = .ok v W)
    (hR : ∀ W d, B ≤ d → W.heap[d]? = some (.deferred (some [])) → Rw W → Rw (W.putObj d (.deferred none))) :
    ∀ (Ds : List Nat) (W : World), Mk B Ds W → Rw W → LeavesInM F n P fn tmps (fun e W' => (∃ v, e = .returned v) ∧ Rw W') (Ds.map mark) .returning W
  | [], W, _, h => by
    obtain ⟨v, hv⟩ := hres W
    exact ⟨v, hv, ⟨_, rfl⟩, h⟩
  | d :: Ds, W, hM, h => by
    obtain ⟨hB, hd⟩ := hM.2 d (by simp)
    have hn := List.nodup_cons.1 hM.1
    refine ⟨by simp, .inl ⟨d, _, rfl, run_takeDeferred hd, ?_⟩⟩
    refine leaves_marks hres hR Ds _ ⟨hn.2, fun e he => ?_⟩ (hR W d hB hd h)
    have := hM.2 e (by simp [he])
    exact ⟨this.1, (World.putObj_heap_other (fun h' => hn.1 (by rw [← h']; exact he))).trans this.2⟩

/-- The cells of settle's own variables. -/
structure SC (M : Nat) (v0 v1 v2 v3 : Value) (c : Nat) (W : World) : Prop where
  f0 : W.cell? ⟨M, 0, none⟩ = some v0
  f1 : W.cell? ⟨M, 1, none⟩ = some v1
  f2 : W.cell? ⟨M, 2, none⟩ = some v2
  g0 : W.cell? ⟨M + 1, 0, none⟩ = some v3
  st : W.cell? ⟨M + 1 + 1, 0, none⟩ = some (.int .i64 c)
  fz : W.frozen? ⟨M + 1 + 1, 0, none⟩ = false
theorem SC.lt {M v0 v1 v2 v3 c W} (h : SC M v0 v1 v2 v3 c W) : M + 1 + 1 < W.heap.size := World.block_lt_of_cell? W _ h.st
theorem SC.kept {M v0 v1 v2 v3 c W W'} {row : Option Nat} (h : SC M v0 v1 v2 v3 c W) (hg : W.grownBy W' row) (hr : ∀ r, row = some r → ∃ o : Obj, W.heap[r]? = some o ∧ o.isCells = false) : SC M v0 v1 v2 v3 c W' :=
  ⟨cell_kept h.f0 hg hr, cell_kept h.f1 hg hr, cell_kept h.f2 hg hr, cell_kept h.g0 hg hr, cell_kept h.st hg hr, (frozen_kept h.st hg hr).trans h.fz⟩
theorem SC.but {M v0 v1 v2 v3 c W W'} {D : Nat → Prop} (h : SC M v0 v1 v2 v3 c W) (hb : But D W W') (hD : ∀ k, D k → k < M) : SC M v0 v1 v2 v3 c W' := by
  have hl := h.lt
  have e : ∀ {k o v}, M ≤ k → k ≤ M + 1 + 1 → W.cell? ⟨k, o, none⟩ = some v → W'.cell? ⟨k, o, none⟩ = some v := fun {k o v} h1 h2 hv => (hb.cell (p := ⟨k, o, none⟩) (by show k < _; omega) (fun hd => by have := hD _ hd; simp only at this; omega)).trans hv
  exact ⟨e (by omega) (by omega) h.f0, e (by omega) (by omega) h.f1, e (by omega) (by omega) h.f2, e (by omega) (by omega) h.g0, e (by omega) (by omega) h.st, (hb.frozen (p := ⟨M + 1 + 1, 0, none⟩) hl (fun hd => by have := hD _ hd; simp only at this; omega)).trans h.fz⟩
theorem SC.set {M v0 v1 v2 v3 c W} (h : SC M v0 v1 v2 v3 c W) (c' : Nat) : SC M v0 v1 v2 v3 c' (W.setCell ⟨M + 1 + 1, 0, none⟩ (.int .i64 c')) := by
  have o : ∀ {k o v}, k ≠ M + 1 + 1 → W.cell? ⟨k, o, none⟩ = some v → (W.setCell ⟨M + 1 + 1, 0, none⟩ (.int .i64 c')).cell? ⟨k, o, none⟩ = some v := fun {k o v} hk hv => (World.cell?_of_block (w := W) (Below.heap_setCell W ⟨M + 1 + 1, 0, none⟩ _ k hk)).trans hv
  exact ⟨o (by omega) h.f0, o (by omega) h.f1, o (by omega) h.f2, o (by omega) h.g0, World.cell?_setCell_same _ _ _ h.st, by rw [World.frozen?_setCell]; exact h.fz⟩
theorem But.setCell {D : Nat → Prop} {a b : World} (h : But D a b) (p : Addr) (v : Value) (hp : a.heap.size ≤ p.block ∨ D p.block) : But D a (b.setCell p v) :=
  ⟨h.os, h.tape, h.output, by simpa using h.size, fun k hk hd => (Below.heap_setCell b p v k (fun e => by rcases hp with h1 | h1; omega; exact hd (e ▸ h1))).trans (h.block k hk hd)⟩
theorem But.grown {D : Nat → Prop} {a b c : World} (h : But D a b) {row : Option Nat} (hg : b.grownBy c row) (hr : ∀ r, row = some r → a.heap.size ≤ r) : But D a c :=
  ⟨hg.os.trans h.os, hg.tape.trans h.tape, hg.output.trans h.output, Nat.le_trans h.size hg.size, fun k hk hd => (hg.block k (Nat.lt_of_lt_of_le hk h.size) (fun e => by have := hr k e.symm; omega)).trans (h.block k hk hd)⟩
theorem Mk.grown {B : Nat} {Ds : List Nat} {W W' : World} {row : Option Nat} (h : Mk B Ds W) (hg : W.grownBy W' row) (hr : ∀ r, row = some r → ∀ d ∈ Ds, d ≠ r) : Mk B Ds W' :=
  ⟨h.1, fun d hd => ⟨(h.2 d hd).1, (hg.block d (Array.getElem?_eq_some_iff.1 (h.2 d hd).2).1 (fun e => hr d e.symm d hd rfl)).trans (h.2 d hd).2⟩⟩
theorem Mk.but {B : Nat} {Ds : List Nat} {W W' : World} {D : Nat → Prop} (h : Mk B Ds W) (hb : But D W W') (hD : ∀ k, D k → k < B) : Mk B Ds W' :=
  ⟨h.1, fun d hd => ⟨(h.2 d hd).1, (hb.block d (Array.getElem?_eq_some_iff.1 (h.2 d hd).2).1 (fun e => by have := hD d e; have := (h.2 d hd).1; omega)).trans (h.2 d hd).2⟩⟩
theorem Mk.lt {B : Nat} {Ds : List Nat} {W : World} (h : Mk B Ds W) : ∀ d ∈ Ds, d < W.heap.size := fun d hd => (Array.getElem?_eq_some_iff.1 (h.2 d hd).2).1
theorem wrap_succ {c N : Nat} (h : c < N) (hN : N ≤ 400) : wrap64 ((c : Int) + 1) = c + 1 := IntWalk.wrap64_in _ (by omega)
theorem succ_dec {c N : Nat} : (((c + 1 : Nat) : Int) == (N : Int)) = decide (c + 1 = N) := by
  rw [Bool.eq_iff_iff]; simp; omega
theorem LastC.all {n c i : Nat} (hc : n ≤ c) (j : Nat) (hj : j ≤ n) (_hi : i < n) : LastC n j c i := by unfold LastC; omega
theorem LastC.zero {n j i : Nat} (hi : i < n) (h : LastC n j 0 i) : False := by unfold LastC at h; omega
theorem LastC.step {n j c i : Nat} (_hi : i < n) (h : LastC n (j + 1) (c + 1) i) : i = j ∨ LastC n j c i := by unfold LastC at *; omega
theorem LastC.wrap {n c i : Nat} (h : LastC n 0 c i) (hi : i < n) : LastC n n c i := by unfold LastC at *; omega

set_option maxRecDepth 100000 in
set_option maxHeartbeats 2000000 in
theorem settle_in {σ : Type} (n : Nat) (hn : 6 ≤ n) (f : Fl) (a : FlA) (g : Nat) (lb : Array Value) (eg : ∀ args w, (callFunc g args).run Tryz.prog w = .ok (.enter g args) w) (S : σ → World → Prop) (D : Nat → Prop) (μ : σ → Nat) (Cl : Nat → σ → Prop)
    (w : World) (hp : FitP f) (hfl : ∀ s W, S s W → FlAt f a W) (hS : ∀ s W W', S s W → Below w.heap.size W W' → S s W') (hD : ∀ k, D k → k < w.heap.size) (hDa : 0 < f.prods.length → ∀ ad, a.pa = some ad → ¬ D ad.block)
    (hg : ∀ (j : Nat) (hj : j < f.prods.length) (s : σ) (W : World) (v : Value), S s W → SlT f.prods[j].right v W → w.heap.size ≤ W.heap.size → (∃ pb off, a.pa = some ⟨pb, off, none⟩ ∧ w.cell? ⟨pb, off + j * 3 + 1, none⟩ = some v) → Calls Tryz.prog g (#[.int .i64 f.prods[j].left, v] ++ lb) W fun e W' => ∃ s' b, e = .returned (.bool b) ∧ S s' W' ∧ But D W W' ∧ (b = true → μ s' < μ s) ∧ (b = false → s' = s ∧ Cl j s))
    (s0 : σ) (h0 : S s0 w) :
    CallsIn Fence.wide n Tryz.prog 83 #[a.val f, .func (.func g) #[] lb] w fun e W' => (∃ v, e = .returned v) ∧ ∃ s, S s W' ∧ (∀ j, j < f.prods.length → Cl j s) ∧ But D w W' := by
  obtain ⟨ta, tc, na, nc, pa, pc⟩ := a
  -- the productions' cells, as they lie all along
  have HQ : Hid (0 < f.prods.length → ∃ (pb off : Nat) (q : Nat → (Int × Int) × Option Addr × Nat × Nat), pa = some ⟨pb, off, none⟩ ∧ pb < w.heap.size ∧ ∀ x, ∃ (j : Nat) (hj : j < f.prods.length), (x < f.prods.length → j = x) ∧
      w.cell? ⟨pb, off + j * 3, none⟩ = some (.int .i64 (q x).1.1) ∧ w.cell? ⟨pb, off + j * 3 + 1, none⟩ = some (.slice (q x).2.1 (q x).2.2.1 (q x).2.2.2) ∧ w.cell? ⟨pb, off + j * 3 + 2, none⟩ = some (.int .i64 (q x).1.2) ∧ (q x).1.1 = f.prods[j].left) := fun hpos => by
    obtain ⟨_, _, h2, _⟩ := hfl _ _ h0
    obtain ⟨pb, off, _, hpa, hpb, _⟩ := h2 0 _ (List.getElem?_eq_getElem hpos)
    simp only at hpa
    have hall : ∀ x : Nat, ∃ q : (Int × Int) × Option Addr × Nat × Nat, ∃ (j : Nat) (hj : j < f.prods.length), (x < f.prods.length → j = x) ∧
      w.cell? ⟨pb, off + j * 3, none⟩ = some (.int .i64 q.1.1) ∧ w.cell? ⟨pb, off + j * 3 + 1, none⟩ = some (.slice q.2.1 q.2.2.1 q.2.2.2) ∧ w.cell? ⟨pb, off + j * 3 + 2, none⟩ = some (.int .i64 q.1.2) ∧ q.1.1 = f.prods[j].left := fun x => by
      have key : ∀ j, (hj : j < f.prods.length) → ∃ q : (Int × Int) × Option Addr × Nat × Nat, w.cell? ⟨pb, off + j * 3, none⟩ = some (.int .i64 q.1.1) ∧ w.cell? ⟨pb, off + j * 3 + 1, none⟩ = some (.slice q.2.1 q.2.2.1 q.2.2.2) ∧ w.cell? ⟨pb, off + j * 3 + 2, none⟩ = some (.int .i64 q.1.2) ∧ q.1.1 = f.prods[j].left := fun j hj => by
        obtain ⟨b, o, v, e, _, k0, k1, k2, hv, _⟩ := h2 j _ (List.getElem?_eq_getElem hj)
        obtain ⟨ra, rc, rfl, _⟩ := hv
        simp only at e
        rw [hpa] at e
        cases e
        exact ⟨((f.prods[j].left, f.prods[j].prec), ra, f.prods[j].right.length, rc), k0, k1, k2, rfl⟩
      by_cases hx : x < f.prods.length
      · obtain ⟨q, hq⟩ := key x hx
        exact ⟨q, x, hx, fun _ => rfl, hq⟩
      · obtain ⟨q, hq⟩ := key 0 hpos
        exact ⟨q, 0, hpos, fun h => absurd h hx, hq⟩
    obtain ⟨q, hq⟩ := Classical.axiomOfChoice hall
    exact ⟨pb, off, q, hpa, hpb, hq⟩
  have HSL : Hid (∀ (pb off : Nat), pa = some ⟨pb, off, none⟩ → ∀ (j : Nat) (hj : j < f.prods.length) (v : Value) (s : σ) (W : World), w.cell? ⟨pb, off + j * 3 + 1, none⟩ = some v → S s W → But D w W → SlT f.prods[j].right v W) := fun pb off hpa j hj v s W hv hs hB => by
    obtain ⟨_, _, h2, _⟩ := hfl _ _ hs
    obtain ⟨b, o, v', e, _, _, k1, _, hv', _⟩ := h2 j _ (List.getElem?_eq_getElem hj)
    simp only at e
    rw [hpa] at e
    cases e
    rw [hB.cell (p := ⟨pb, off + j * 3 + 1, none⟩) (World.block_lt_of_cell? w _ hv) (by have := hDa (by omega) _ hpa; exact this), hv] at k1
    cases k1
    exact hv'
  have HS : Hid (∀ s W W', S s W → Below w.heap.size W W' → S s W') := hS
  have HD : Hid (∀ k, D k → k < w.heap.size) := hD
  have HDA : Hid (0 < f.prods.length → ∀ ad, pa = some ad → ¬ D ad.block) := hDa
  have HGR : Hid (∀ (j : Nat) (hj : j < f.prods.length) (s : σ) (W : World) (v : Value), S s W → SlT f.prods[j].right v W → w.heap.size ≤ W.heap.size → (∃ pb off, pa = some ⟨pb, off, none⟩ ∧ w.cell? ⟨pb, off + j * 3 + 1, none⟩ = some v) → Calls Tryz.prog g (#[.int .i64 f.prods[j].left, v] ++ lb) W fun e W' => ∃ s' b, e = .returned (.bool b) ∧ S s' W' ∧ But D W W' ∧ (b = true → μ s' < μ s) ∧ (b = false → s' = s ∧ Cl j s)) := hg
  have HPR : Hid (∀ W, Calls Tryz.prog 104 #[.agg #[.slice ta f.terms.length tc, .slice na f.nons.length nc, .slice pa f.prods.length pc]] W fun e w' => e = .returned (.func (.func 121) #[] #[.pointer (some ⟨W.heap.size, 0, none⟩)]) ∧ w' = W.alloc (Obj.cells #[.slice ta f.terms.length tc, .slice na f.nons.length nc, .slice pa f.prods.length pc] 25)) := fun W => prods_any f ⟨ta, tc, na, nc, pa, pc⟩ W
  have hN4 := hp.prods
  have h1 : 1 ≤ n := by omega
  unfold FlA.val
  simp only
  clear hfl hg hS hD hDa hp
  refine callsIn_of_wp_marks Tryz.func83 rfl trivial ?_ rfl
  simp only [Tryz.ntmps83, List.size_toArray, List.length_cons, List.length_nil, Nat.reduceAdd, Nat.reduceSub, Array.replicate_succ, Array.replicate_zero, List.push_toArray, List.append_toArray, List.nil_append, List.cons_append]
  gi_wp2
  refine wpIn_scope_wide ?_
  gi_wp2
  refine wpIn_label ?_
  gi_wp2
  refine wpIn_loop_ghost (fun m a' W => ∃ (t7 t8 t9 t10 t11 t12 : Value) (Ds : List Nat) (s : σ) (c : Nat), a' = { tmps := #[Value.agg #[.slice ta f.terms.length tc, .slice na f.nons.length nc, .slice pa f.prods.length pc], .func (.func g) #[] lb, .pointer (some ⟨w.heap.size, 0, none⟩), .pointer (some ⟨w.heap.size + 1, 0, none⟩), .pointer (some ⟨w.heap.size + 1 + 1, 0, none⟩), undef, undef, t7, t8, t9, t10, t11, t12, undef, undef, undef, undef, undef, undef, undef, undef, undef, undef, undef, undef, undef], defers := Ds.map mark } ∧ m = μ s ∧ Mk w.heap.size Ds W ∧ S s W ∧ SC w.heap.size (.slice ta f.terms.length tc) (.slice na f.nons.length nc) (.slice pa f.prods.length pc) (.func (.func g) #[] lb) c W ∧ But D w W ∧ (c = 0 ∨ c < f.prods.length) ∧ ∀ i, i < f.prods.length → LastC f.prods.length 0 c i → Cl i s) (μ s0) ?start ?round
  case start =>
    have hb : Below w.heap.size w (((w.alloc (Obj.cells #[.slice ta f.terms.length tc, .slice na f.nons.length nc, .slice pa f.prods.length pc] 25)).alloc (Obj.cells #[Value.func (Fn.func g) #[] lb] 118)).alloc (Obj.cells #[Value.int IntKind.i64 0] 3)) := (((Below.refl _ _).alloc (Nat.le_refl _) _).alloc (by simp) _).alloc (by simp <;> omega) _
    refine ⟨undef, undef, undef, undef, undef, undef, [], s0, 0, rfl, rfl, ⟨List.nodup_nil, by simp⟩, HS.out _ _ _ h0 hb, ?_, But.of_next hb, .inl rfl, fun i hi h => (h.zero hi).elim⟩
    constructor <;> go_simp
  case round =>
    clear h0
    rintro m a' W ⟨t7, t8, t9, t10, t11, t12, Ds, s, c, rfl, rfl, hM, hs, hC, hB, hc, hcl⟩
    have HE : Hid (∀ W d, w.heap.size ≤ d → W.heap[d]? = some (.deferred (some [])) → (∃ s, S s W ∧ (∀ j, j < f.prods.length → Cl j s) ∧ But D w W) → (∃ s, S s (W.putObj d (.deferred none)) ∧ (∀ j, j < f.prods.length → Cl j s) ∧ But D w (W.putObj d (.deferred none)))) := fun W d hd hh ⟨s, h1, h2, h3⟩ =>
      ⟨s, HS.out _ _ _ h1 ((Below.refl _ W).grown (grownBy_putObj' W d _) (Nat.le_trans h3.size (Nat.le_refl _)) (fun k e => by cases e; exact hd)), h2, h3.grown (grownBy_putObj' W d _) (fun r e => by cases e; exact hd)⟩
    by_cases hN : f.prods.length = 0
    · obtain ⟨c0, c1, c2, c3, c4, c5⟩ := hC
      have HF : Hid (∃ s, S s W ∧ (∀ j, j < f.prods.length → Cl j s) ∧ But D w W) := ⟨s, hs, fun j hj => by omega, hB⟩
      rw [hN] at c2 ⊢
      gi_wp2
      exact leaves_marks (fun W => ⟨_, results_none rfl _ _ _⟩) HE.out Ds W hM HF.out
    · obtain ⟨pb, off, q, rfl, hpb, hq⟩ := HQ.out (by omega)
      clear HQ
      have hCl := hC.lt
      have hB' : Below W.heap.size W (W.alloc (Obj.cells #[.slice ta f.terms.length tc, .slice na f.nons.length nc, .slice (some ⟨pb, off, none⟩) f.prods.length pc] 25)) := (Below.refl _ _).alloc (Nat.le_refl _) _
      have hcells : ∀ j, j < f.prods.length → (W.alloc (Obj.cells #[.slice ta f.terms.length tc, .slice na f.nons.length nc, .slice (some ⟨pb, off, none⟩) f.prods.length pc] 25)).cell? ⟨pb, off + j * 3, none⟩ = some (.int .i64 (q j).1.1) ∧ (W.alloc (Obj.cells #[.slice ta f.terms.length tc, .slice na f.nons.length nc, .slice (some ⟨pb, off, none⟩) f.prods.length pc] 25)).cell? ⟨pb, off + j * 3 + 1, none⟩ = some (.slice (q j).2.1 (q j).2.2.1 (q j).2.2.2) ∧ (W.alloc (Obj.cells #[.slice ta f.terms.length tc, .slice na f.nons.length nc, .slice (some ⟨pb, off, none⟩) f.prods.length pc] 25)).cell? ⟨pb, off + j * 3 + 2, none⟩ = some (.int .i64 (q j).1.2) := fun j hj => by
        obtain ⟨i, hi, hij, k0, k1, k2, _⟩ := hq j
        have := hij hj
        subst this
        have hd := HDA.out (by omega) _ rfl
        have hz := hB.size
        have e : ∀ {o v}, w.cell? ⟨pb, o, none⟩ = some v → (W.alloc (Obj.cells #[.slice ta f.terms.length tc, .slice na f.nons.length nc, .slice (some ⟨pb, off, none⟩) f.prods.length pc] 25)).cell? ⟨pb, o, none⟩ = some v := fun {o v} h => (hB'.cell (p := ⟨pb, o, none⟩) (by show pb < _; omega)).trans ((hB.cell (p := ⟨pb, o, none⟩) hpb hd).trans h)
        exact ⟨e k0, e k1, e k2⟩
      have hbox : (W.alloc (Obj.cells #[.slice ta f.terms.length tc, .slice na f.nons.length nc, .slice (some ⟨pb, off, none⟩) f.prods.length pc] 25)).cell? ⟨W.heap.size, 2, none⟩ = some (.slice (some ⟨pb, off, none⟩) f.prods.length pc) := by simp
      have hC0 := hC.kept (World.grownBy_alloc W (Obj.cells #[.slice ta f.terms.length tc, .slice na f.nons.length nc, .slice (some ⟨pb, off, none⟩) f.prods.length pc] 25) none) (fun _ e => by cases e)
      have hM0 := hM.grown (World.grownBy_alloc W (Obj.cells #[.slice ta f.terms.length tc, .slice na f.nons.length nc, .slice (some ⟨pb, off, none⟩) f.prods.length pc] 25) none) (fun _ e => by cases e)
      have hB0 := hB.grown (World.grownBy_alloc W (Obj.cells #[.slice ta f.terms.length tc, .slice na f.nons.length nc, .slice (some ⟨pb, off, none⟩) f.prods.length pc] 25) none) (fun _ e => by cases e)
      have hs0 := HS.out _ _ _ hs (hB'.mono hB.size)
      have hDs : ∀ d ∈ Ds, d < W.heap.size := hM.lt
      have hsz : (W.alloc (Obj.cells #[.slice ta f.terms.length tc, .slice na f.nons.length nc, .slice (some ⟨pb, off, none⟩) f.prods.length pc] 25)).heap.size = W.heap.size + 1 := by simp
      have hwz := hB.size
      obtain ⟨c0, c1, c2, c3, c4, c5⟩ := hC
      have hpos : (0 : Int) < f.prods.length := by omega
      clear hM hs hB hB'
      gi_wp2_with fail
      refine ⟨trivial, ?_⟩
      refine (callsIn_wide.2 (HPR.out _)).mono ?_
      rintro e w1 ⟨rfl, rfl⟩
      clear c0 c1 c2 c3 c4 c5
      generalize (W.alloc (Obj.cells #[.slice ta f.terms.length tc, .slice na f.nons.length nc, .slice (some ⟨pb, off, none⟩) f.prods.length pc] 25)) = W0 at *
      gi_wp2
      have hcN : c < f.prods.length := by omega
      refine wpIn_rangeFunc_ownH (α := Nat) rfl h1 (gf := 121) (lb := #[.pointer (some ⟨W.heap.size, 0, none⟩)]) rfl trivial (enters_of Tryz.func121 (by kernel_rfl) rfl)
        (prods_stops (n - 1) (by omega) W.heap.size pb off f.prods.length pc (fun x => (q x).1.1) (fun x => (q x).2.1) (fun x => (q x).2.2.1) (fun x => (q x).2.2.2) (fun x => (q x).1.2) hN4 W0 (by omega) (by omega) hbox hcells)
        KpC.trans (fun W l o o' _ h hc _ => KpC.putObj W l o o' h hc) (Below.refl _ _) (fun _ => rfl)
        (fun pre V => (∃ s2 c2, S s2 V ∧ SC w.heap.size (.slice ta f.terms.length tc) (.slice na f.nons.length nc) (.slice (some ⟨pb, off, none⟩) f.prods.length pc) (.func (.func g) #[] lb) c2 V ∧ c2 < f.prods.length ∧ (pre = List.range pre.length → (∀ i, i < f.prods.length → LastC f.prods.length pre.length c2 i → Cl i s2) ∧ (μ s2 < μ s ∨ (s2 = s ∧ c2 = c + pre.length)))) ∧ Mk w.heap.size Ds V ∧ But D w V)
        (fun cc pre V => (cc = .exit 0 ∧ ∃ s2, S s2 V ∧ (pre = List.range pre.length → ∀ i, i < f.prods.length → Cl i s2)) ∧ Mk w.heap.size Ds V ∧ But D w V)
        (fun pre A B row hs hg hr => ?_) (fun cc pre A B row hs hg hr => ?_)
        ⟨⟨s, c, hs0, hC0, hcN, fun _ => ⟨fun i hi h => hcl i hi (by simpa using h), .inr ⟨rfl, by simp⟩⟩⟩, hM0, hB0⟩
        (fun x a' V => a' = { tmps := #[Value.agg #[.slice ta f.terms.length tc, .slice na f.nons.length nc, .slice (some ⟨pb, off, none⟩) f.prods.length pc], .func (.func g) #[] lb, .pointer (some ⟨w.heap.size, 0, none⟩), .pointer (some ⟨w.heap.size + 1, 0, none⟩), .pointer (some ⟨w.heap.size + 1 + 1, 0, none⟩), .int .i64 (q x).1.1, .slice (q x).2.1 (q x).2.2.1 (q x).2.2.2, .pointer (some ⟨w.heap.size, 2, none⟩), .slice (some ⟨pb, off, none⟩) f.prods.length pc, .int .i64 f.prods.length, .bool true, Value.agg #[.slice ta f.terms.length tc, .slice na f.nons.length nc, .slice (some ⟨pb, off, none⟩) f.prods.length pc], .func (.func 121) #[] #[.pointer (some ⟨W.heap.size, 0, none⟩)], .int .i64 (q x).1.1, .slice (q x).2.1 (q x).2.2.1 (q x).2.2.2, undef, undef, undef, undef, undef, undef, undef, undef, undef, undef, undef], defers := [] })
        (fun x a' _ X Y row hs hg hr => hs)
        ?assign ?body ?done ?stop
      · obtain ⟨⟨s2, c2, k1, k2, k3, k4⟩, k5, k6⟩ := hs
        exact ⟨⟨s2, c2, HS.out _ _ _ k1 ((Below.refl _ A).grown hg k6.size (fun k e => by have := (hr k e).1; omega)), k2.kept hg (fun r e => (hr r e).2), k3, k4⟩, k5.grown hg (fun r e d hd => by have := (hr r e).1; have := hDs d hd; omega), k6.grown hg (fun r e => by have := (hr r e).1; omega)⟩
      · obtain ⟨⟨k0, s2, k1, k2⟩, k5, k6⟩ := hs
        exact ⟨⟨k0, s2, HS.out _ _ _ k1 ((Below.refl _ A).grown hg k6.size (fun k e => by have := (hr k e).1; omega)), k2⟩, k5.grown hg (fun r e d hd => by have := (hr r e).1; have := hDs d hd; omega), k6.grown hg (fun r e => by have := (hr r e).1; omega)⟩
      case assign =>
        rintro l pre x V K hI hK
        gi_wp2
        exact hK _ _ (KeepsFrom.refl _ _) (KpC.refl _ _) hI rfl
      case body =>
        rintro l pre x a' V hl hr ⟨⟨s2, c2, k1, k2, k3, k4⟩, k5, k6⟩ rfl hlt
        obtain ⟨j, hj, hjx, e0, e1, e2, e3⟩ := hq x
        have hcall := HGR.out j hj s2 V _ k1 (HSL.out pb off rfl j hj _ s2 V e1 k1 k6) k6.size ⟨pb, off, rfl, e1⟩
        have hDM : ∀ k, D k → k < w.heap.size := HD.out
        have hnd := HDA.out (by omega) _ rfl
        have hX : Hid (pre ++ [x] = List.range (pre ++ [x]).length → pre = List.range pre.length ∧ x = pre.length) := fun h => by
          rw [List.length_append, List.length_singleton, List.range_succ] at h
          have := List.append_inj' h rfl
          exact ⟨this.1, by simpa using this.2⟩
        obtain ⟨c0, c1, c2', c3, c4, c5⟩ := id k2
        have HK2 : Hid (∀ V2, But D V V2 → SC w.heap.size (.slice ta f.terms.length tc) (.slice na f.nons.length nc) (.slice (some ⟨pb, off, none⟩) f.prods.length pc) (.func (.func g) #[] lb) c2 V2) := fun V2 hb => k2.but hb hDM
        have hlV := k2.lt
        clear e0 e1 e2 hcells hbox k2 hq
        gi_wp2_with fail
        refine ⟨trivial, fun _ => by omega, ?_⟩
        refine (CallsIn.inRound l (callsIn_wide.2 hcall)).mono ?_
        rintro e V2 ⟨s3, b, rfl, g1, g2, g3, g4⟩
        have K3 := HK2.out _ g2
        have hM2 := k5.but g2 hDM
        have hB2 := k6.trans g2
        have hzz := g2.size
        clear c0 c1 c2' c3 c4 c5
        obtain ⟨c0, c1, c2', c3, c4, c5⟩ := id K3
        have HST : Hid (∀ c' : Nat, S s3 (V2.setCell ⟨w.heap.size + 1 + 1, 0, none⟩ (.int .i64 c')) ∧ KeepsFrom W0.heap.size V (V2.setCell ⟨w.heap.size + 1 + 1, 0, none⟩ (.int .i64 c')) ∧ KpC (fun k => k = W.heap.size ∨ k = pb) V (V2.setCell ⟨w.heap.size + 1 + 1, 0, none⟩ (.int .i64 c')) ∧ Mk w.heap.size Ds (V2.setCell ⟨w.heap.size + 1 + 1, 0, none⟩ (.int .i64 c')) ∧ But D w (V2.setCell ⟨w.heap.size + 1 + 1, 0, none⟩ (.int .i64 c')) ∧ SC w.heap.size (.slice ta f.terms.length tc) (.slice na f.nons.length nc) (.slice (some ⟨pb, off, none⟩) f.prods.length pc) (.func (.func g) #[] lb) c' (V2.setCell ⟨w.heap.size + 1 + 1, 0, none⟩ (.int .i64 c'))) := fun c' => by
          refine ⟨HS.out _ _ _ g1 ((Below.refl _ V2).setCell (p := ⟨w.heap.size + 1 + 1, 0, none⟩) (by show w.heap.size ≤ w.heap.size + 1 + 1; omega) _), (g2.keeps (fun k hk => by have := hDM k hk; omega)).trans ((KeepsOthers.setCell _ _ _).from _), ?_, ⟨hM2.1, fun d hd => ⟨(hM2.2 d hd).1, (KeepsOthers.setCell V2 ⟨w.heap.size + 1 + 1, 0, none⟩ _).same d _ (hM2.2 d hd).2 rfl⟩⟩, hB2.setCell _ _ (.inl (by show w.heap.size ≤ w.heap.size + 1 + 1; omega)), K3.set c'⟩
          refine (g2.kpC (E := fun k => k = W.heap.size ∨ k = pb) (fun k hk hd => ?_)).trans (fun ad v hk hv => ?_)
          · rcases hk with rfl | rfl
            · have := hDM _ hd; omega
            · exact hnd hd
          · exact (World.cell?_of_block (w := V2) (Below.heap_setCell V2 ⟨w.heap.size + 1 + 1, 0, none⟩ _ _ (by rcases hk with h | h <;> rw [h] <;> simp only [] <;> omega))).trans hv
        clear hM2 hB2 g1 HK2 hcall
        cases b with
        | true =>
          obtain ⟨z1, z2, z3, z4, z5, z6⟩ := HST.out 0
          have HR : Hid (μ s3 < μ s2) := g3 rfl
          have HK4 : Hid (pre = List.range pre.length → (∀ i, i < f.prods.length → LastC f.prods.length pre.length c2 i → Cl i s2) ∧ (μ s2 < μ s ∨ (s2 = s ∧ c2 = c + pre.length))) := k4
          clear k4 HST K3
          gi_wp2
          refine ⟨z2, z3, ⟨s3, 0, z1, z6, by omega, fun hx => ⟨fun i hi h => (h.zero hi).elim, .inl ?_⟩⟩, z4, z5⟩
          have h4 := (HK4.out (hX.out hx).1).2
          have h5 := HR.out
          rcases h4 with h4 | h4
          · omega
          · rw [h4.1] at h5; exact h5
        | false =>
          obtain ⟨rfl, hclj⟩ := g4 rfl
          obtain ⟨z1, z2, z3, z4, z5, z6⟩ := HST.out (c2 + 1)
          have HK4 : Hid (pre ++ [x] = List.range (pre ++ [x]).length → (∀ i, i < f.prods.length → LastC f.prods.length (pre ++ [x]).length (c2 + 1) i → Cl i s3) ∧ (μ s3 < μ s ∨ (s3 = s ∧ c2 + 1 = c + (pre ++ [x]).length))) := fun hx => by
            obtain ⟨hx1, hx2⟩ := hX.out hx
            obtain ⟨q1, q2⟩ := k4 hx1
            have hjx' : j = x := hjx (by omega)
            rw [List.length_append, List.length_singleton]
            refine ⟨fun i hi h => ?_, ?_⟩
            · rcases h.step hi with h' | h'
              · have : i = j := by omega
                subst this
                exact hclj
              · exact q1 i hi h'
            · rcases q2 with q2 | ⟨q2, q3⟩
              · exact .inl q2
              · exact .inr ⟨q2, by omega⟩
          have HPL : Hid ((pre ++ [x]).length ≤ f.prods.length) := by show _ ≤ _; simp; omega
          obtain ⟨z, hz⟩ : ∃ z : Int, wrap64 ((c2 : Int) + 1) = z := ⟨_, rfl⟩
          have hze : z = ((c2 + 1 : Nat) : Int) := by rw [← hz]; exact wrap_succ k3 hN4
          have hzn : (z == f.prods.length) = decide (c2 + 1 = f.prods.length) := by rw [hze]; exact succ_dec
          have HZE : Hid (((c2 + 1 : Nat) : Int) = z) := hze.symm
          rw [HZE.out] at z1 z2 z3 z4 z5 z6
          have HK3 : Hid (c2 < f.prods.length) := k3
          have HZ6 : Hid (SC w.heap.size (.slice ta f.terms.length tc) (.slice na f.nons.length nc) (.slice (some ⟨pb, off, none⟩) f.prods.length pc) (.func (.func g) #[] lb) (c2 + 1) (V2.setCell ⟨w.heap.size + 1 + 1, 0, none⟩ (.int .i64 z))) := by
            have := (HST.out (c2 + 1)).2.2.2.2.2
            rw [HZE.out] at this
            exact this
          clear k4 HST K3 g3 g4 hclj hze z6 k3
          by_cases hc2 : c2 + 1 = f.prods.length
          · have HZ : Hid (∀ j, j ≤ f.prods.length → ∀ i, i < f.prods.length → LastC f.prods.length j (c2 + 1) i) := fun j hj i hi => LastC.all (by omega) j hj hi
            have hce : (z == (f.prods.length : Int)) = true := by rw [hzn]; exact decide_eq_true hc2
            clear hc2 hzn
            gi_wp2
            exact ⟨z2, ⟨rfl, s3, z1, fun hx i hi => (HK4.out hx).1 i hi (HZ.out _ HPL.out i hi)⟩, z4, z5⟩
          · have hce : (z == (f.prods.length : Int)) = false := by rw [hzn]; exact decide_eq_false hc2
            have HZ : Hid (c2 + 1 < f.prods.length) := by have := HK3.out; show _ < _; omega
            clear hc2 hzn
            gi_wp2
            exact ⟨z2, z3, ⟨s3, c2 + 1, z1, HZ6.out, HZ.out, HK4.out⟩, z4, z5⟩
      case done =>
        rintro d xs V hd rfl ⟨⟨s2, c2, k1, k2, k3, k4⟩, k5, k6⟩ hK
        obtain ⟨q1, q2⟩ := k4 (by simp)
        rw [List.length_range] at q1 q2
        have hlt : μ s2 < μ s := by
          rcases q2 with h | ⟨h, h'⟩
          · exact h
          · omega
        have hMd : Mk w.heap.size (d :: Ds) V := ⟨List.nodup_cons.2 ⟨fun h => by have := hDs d h; omega, k5.1⟩, fun e he => by
          rcases List.mem_cons.1 he with rfl | he
          · exact ⟨by omega, hK⟩
          · exact k5.2 e he⟩
        have HQ1 : Hid (∀ i, i < f.prods.length → LastC f.prods.length 0 c2 i → Cl i s2) := fun i hi h => q1 i hi (h.wrap hi)
        clear q1 q2 k4 k5 hq HGR HSL HPR hcells
        gi_wp2
        exact ⟨μ s2, hlt, _, _, _, _, _, _, d :: Ds, s2, c2, rfl, rfl, hMd, k1, k2, k6, .inr k3, HQ1.out⟩
      case stop =>
        rintro d cc pre V hd hpre ⟨⟨rfl, s2, k1, k2⟩, k5, k6⟩ hK
        have hpr : pre = List.range pre.length := by
          have h := List.prefix_iff_eq_take.1 hpre
          rw [List.take_range] at h
          have hl := hpre.length_le
          rw [List.length_range] at hl
          rw [Nat.min_eq_left hl] at h
          exact h
        have hMd : Mk w.heap.size (d :: Ds) V := ⟨List.nodup_cons.2 ⟨fun h => by have := hDs d h; omega, k5.1⟩, fun e he => by
          rcases List.mem_cons.1 he with rfl | he
          · exact ⟨by omega, hK⟩
          · exact k5.2 e he⟩
        have HF : Hid (∃ s, S s V ∧ (∀ j, j < f.prods.length → Cl j s) ∧ But D w V) := ⟨s2, k1, k2 hpr, k6⟩
        clear k5 k2 hq HGR HSL HPR hcells
        gi_wp2
        exact leaves_marks (fun W => ⟨_, results_none rfl _ _ _⟩) HE.out (d :: Ds) V hMd HF.out

theorem settle_any {σ : Type} (f : Fl) (a : FlA) (g : Nat) (lb : Array Value) (eg : ∀ args w, (callFunc g args).run Tryz.prog w = .ok (.enter g args) w) (S : σ → World → Prop) (D : Nat → Prop) (μ : σ → Nat) (Cl : Nat → σ → Prop)
    (w : World) (hp : FitP f) (hfl : ∀ s W, S s W → FlAt f a W) (hS : ∀ s W W', S s W → Below w.heap.size W W' → S s W') (hD : ∀ k, D k → k < w.heap.size) (hDa : 0 < f.prods.length → ∀ ad, a.pa = some ad → ¬ D ad.block)
    (hg : ∀ (j : Nat) (hj : j < f.prods.length) (s : σ) (W : World) (v : Value), S s W → SlT f.prods[j].right v W → w.heap.size ≤ W.heap.size → (∃ pb off, a.pa = some ⟨pb, off, none⟩ ∧ w.cell? ⟨pb, off + j * 3 + 1, none⟩ = some v) → Calls Tryz.prog g (#[.int .i64 f.prods[j].left, v] ++ lb) W fun e W' => ∃ s' b, e = .returned (.bool b) ∧ S s' W' ∧ But D W W' ∧ (b = true → μ s' < μ s) ∧ (b = false → s' = s ∧ Cl j s))
    (s0 : σ) (h0 : S s0 w) :
    Calls Tryz.prog 83 #[a.val f, .func (.func g) #[] lb] w fun e W' => (∃ v, e = .returned v) ∧ ∃ s, S s W' ∧ (∀ j, j < f.prods.length → Cl j s) ∧ But D w W' :=
  (callsIn_wide (n := 6)).1 (settle_in 6 (by omega) f a g lb eg S D μ Cl w hp hfl hS hD hDa hg s0 h0)
end Go.Proofs.YtlaplmmicccbcaaGreatDoor
/- A row that is appended to and cut at its beginning, again and again. -/
namespace Go.Proofs.YtlaplmmicccbcaaGreatDoor
open Go.RowKit

/-- The slice v holds xs, n elements of so many cells; what is behind them up to its capacity may be written; if it has any, it lies in a block of D. -/
def QRow (D : Nat → Prop) (size : Nat) (v : Value) (n : Nat) (xs : List Value) (W : World) : Prop :=
  ∃ ao b off cap, v = .slice ao n cap ∧ Came W size ao b off n cap xs ∧ (0 < cap → D b)
theorem QRow.nil (D : Nat → Prop) (size : Nat) (W : World) : QRow D size (.slice none 0 0) 0 [] W :=
  ⟨none, 0, 0, 0, rfl, ⟨Nat.le_refl _, fun h => by omega, fun h => by omega, by simp, by simp, fun j h => by simp at h⟩, fun h => by omega⟩
theorem QRow.of_own {D : Nat → Prop} {W : World} {B n size : Nat} {e : TypeId} {v : Value} {xs : List Value} (h : W.ownsRow B e size v n xs) (hD : ∀ k, B ≤ k → D k) : QRow D size v n xs W := by
  have h0 := h
  obtain ⟨h1, h2⟩ := h
  rcases h2 with ⟨rfl, hn⟩ | ⟨g, cap, cur, rfl, hB, hg, hcap, hm, hsz, hx⟩
  · subst hn
    obtain rfl : xs = [] := List.eq_nil_of_length_eq_zero (by simpa using h1)
    exact QRow.nil _ _ _
  · refine ⟨_, g, 0, cap, rfl, ⟨hcap, fun _ => rfl, fun _ => (Array.getElem?_eq_some_iff.1 hg).1, h1, fun j u hj => ?_, fun j hj => ?_⟩, fun _ => hD g hB⟩
    · have := World.ownsRow.cells h0 (g := g) rfl j u hj
      rwa [add_plain] at this
    · have hlt : n * size + j < cur.size := by rw [hsz]; rw [Nat.sub_mul] at hj; omega
      refine ⟨?_, World.ownsRow.frozenAt h0 _⟩
      simp [World.cell?, hg, hlt]
theorem QRow.but {D E : Nat → Prop} {W W' : World} {n size : Nat} {v : Value} {xs : List Value} (h : QRow D size v n xs W) (hb : But E W W') (hE : ∀ k, D k → ¬ E k) : QRow D size v n xs W' := by
  obtain ⟨ao, b, off, cap, h0, h1, h2⟩ := h
  rcases Nat.eq_zero_or_pos cap with hz | hz
  · subst hz
    have hn : n = 0 := Nat.le_zero.1 h1.le
    subst hn
    obtain rfl : xs = [] := List.eq_nil_of_length_eq_zero (by simpa using h1.oldsLen)
    exact ⟨ao, b, off, 0, h0, ⟨Nat.le_refl _, fun h => by omega, fun h => by omega, by simp, by simp, fun j h => by simp at h⟩, fun h => by omega⟩
  · have hbl := h1.lt hz
    have hE' := hE b (h2 hz)
    refine ⟨ao, b, off, cap, h0, ⟨h1.le, h1.addr, fun _ => Nat.lt_of_lt_of_le hbl hb.size, h1.oldsLen, fun j u hj => ?_, fun j hj => ?_⟩, h2⟩
    · exact (hb.cell (p := ⟨b, off + j, none⟩) hbl hE').trans (h1.olds j u hj)
    · have := h1.spare j hj
      rw [hb.cell (p := ⟨b, off + n * size + j, none⟩) hbl hE', hb.frozen (p := ⟨b, off + n * size + j, none⟩) hbl hE']
      exact this
theorem QRow.next {D : Nat → Prop} {W W' : World} {n size : Nat} {v : Value} {xs : List Value} (h : QRow D size v n xs W) (hb : Below W.heap.size W W') : QRow D size v n xs W' :=
  h.but (E := fun _ => False) (But.of_next hb) (fun _ _ h => h)
theorem QRow.mono {D E : Nat → Prop} {W : World} {n size : Nat} {v : Value} {xs : List Value} (h : QRow D size v n xs W) (hd : ∀ k, k < W.heap.size → D k → E k) : QRow E size v n xs W := by
  obtain ⟨ao, b, off, cap, h0, h1, h2⟩ := h
  exact ⟨ao, b, off, cap, h0, h1, fun h => hd b (h1.lt h) (h2 h)⟩
/-- Cut at its beginning. -/
theorem QRow.cut {D : Nat → Prop} {W : World} {n size : Nat} {b off cap : Nat} {xs ys : List Value} (h : QRow D size (.slice (some ⟨b, off, none⟩) (n + 1) cap) (n + 1) (xs ++ ys) W) (hx : xs.length = size) :
    (1 < cap → QRow D size (.slice (some ⟨b, off + size, none⟩) n (cap - 1)) n ys W) ∧ (cap = 1 → n = 0 ∧ QRow D size (.slice (some ⟨b, off, none⟩) 0 0) n ys W) := by
  obtain ⟨ao, b', off', cap', h0, h1, h2⟩ := h
  cases h0
  have hle := h1.le
  have hb := h1.addr (by omega)
  cases hb
  have hl := h1.oldsLen
  rw [List.length_append, hx, Nat.add_mul, Nat.one_mul] at hl
  refine ⟨fun hc => ⟨_, b, off + size, cap - 1, rfl, ⟨by omega, fun _ => rfl, fun _ => h1.lt (by omega), by omega, fun j u hj => ?_, fun j hj => ?_⟩, fun _ => h2 (by omega)⟩, fun hc => ?_⟩
  · have := h1.olds (size + j) u (by rw [List.getElem?_append_right (by omega), hx, Nat.add_sub_cancel_left]; exact hj)
    rwa [← Nat.add_assoc] at this
  · have := h1.spare j (by rw [show cap - (n + 1) = cap - 1 - n by omega]; exact hj)
    rw [Nat.add_mul, Nat.one_mul, show off + (n * size + size) + j = off + size + n * size + j by omega] at this
    exact this
  · have hn : n = 0 := by omega
    subst hn
    obtain rfl : ys = [] := List.eq_nil_of_length_eq_zero (by omega)
    exact ⟨rfl, _, 0, 0, 0, rfl, ⟨Nat.le_refl _, fun h => by omega, fun h => by omega, by simp, by simp, fun j h => by simp at h⟩, fun h => by omega⟩
theorem tape_setCells (b : Nat) : ∀ (vs : List Value) (o : Nat) (w : World), (w.setCells b o vs).tape = w.tape
  | [], _, _ => rfl
  | v :: r, o, w => by rw [World.setCells, tape_setCells b r]; rfl
theorem But.setCells {D : Nat → Prop} (w : World) (b o : Nat) (vs : List Value) (hD : D b) : But D w (w.setCells b o vs) := by
  refine ⟨World.os_setCells w b o vs, tape_setCells b vs o w, World.output_setCells w b o vs, ?_, fun k hk hd => World.heap_setCells_other w b o vs hk (fun e => hd (e ▸ hD))⟩
  have := (World.keptBut_setCells b (may := fun _ => True) vs o w (fun _ _ => trivial)).size
  exact this
/-- One element more. -/
theorem run_append_q {P : Program} {w : World} {D : Nat → Prop} {n : Nat} {v : Value} {xs : List Value} (t ty e : TypeId) (i : TypeInfo) (z : Value) (size bytes : Nat) (ht : P.underlying t = some (.slice e)) (hi : P.info? e = some i) (hz : i.zero = some z) (hsize : i.size = size) (hby : i.bytes = bytes) (hzs : z.cells.size = size) (hsz : 0 < size)
    (h : QRow D size v n xs w) (hD : ∀ k, w.heap.size ≤ k → D k) (ad : Addr) (c : Nat) (news : List Value) (hl : news.length = size) (hnews : ∀ j u, news[j]? = some u → w.cell? (ad.add j) = some u) (h1 : ∀ u ∈ news, u.oneCell' = true)
    (h63 : n + 1 ≤ maxLen) (hbytes : (n + 1) * bytes ≤ 140737488355328) :
    ∃ v' w', (Builtin.append_ #[t, t] ty #[v, .slice (some ad) 1 c]).run P w = .ok v' w' ∧ QRow D size v' (n + 1) (xs ++ news) w' ∧ But D w w' := by
  obtain ⟨ao, b, off, cap, rfl, hc, hb⟩ := h
  have hgrow : ∀ {w' : World}, w.grownBy w' none → But D w w' := fun hg => ⟨hg.os, hg.tape, hg.output, hg.size, fun k hk _ => hg.block k hk (by simp)⟩
  by_cases hroom : n + 1 ≤ cap
  · have hcap : 0 < cap := by omega
    have hao := hc.addr hcap
    subst hao
    have hfit : size ≤ (cap - n) * size := Nat.le_mul_of_pos_left _ (by omega)
    have hrun := run_append_room_cells (P := P) w t ty e i ht hi b off n cap ad 1 c news (by rw [hl, hsize, Nat.one_mul]) hnews h1 hroom
      (fun j hj => by rw [hsize]; exact (hc.spare j (by omega)).1) (fun j hj => by rw [hsize]; exact (hc.spare j (by omega)).2)
    rw [hsize] at hrun
    have hsome : ∀ j, j < news.length → (w.cell? ⟨b, off + n * size + j, none⟩).isSome = true := fun j hj => (hc.spare j (by omega)).1
    have hB : But D w (w.setCells b (off + n * size) news) := But.setCells w b _ news (hb hcap)
    have hol := hc.oldsLen
    refine ⟨_, _, hrun, ⟨_, b, off, cap, rfl, ⟨hroom, fun _ => rfl, fun _ => Nat.lt_of_lt_of_le (hc.lt hcap) hB.size, by rw [List.length_append, hol, hl, Nat.add_mul, Nat.one_mul], fun j u hj => ?_, fun j hj => ?_⟩, fun _ => hb hcap⟩, hB⟩
    · by_cases hjl : j < xs.length
      · rw [List.getElem?_append_left hjl] at hj
        rw [World.cell?_setCells_out b _ _ _ _ (fun _ _ => Or.inl (by show off + j < _; omega))]
        exact hc.olds j u hj
      · rw [List.getElem?_append_right (by omega)] at hj
        have hlt := (List.getElem?_eq_some_iff.1 hj).1
        have := World.cell?_setCells_in b news (off + n * size) w hsome (j - xs.length) hlt
        rw [show off + n * size + (j - xs.length) = off + j by omega] at this
        rw [this, ← hj, List.getElem?_eq_getElem hlt]
    · rw [Nat.add_mul, Nat.one_mul, World.frozen?_setCells, World.cell?_setCells_out b _ _ _ _ (fun _ _ => Or.inr (by show _ ≤ off + (n * size + size) + j; omega))]
      have hj' : size + j < (cap - n) * size := by
        have : (cap - n) * size = (cap - (n + 1)) * size + size := by rw [show cap - n = cap - (n + 1) + 1 by omega, Nat.add_mul, Nat.one_mul]
        omega
      have := hc.spare (size + j) hj'
      rwa [show off + n * size + (size + j) = off + (n * size + size) + j by omega] at this
  · cases ao with
    | none =>
      have hcap : cap = 0 := by
        rcases Nat.eq_zero_or_pos cap with h0 | h0
        · exact h0
        · have := hc.addr h0; cases this
      subst hcap
      have hn : n = 0 := Nat.le_zero.1 hc.le
      subst hn
      obtain rfl : xs = [] := List.eq_nil_of_length_eq_zero (by simpa using hc.oldsLen)
      obtain ⟨v', w', hrun, r1, r2, _⟩ := run_append_own (P := P) w w.heap.size t ty e i z size bytes ht hi hz hsize hby hzs hsz (.slice none 0 0) 0 [] (World.ownsRow_nil w _ e size) ad 1 c news (by rw [hl, Nat.one_mul]) hnews h1 h63 hbytes (Nat.le_refl _)
      exact ⟨v', w', hrun, QRow.of_own r1 hD, hgrow r2⟩
    | some a' =>
      have holds : ∀ j u, xs[j]? = some u → w.cell? (a'.add j) = some u := fun j u hj => by
        rcases Nat.eq_zero_or_pos cap with h0 | h0
        · subst h0
          have hn : n = 0 := Nat.le_zero.1 hc.le
          subst hn
          obtain rfl : xs = [] := List.eq_nil_of_length_eq_zero (by simpa using hc.oldsLen)
          simp at hj
        · have := hc.addr h0
          cases this
          rw [add_plain]
          exact hc.olds j u hj
      obtain ⟨v', w', hrun, r1, r2⟩ := run_append_arg_grows (P := P) w t ty e i z size bytes ht hi hz hsize hby hzs hsz a' n cap xs hc.oldsLen holds ad 1 c news (by rw [hl, Nat.one_mul]) hnews (by omega) h63 hbytes
      exact ⟨v', w', hrun, QRow.of_own r1 hD, hgrow r2⟩
theorem wp_append_q {P : Program} {w : World} {o : Oper} {a : Act} {K : Act → World → Prop} {Q : Exit → Act → World → Prop} (s x : Operand) (t : TypeId)
    (ho : o.op = .call { callee := .builtin .append, args := #[s, x], argTypes := #[t, t] }) {D : Nat → Prop} {n : Nat} {v : Value} {xs : List Value} (e : TypeId) (i : TypeInfo) (z : Value) (size bytes : Nat) (ht : P.underlying t = some (.slice e)) (hi : P.info? e = some i) (hz : i.zero = some z) (hsize : i.size = size) (hby : i.bytes = bytes) (hzs : z.cells.size = size) (hsz : 0 < size)
    (hs : a.eval s = v) (h : QRow D size v n xs w) (hD : ∀ k, w.heap.size ≤ k → D k) (ad : Addr) (c : Nat) (news : List Value) (hx : a.eval x = .slice (some ad) 1 c) (hl : news.length = size) (hnews : ∀ j u, news[j]? = some u → w.cell? (ad.add j) = some u) (h1 : ∀ u ∈ news, u.oneCell' = true)
    (h63 : n + 1 ≤ maxLen) (hbytes : (n + 1) * bytes ≤ 140737488355328)
    (hK : ∀ v' w', QRow D size v' (n + 1) (xs ++ news) w' → But D w w' → K (a.put o.dst v') w') : o.wp P a w K Q := by
  obtain ⟨v', w', hrun, k1, k2⟩ := run_append_q (P := P) (w := w) t o.type e i z size bytes ht hi hz hsize hby hzs hsz h hD ad c news hl hnews h1 h63 hbytes
  unfold Oper.wp
  simp [execOp, ho, resolve, invoke, builtin, hs, hx, hrun, Result.andThen]
  exact hK v' w' k1 k2
theorem wpList_append_q {P : Program} {w : World} {ops : Array Oper} {rest : List Oper} {o : Oper} {a : Act} {Q : Exit → Act → World → Prop} (hgd : o.guard = none) (s x : Operand) (t : TypeId)
    (ho : o.op = .call { callee := .builtin .append, args := #[s, x], argTypes := #[t, t] }) {D : Nat → Prop} {n : Nat} {v : Value} {xs : List Value} (e : TypeId) (i : TypeInfo) (z : Value) (size bytes : Nat) (ht : P.underlying t = some (.slice e)) (hi : P.info? e = some i) (hz : i.zero = some z) (hsize : i.size = size) (hby : i.bytes = bytes) (hzs : z.cells.size = size) (hsz : 0 < size)
    (hs : a.eval s = v) (h : QRow D size v n xs w) (hD : ∀ k, w.heap.size ≤ k → D k) (ad : Addr) (c : Nat) (news : List Value) (hx : a.eval x = .slice (some ad) 1 c) (hl : news.length = size) (hnews : ∀ j u, news[j]? = some u → w.cell? (ad.add j) = some u) (h1 : ∀ u ∈ news, u.oneCell' = true)
    (h63 : n + 1 ≤ maxLen) (hbytes : (n + 1) * bytes ≤ 140737488355328)
    (hK : ∀ v' w', QRow D size v' (n + 1) (xs ++ news) w' → But D w w' → wpList P ops Q rest (a.put o.dst v') w') : wpList P ops Q (o :: rest) a w := by
  obtain ⟨v', w', hrun, k1, k2⟩ := run_append_q (P := P) (w := w) t o.type e i z size bytes ht hi hz hsize hby hzs hsz h hD ad c news hl hnews h1 h63 hbytes
  refine wpList_plain hgd fun _ hK' => ?_
  unfold Oper.wp
  simp [execOp, ho, resolve, invoke, builtin, hs, hx, hrun, Result.andThen]
  exact hK' _ _ (hK v' w' k1 k2)
theorem wpList_cut_q {w : World} {ops : Array Oper} {rest : List Oper} {o : Oper} {a : Act} {Q : Exit → Act → World → Prop} (hgd : o.guard = none) (s : Operand)
    (ho : o.op = .slice 26 s (some (.const (.int .i64 1))) none none) {D : Nat → Prop} {n b off cap : Nat} {xs ys : List Value}
    (hs : a.eval s = .slice (some ⟨b, off, none⟩) (n + 1) cap) (h : QRow D 3 (.slice (some ⟨b, off, none⟩) (n + 1) cap) (n + 1) (xs ++ ys) w) (hx : xs.length = 3)
    (hK : ∀ v', QRow D 3 v' n ys w → wpList Tryz.prog ops Q rest (a.put o.dst v') w) : wpList Tryz.prog ops Q (o :: rest) a w := by
  obtain ⟨h1, h2⟩ := h.cut hx
  have hle : n + 1 ≤ cap := by obtain ⟨_, _, _, _, e, hc, _⟩ := h; cases e; exact hc.le
  refine wpList_plain hgd fun _ hK' => ?_
  rcases Nat.lt_or_ge 1 cap with hc | hc
  · have hk := hK' _ _ (hK _ (h1 hc))
    unfold Oper.wp
    have hcz : (1 : Int) ≤ (n : Int) + 1 := by omega
    simp only [execOp, ho, hs]
    simp [go_sem, Instr.slice, hcz]
    rw [if_neg (by omega)]
    exact hk
  · have hc1 : cap = 1 := by omega
    subst hc1
    obtain ⟨rfl, h3⟩ := h2 rfl
    have hk := hK' _ _ (hK _ h3)
    unfold Oper.wp
    simp only [execOp, ho, hs]
    simp [go_sem, Instr.slice]
    exact hk
theorem QRow.shape {D : Nat → Prop} {W : World} {n size : Nat} {v : Value} {xs : List Value} (h : QRow D size v n xs W) : ∃ ao cap, v = .slice ao n cap := by
  obtain ⟨ao, b, off, cap, h0, _⟩ := h; exact ⟨ao, cap, h0⟩
/-- Its items, as they lie. -/
theorem QRow.irs {D : Nat → Prop} {W : World} {v : Value} {l : List Ir} (h : QRow D 3 v l.length (l.flatMap encR) W) (hok : ∀ x ∈ l, okR x) : SlL l v W := by
  obtain ⟨ao, b, off, cap, h0, h1, h2⟩ := h
  refine ⟨ao, cap, h0, fun i x hi => ?_, fun e => ?_, h1.le⟩
  · have hil := (List.getElem?_eq_some_iff.1 hi).1
    have hcap : 0 < cap := by have := h1.le; omega
    refine ⟨b, off, h1.addr hcap, h1.lt hcap, ?_, ?_, ?_, hok x (List.mem_of_getElem? hi)⟩
    · have := h1.olds (i * 3 + 0) (.int .i64 x.1) (by rw [flatR_get hi (by omega)]; rfl)
      simpa using this
    · have := h1.olds (i * 3 + 1) (.int .i64 x.2.1) (by rw [flatR_get hi (by omega)]; rfl)
      simpa [Nat.add_assoc] using this
    · have := h1.olds (i * 3 + 2) (.int .i64 x.2.2) (by rw [flatR_get hi (by omega)]; rfl)
      simpa [Nat.add_assoc] using this
  · rcases Nat.eq_zero_or_pos cap with hz | hz
    · exact hz
    · have := h1.addr hz; rw [e] at this; cases this
theorem SlI.but {D : Nat → Prop} {W W' : World} {l : List Int} {v : Value} (h : SlI l v W) (hb : But D W W') (hd : ∀ ad n c, v = .slice (some ad) n c → l ≠ [] → ¬ D ad.block) : SlI l v W' := by
  obtain ⟨ao, cap, h0, h1, h2⟩ := h
  refine ⟨ao, cap, h0, fun i x hi => ?_, h2⟩
  obtain ⟨b, off, e, hbl, hc⟩ := h1 i x hi
  subst e
  have hnd := hd _ _ _ h0 (fun e => by subst e; simp at hi)
  exact ⟨b, off, rfl, Nat.lt_of_lt_of_le hbl hb.size, (hb.cell (p := ⟨b, off + i, none⟩) hbl hnd).trans hc⟩
theorem SlL.but {D : Nat → Prop} {W W' : World} {l : List Ir} {v : Value} (h : SlL l v W) (hb : But D W W') (hd : ∀ ad n c, v = .slice (some ad) n c → l ≠ [] → ¬ D ad.block) : SlL l v W' := by
  obtain ⟨ao, cap, h0, h1, h2⟩ := h
  refine ⟨ao, cap, h0, fun i x hi => ?_, h2⟩
  obtain ⟨b, off, e, hbl, c0, c1, c2, hok⟩ := h1 i x hi
  subst e
  have hnd := hd _ _ _ h0 (fun e => by subst e; simp at hi)
  exact ⟨b, off, rfl, Nat.lt_of_lt_of_le hbl hb.size, (hb.cell (p := ⟨b, off + i * 3, none⟩) hbl hnd).trans c0, (hb.cell (p := ⟨b, off + i * 3 + 1, none⟩) hbl hnd).trans c1, (hb.cell (p := ⟨b, off + i * 3 + 2, none⟩) hbl hnd).trans c2, hok⟩
end Go.Proofs.YtlaplmmicccbcaaGreatDoor
/- All sets of items, in order; a row of rows of one's own. -/
namespace Go.Proofs.YtlaplmmicccbcaaGreatDoor
open Go.RowKit

open Classical in
/-- The closure of a list. -/
noncomputable def closF (f : Fl) (S : List Ir) : List Ir := if h : ∃ L, ClosI f (fun x => x ∈ S) L then h.choose else []
theorem closF_eq {f : Fl} {S L : List Ir} (h : ClosI f (fun x => x ∈ S) L) : closF f S = L := by
  unfold closF
  have hx : ∃ L, ClosI f (fun x => x ∈ S) L := ⟨L, h⟩
  rw [dif_pos hx]
  exact closI_unique hx.choose_spec h
theorem closF_len {f : Fl} (hp : FitP f) (S : List Ir) : (closF f S).length ≤ maxI := by
  unfold closF
  split
  · rename_i h; exact h.choose_spec.len hp
  · simp
noncomputable def gotoF (f : Fl) (l : List Ir) (s : Int) : List Ir := closF f (movedL f l s)
open Classical in
noncomputable def addA (A : List (List Ir)) (g : List Ir) : List (List Ir) := if g ≠ [] ∧ g ∉ A then A ++ [g] else A
/-- The symbols from s on, so many of them; none: there are too many sets. -/
noncomputable def rowA (f : Fl) (l : List Ir) : Nat → Nat → List (List Ir) → Option (List (List Ir))
  | _, 0, A => some A
  | s, k + 1, A => if (addA A (gotoF f l s)).length > 600 then none else rowA f l (s + 1) k (addA A (gotoF f l s))
noncomputable def runA (f : Fl) : Nat → Nat → List (List Ir) → Option (List (List Ir))
  | 0, _, A => some A
  | k + 1, i, A => match A[i]? with
    | none => some A
    | some l => match rowA f l 0 f.n A with
      | none => none
      | some A' => runA f k (i + 1) A'
noncomputable def allF (f : Fl) : Option (List (List Ir)) := runA f 601 0 [closF f (begL f)]
/-- What comes of it from a symbol on. -/
noncomputable def restA (f : Fl) (l : List Ir) (i s : Nat) (A : List (List Ir)) : Option (List (List Ir)) :=
  match rowA f l s (f.n - s) A with
  | none => none
  | some A' => runA f (600 - i) (i + 1) A'
theorem runA_end {f : Fl} {i : Nat} {A : List (List Ir)} (hi : i = A.length) (h : i ≤ 600) : runA f (601 - i) i A = some A := by
  rw [show 601 - i = (600 - i) + 1 by omega, runA]
  rw [List.getElem?_eq_none (by omega)]
theorem runA_at {f : Fl} {i : Nat} {A : List (List Ir)} {l : List Ir} (hl : A[i]? = some l) (h : i ≤ 600) : runA f (601 - i) i A = restA f l i 0 A := by
  rw [show 601 - i = (600 - i) + 1 by omega, runA, hl]
  rfl
theorem restA_end {f : Fl} {l : List Ir} {i s : Nat} {A : List (List Ir)} (hs : f.n ≤ s) : restA f l i s A = runA f (600 - i) (i + 1) A := by
  unfold restA
  rw [show f.n - s = 0 by omega, rowA]
theorem restA_many {f : Fl} {l : List Ir} {i s : Nat} {A : List (List Ir)} (hs : s < f.n) (h : (addA A (gotoF f l s)).length > 600) : restA f l i s A = none := by
  unfold restA
  rw [show f.n - s = (f.n - (s + 1)) + 1 by omega, rowA, if_pos h]
theorem restA_next {f : Fl} {l : List Ir} {i s : Nat} {A : List (List Ir)} (hs : s < f.n) (h : ¬ (addA A (gotoF f l s)).length > 600) : restA f l i s A = restA f l i (s + 1) (addA A (gotoF f l s)) := by
  unfold restA
  rw [show f.n - s = (f.n - (s + 1)) + 1 by omega, rowA, if_neg h]
theorem addA_new {A : List (List Ir)} {g : List Ir} (h : g ≠ []) (k : g ∉ A) : addA A g = A ++ [g] := by unfold addA; rw [if_pos ⟨h, k⟩]
theorem addA_nil (A : List (List Ir)) : addA A [] = A := by unfold addA; simp
theorem addA_old {A : List (List Ir)} {g : List Ir} (k : g ∈ A) : addA A g = A := by unfold addA; rw [if_neg (fun h => h.2 k)]
theorem addA_get {A : List (List Ir)} {g l : List Ir} {i : Nat} (h : A[i]? = some l) : (addA A g)[i]? = some l := by
  unfold addA
  split
  · rw [List.getElem?_append_left (List.getElem?_eq_some_iff.1 h).1]; exact h
  · exact h
theorem addA_le {A : List (List Ir)} {g : List Ir} {m : Nat} (h : ∀ x ∈ A, x.length ≤ m) (k : g.length ≤ m) : ∀ x ∈ addA A g, x.length ≤ m := by
  unfold addA
  split
  · intro x hx
    rcases List.mem_append.1 hx with hx | hx
    · exact h x hx
    · simp at hx; subst hx; exact k
  · exact h

/-- The block that a slice lies in. -/
def inB (v : Value) (k : Nat) : Prop := ∃ off n c, v = .slice (some ⟨k, off, none⟩) n c ∧ 0 < c
theorem inB.of {ad : Addr} {n c : Nat} {k : Nat} (h : inB (.slice (some ad) n c) k) : ad.block = k := by
  obtain ⟨_, _, _, e, _⟩ := h
  cases e; rfl
theorem QRow.exact {D : Nat → Prop} {W : World} {n size : Nat} {v : Value} {xs : List Value} (h : QRow D size v n xs W) : QRow (fun k => D k ∧ inB v k ∧ k < W.heap.size) size v n xs W := by
  obtain ⟨ao, b, off, cap, h0, h1, h2⟩ := h
  exact ⟨ao, b, off, cap, h0, h1, fun hc => ⟨h2 hc, ⟨off, n, cap, by rw [h0, h1.addr hc], hc⟩, h1.lt hc⟩⟩

/-- A row of rows of items, that is one's own from a block on; the rows lie in other blocks than it does. -/
def OwnLL (B : Nat) (R : List (List Ir)) (v : Value) (W : World) : Prop :=
  ∃ hv : List Value, hv.length = R.length ∧ QRow (fun k => B ≤ k ∧ inB v k) 1 v R.length hv W ∧
    ∀ (i : Nat) (l : List Ir) (u : Value), R[i]? = some l → hv[i]? = some u → SlL l u W ∧ ∀ ad n c, u = .slice (some ad) n c → l ≠ [] → ¬ inB v ad.block
theorem SlL.lt {l : List Ir} {ad : Addr} {n c : Nat} {W : World} (h : SlL l (.slice (some ad) n c) W) (hl : l ≠ []) : ad.block < W.heap.size := by
  obtain ⟨ao, cap, h0, h1, _⟩ := h
  cases h0
  obtain ⟨x, l', rfl⟩ := List.exists_cons_of_ne_nil hl
  obtain ⟨b, off, e, hb, _⟩ := h1 0 x rfl
  cases e; exact hb
theorem OwnLL.next {B : Nat} {R : List (List Ir)} {v : Value} {W W' : World} (h : OwnLL B R v W) (hb : Below W.heap.size W W') : OwnLL B R v W' := by
  obtain ⟨hv, h0, h1, h2⟩ := h
  exact ⟨hv, h0, h1.next hb, fun i l u hl hu => ⟨(h2 i l u hl hu).1.next hb, (h2 i l u hl hu).2⟩⟩
theorem OwnLL.shape {B : Nat} {R : List (List Ir)} {v : Value} {W : World} (h : OwnLL B R v W) : ∃ ao cap, v = .slice ao R.length cap := by
  obtain ⟨hv, h0, h1, h2⟩ := h
  exact h1.shape
theorem OwnLL.sl {B : Nat} {R : List (List Ir)} {v : Value} {W : World} (h : OwnLL B R v W) : SlLL R v W := by
  obtain ⟨hv, h0, ⟨ao, b, off, cap, rfl, hc, _⟩, h2⟩ := h
  refine ⟨ao, cap, rfl, fun i l hl => ?_, fun hn => ?_, hc.le⟩
  · have hi : i < R.length := (List.getElem?_eq_some_iff.1 hl).1
    have hcp : 0 < cap := by have := hc.le; omega
    have hu : hv[i]? = some hv[i] := by simp [h0, hi]
    exact ⟨b, off, hv[i], hc.addr hcp, hc.lt hcp, hc.olds i _ hu, (h2 i l _ hl hu).1⟩
  · rcases Nat.eq_zero_or_pos cap with h | h
    · exact h
    · rw [hn] at hc; have := hc.addr h; cases this
theorem OwnLL.lt {B : Nat} {R : List (List Ir)} {v : Value} {W : World} {ad : Addr} {n c : Nat} (h : OwnLL B R v W) (hv : v = .slice (some ad) n c) (hc : 0 < c) : ad.block < W.heap.size := by
  obtain ⟨hw, h0, ⟨ao, b, off, cap, e, hc', _⟩, h2⟩ := h
  rw [hv] at e; cases e
  have h3 := hc'.addr hc
  cases h3
  exact hc'.lt hc
theorem OwnLL.inLt {B : Nat} {R : List (List Ir)} {v : Value} {W : World} {k : Nat} (h : OwnLL B R v W) (hk : inB v k) : k < W.heap.size := by
  obtain ⟨off, n, c, e, hc⟩ := hk
  exact h.lt e hc
/-- A row behind it: what an append of it asks, and what it gives. -/
theorem OwnLL.grow {B : Nat} {R : List (List Ir)} {v lv : Value} {l : List Ir} {W : World} (h : OwnLL B R v W) (hB : B ≤ W.heap.size) (hl : SlL l lv W) (ha : ∀ ad n c, lv = .slice (some ad) n c → l ≠ [] → ¬ inB v ad.block) :
    ∃ (hv : List Value) (D : Nat → Prop), QRow D 1 v R.length hv W ∧ (∀ k, W.heap.size ≤ k → D k) ∧ ∀ v' W', QRow D 1 v' (R.length + 1) (hv ++ [lv]) W' → But D W W' → OwnLL B (R ++ [l]) v' W' ∧ Below B W W' := by
  obtain ⟨hv, h0, h1, h2⟩ := h
  refine ⟨hv, fun k => (B ≤ k ∧ inB v k) ∨ W.heap.size ≤ k, h1.mono (fun k _ hk => .inl hk), fun k hk => .inr hk, fun v' W' hq hb => ⟨⟨hv ++ [lv], by simp [h0], ?_, ?_⟩, hb.below hB (fun k hk => ?_)⟩⟩
  · have := hq.exact.mono (E := fun k => B ≤ k ∧ inB v' k) (fun k _ hk => ⟨?_, hk.2.1⟩)
    · simpa using this
    · rcases hk.1 with h | h
      · exact h.1
      · exact Nat.le_trans hB h
  · have hnew : ∀ k, inB v' k → (B ≤ k ∧ inB v k) ∨ W.heap.size ≤ k := by
      intro k hk
      obtain ⟨ao, b, off, cap, e, hc, hD⟩ := hq
      obtain ⟨off', n', c', e', _⟩ := hk
      have hcp : 0 < cap := by have := hc.le; omega
      rw [e, hc.addr hcp] at e'
      cases e'
      exact hD hcp
    intro i l' u hl' hu
    have key : SlL l' u W ∧ ∀ ad n c, u = .slice (some ad) n c → l' ≠ [] → ¬ inB v ad.block := by
      rcases Nat.lt_or_ge i R.length with hi | hi
      · rw [List.getElem?_append_left hi] at hl'
        rw [List.getElem?_append_left (by omega)] at hu
        exact h2 i l' u hl' hu
      · rw [List.getElem?_append_right hi] at hl'
        rw [List.getElem?_append_right (by omega), h0] at hu
        rcases hj : i - R.length with _ | j
        · rw [hj] at hl' hu; simp at hl' hu; subst hl' hu; exact ⟨hl, ha⟩
        · rw [hj] at hl'; simp at hl'
    have kd : ∀ ad n c, u = .slice (some ad) n c → l' ≠ [] → ¬ ((B ≤ ad.block ∧ inB v ad.block) ∨ W.heap.size ≤ ad.block) := fun ad n c e hne hd => by
      rcases hd with hd | hd
      · exact key.2 ad n c e hne hd.2
      · have := (e ▸ key.1 : SlL l' (.slice (some ad) n c) W).lt hne; omega
    exact ⟨key.1.but hb kd, fun ad n c e hne hin => kd ad n c e hne (hnew _ hin)⟩
  · rcases hk with h | h
    · exact h.1
    · exact Nat.le_trans hB h
/-- A row of one. -/
theorem OwnLL.one {B : Nat} {lv : Value} {l : List Ir} {W : World} {ty : TypeId} (hB : B ≤ W.heap.size) (hl : SlL l lv W) : OwnLL B [l] (.slice (some ⟨W.heap.size, 0, none⟩) 1 1) (W.alloc (Obj.cells #[lv] ty)) := by
  have hb : Below W.heap.size W (W.alloc (Obj.cells #[lv] ty)) := (Below.refl _ _).alloc (Nat.le_refl _) _
  have h0 : (W.alloc (Obj.cells #[lv] ty)).cell? ⟨W.heap.size, 0, none⟩ = some lv := by simp
  refine ⟨[lv], rfl, ⟨_, W.heap.size, 0, 1, rfl, ⟨Nat.le_refl _, fun _ => rfl, fun _ => by simp, rfl, fun j u hj => ?_, fun j hj => by simp at hj⟩, fun _ => ⟨hB, 0, 1, 1, rfl, by omega⟩⟩, fun i l' u hl' hu => ?_⟩
  · rcases j with _ | j
    · simp at hj; subst hj; exact h0
    · simp at hj
  · rcases i with _ | i
    · simp at hl' hu; subst hl' hu
      refine ⟨hl.next hb, fun ad n c e hne hin => ?_⟩
      subst e
      have := hl.lt hne
      have := inB.of hin
      simp only at this
      omega
    · simp at hl'
end Go.Proofs.YtlaplmmicccbcaaGreatDoor
/- What begins items: just what the document says. -/
namespace Go.Proofs.YtlaplmmicccbcaaGreatDoor
open Go.RowKit

/-- The symbols among items. -/
def symsN (N : Nat) (l : List It) : List Nat := (l.filter fun x => decide (0 ≤ x.sym ∧ x.sym < (N : Int))).map fun x => x.sym.toNat
theorem symsN_cons_no {N : Nat} {x : It} {l : List It} (h : x.sym < 0 ∨ (N : Int) ≤ x.sym) : symsN N (x :: l) = symsN N l := by
  unfold symsN; rw [List.filter_cons_of_neg (by simp; omega)]
theorem symsN_cons_yes {N : Nat} {x : It} {l : List It} (h : ¬ (x.sym < 0 ∨ (N : Int) ≤ x.sym)) : symsN N (x :: l) = x.sym.toNat :: symsN N l := by
  unfold symsN; rw [List.filter_cons_of_pos (by simp; omega)]; rfl

theorem rowAt_gives {P : Nat → Int → Prop} {n : Nat} {R : List (List Int)} (h : GivesR P n R) {s : Nat} (hs : s < n) {t : Int} : t ∈ rowAt R s ↔ P s t := by
  rw [← inR_row (by rw [h.1]; exact hs)]; exact h.2.2 s hs t
theorem onb_gives {base : Nat → Prop} {g : Gr} {n : Nat} {L : List Bool} (h : GivesB base g n L) {s : Nat} (hs : s < n) : onb L s = true ↔ Der base g s := by
  rw [onb_iff]; exact h.2 s hs
theorem row_le_gives {P : Nat → Int → Prop} {n m : Nat} {R : List (List Int)} (h : GivesR P n R) (hb : ∀ s t, P s t → 0 ≤ t ∧ t < m) (s : Nat) : (rowAt R s).length ≤ m := by
  by_cases hs : s < R.length
  · have hr : Rising (rowAt R s) := by rw [rowAt_get hs]; exact h.2.1 _ (List.getElem_mem hs)
    exact rising_length hr (fun t ht => hb s t ((rowAt_gives h (by rw [← h.1]; exact hs)).1 ht))
  · have : rowAt R s = [] := by unfold rowAt; rw [List.getD_eq_getElem?_getD, List.getElem?_eq_none (by omega)]; rfl
    rw [this]; simp

theorem first_row_le {f : Fl} {R : List (List Int)} (hn : f.n ≤ 600) (h : GivesR (FstP f) f.n R) (s : Nat) : (rowAt R s).length ≤ 601 := by
  have ht : f.terms.length ≤ f.n := by unfold Fl.n; omega
  exact row_le_gives (m := 601) h (fun s t h => by have h1 := fst_lt h; omega) s
end Go.Proofs.YtlaplmmicccbcaaGreatDoor
/- What items begin with, one after another: lists. -/
namespace Go.Proofs.YtlaplmmicccbcaaGreatDoor

/-- What begins symbols, and whether all of them can be empty. -/
def lookF (R : List (List Int)) (Le : List Bool) : List Nat → List Int → List Int × Bool
  | [], A => (A, true)
  | s :: r, A => if onb Le s = true then lookF R Le r (unionL A (rowAt R s)) else (unionL A (rowAt R s), false)
def looksL (R : List (List Int)) (Le : List Bool) (sy : List Nat) (k : Int) : List Int :=
  if (lookF R Le sy []).2 = true then unionL (lookF R Le sy []).1 [k] else (lookF R Le sy []).1
theorem lookF_rise {R Le} : ∀ {sy : List Nat} {A : List Int}, Rising A → Rising (lookF R Le sy A).1
  | [], _, h => h
  | s :: r, A, h => by
    rw [lookF]; split
    · exact lookF_rise (rising_unionL h)
    · exact rising_unionL h
theorem lookF_mem {R : List (List Int)} {Le : List Bool} {N : Nat} {emp : Nat → Prop} {fst : Nat → Int → Prop} (hR : ∀ s, s < N → ∀ t, t ∈ rowAt R s ↔ fst s t) (hL : ∀ s, s < N → (onb Le s = true ↔ emp s)) :
    ∀ {sy : List Nat} {A : List Int} {t : Int}, (∀ s ∈ sy, s < N) → (t ∈ (lookF R Le sy A).1 ↔ t ∈ A ∨ Beg emp fst (fun _ => False) sy t)
  | [], A, t, _ => by
    rw [lookF]
    constructor
    · exact .inl
    · rintro (h | h)
      · exact h
      · cases h with | behind h => exact h.elim
  | s :: r, A, t, hs => by
    have hsn := hs s (by simp)
    rw [lookF]; split
    · rename_i ho
      rw [lookF_mem hR hL (fun x hx => hs x (by simp [hx])), mem_unionL, hR _ hsn]
      constructor
      · rintro ((h | h) | h)
        · exact .inl h
        · exact .inr (.here h)
        · exact .inr (.next ((hL _ hsn).1 ho) h)
      · rintro (h | h)
        · exact .inl (.inl h)
        · cases h with
          | here h => exact .inl (.inr h)
          | next _ h => exact .inr h
    · rename_i ho
      rw [mem_unionL, hR _ hsn]
      constructor
      · rintro (h | h)
        · exact .inl h
        · exact .inr (.here h)
      · rintro (h | h)
        · exact .inl h
        · cases h with
          | here h => exact .inr h
          | next h _ => exact absurd ((hL _ hsn).2 h) ho
theorem lookF_all {R : List (List Int)} {Le : List Bool} {N : Nat} {emp : Nat → Prop} (hL : ∀ s, s < N → (onb Le s = true ↔ emp s)) :
    ∀ {sy : List Nat} {A : List Int}, (∀ s ∈ sy, s < N) → ((lookF R Le sy A).2 = true ↔ ∀ s ∈ sy, emp s)
  | [], A, _ => by rw [lookF]; simp
  | s :: r, A, hs => by
    have hsn := hs s (by simp)
    rw [lookF]; split
    · rename_i ho
      rw [lookF_all hL (fun x hx => hs x (by simp [hx]))]
      simp [(hL _ hsn).1 ho]
    · rename_i ho
      simp only [Bool.false_eq_true, List.mem_cons, forall_eq_or_imp, false_iff, not_and]
      intro h; exact absurd ((hL _ hsn).2 h) ho
theorem looksL_mem {R : List (List Int)} {Le : List Bool} {N : Nat} {emp : Nat → Prop} {fst : Nat → Int → Prop} (hR : ∀ s, s < N → ∀ t, t ∈ rowAt R s ↔ fst s t) (hL : ∀ s, s < N → (onb Le s = true ↔ emp s)) {sy : List Nat} {k t : Int} (hs : ∀ s ∈ sy, s < N) :
    t ∈ looksL R Le sy k ↔ Beg emp fst (fun t => t = k) sy t := by
  rw [beg_iff]
  unfold looksL
  have h1 := lookF_mem hR hL (A := []) (t := t) hs
  have h2 := lookF_all (R := R) hL (A := []) hs
  simp at h1
  split
  · rename_i h
    rw [mem_unionL, h1]
    simp only [List.mem_singleton]
    exact ⟨fun h' => h'.imp id (fun e => ⟨h2.1 h, e⟩), fun h' => h'.imp id (fun e => e.2)⟩
  · rename_i h
    rw [h1]
    constructor
    · exact .inl
    · rintro (h' | h')
      · exact h'
      · exact absurd (h2.2 h'.1) h
theorem looksL_rise {R Le sy k} : Rising (looksL R Le sy k) := by
  unfold looksL
  have := lookF_rise (R := R) (Le := Le) (sy := sy) (A := []) List.Pairwise.nil
  split
  · exact rising_unionL this
  · exact this

/-- The rows of First, and what can be empty, of a plain grammar. -/
structure FE (f : Fl) (R : List (List Int)) (Le : List Bool) : Prop where
  r : GivesR (FstP f) f.n R
  e : GivesB (fun _ => False) f.gr f.n Le
theorem FE.looks {f : Fl} {R : List (List Int)} {Le : List Bool} (h : FE f R Le) (hp : FitP f) {x : Ir} {t : Int} : t ∈ looksL R Le (behI f x) x.2.2 ↔ LookP f x t :=
  looksL_mem (emp := EmpP f) (fst := FstP f) (fun _ hs _ => rowAt_gives h.r hs) (fun _ hs => onb_gives h.e hs) (behI_lt hp)
theorem rising_le {l : List Int} {m : Nat} (h : Rising l) (hb : ∀ x ∈ l, 0 ≤ x ∧ x < m) : l.length ≤ m := rising_length h hb
theorem FE.looks_len {f : Fl} {R : List (List Int)} {Le : List Bool} (h : FE f R Le) (hp : FitP f) {x : Ir} (hx : fitI f x = true) : (looksL R Le (behI f x) x.2.2).length ≤ 601 := by
  refine rising_le looksL_rise (fun t ht => ?_)
  have := look_le hx ((h.looks hp).1 ht)
  have := hp.size
  omega
/-- What comes to an item. -/
def addsL (f : Fl) (R : List (List Int)) (Le : List Bool) (x : Ir) : List Ir :=
  match nextI f x with
  | some s => (ofA f s).flatMap fun q => (looksL R Le (behI f x) x.2.2).map fun t => (q, 0, t)
  | none => []
theorem adds_iff {f : Fl} {R : List (List Int)} {Le : List Bool} (h : FE f R Le) (hp : FitP f) {x y : Ir} : y ∈ addsL f R Le x ↔ ∃ (s t : Int) (q : Nat) (p : Pr), y = ((q : Int), (0 : Int), t) ∧ nextI f x = some s ∧ f.prods[q]? = some p ∧ p.left = s ∧ LookP f x t := by
  unfold addsL
  cases hn : nextI f x with
  | none => simp
  | some s =>
    simp only [List.mem_flatMap, List.mem_map]
    constructor
    · rintro ⟨q', hq', t, ht, rfl⟩
      obtain ⟨q, p, rfl, h1, h2⟩ := mem_ofA.1 hq'
      exact ⟨s, t, q, p, rfl, rfl, h1, h2, (h.looks hp).1 ht⟩
    · rintro ⟨s', t, q, p, rfl, e, h1, h2, h3⟩
      cases e
      exact ⟨q, mem_ofA.2 ⟨q, p, rfl, h1, h2⟩, t, (h.looks hp).2 h3, rfl⟩
theorem flatMap_const_len {α β : Type} (g : α → List β) {k : Nat} : ∀ {l : List α}, (∀ x ∈ l, (g x).length ≤ k) → (l.flatMap g).length ≤ l.length * k
  | [], _ => by simp
  | x :: l, h => by
    rw [List.flatMap_cons, List.length_append, List.length_cons, Nat.add_mul, Nat.one_mul]
    have h1 := h x (by simp)
    have h2 := flatMap_const_len g (l := l) (fun y hy => h y (by simp [hy]))
    omega
theorem ofA_len {f : Fl} (hp : FitP f) (s : Int) : (ofA f s).length ≤ 400 := Nat.le_trans (ofL_len _ _ _) hp.prods
theorem adds_len {f : Fl} {R : List (List Int)} {Le : List Bool} (h : FE f R Le) (hp : FitP f) {x : Ir} : (addsL f R Le x).length ≤ 240400 := by
  unfold addsL
  cases hn : nextI f x with
  | none => simp
  | some s =>
    have h1 := flatMap_const_len (fun q : Int => (looksL R Le (behI f x) x.2.2).map fun t => ((q, 0, t) : Ir)) (k := 601) (l := ofA f s) (fun q _ => by rw [List.length_map]; exact h.looks_len hp (nextI_fit hn))
    have h2 := ofA_len hp s
    simp only
    have h3 : (ofA f s).length * 601 ≤ 400 * 601 := Nat.mul_le_mul_right _ h2
    omega

/-- A set that grows, and what waits to come to it. -/
structure CW (f : Fl) (S : Ir → Prop) (set todo : List Ir) : Prop where
  rise : RisingI set
  sound : ∀ x ∈ set, Cl f S x
  tsound : ∀ x ∈ todo, fitI f x = true → Cl f S x
  base : ∀ x, S x → fitI f x = true → x ∈ set ∨ x ∈ todo
  closed : ∀ x ∈ set, ∀ (s t : Int) (q : Nat) (p : Pr), nextI f x = some s → f.prods[q]? = some p → p.left = s → LookP f x t → ((q : Int), (0 : Int), t) ∈ set ∨ ((q : Int), (0 : Int), t) ∈ todo
theorem CW.start (f : Fl) (l : List Ir) : CW f (fun x => x ∈ l) [] l :=
  ⟨List.Pairwise.nil, by simp, fun x hx hf => .base hx hf, fun x hx _ => .inr hx, by simp⟩
theorem CW.skip {f : Fl} {S : Ir → Prop} {set rest : List Ir} {x : Ir} (h : CW f S set (x :: rest)) (hx : fitI f x = false ∨ x ∈ set) : CW f S set rest := by
  have key : ∀ y, fitI f y = true → y ∈ set ∨ y ∈ x :: rest → y ∈ set ∨ y ∈ rest := fun y hy h' => by
    rcases h' with h' | h'
    · exact .inl h'
    · rcases List.mem_cons.1 h' with rfl | h'
      · rcases hx with hx | hx
        · rw [hx] at hy; cases hy
        · exact .inl hx
      · exact .inr h'
  refine ⟨h.rise, h.sound, fun y hy => h.tsound y (by simp [hy]), fun y hy hf => key y hf (h.base y hy hf), fun y hy s t q p hn hq hl hk => key _ ?_ (h.closed y hy s t q p hn hq hl hk)⟩
  exact fit_zero hq (look_le (nextI_fit hn) hk)
theorem CW.new {f : Fl} {S : Ir → Prop} {set rest adds : List Ir} {x : Ir} (h : CW f S set (x :: rest)) (hx : fitI f x = true) (hA : ∀ y, y ∈ adds ↔ ∃ (s t : Int) (q : Nat) (p : Pr), y = ((q : Int), (0 : Int), t) ∧ nextI f x = some s ∧ f.prods[q]? = some p ∧ p.left = s ∧ LookP f x t) : CW f S (putI x set) (rest ++ adds) := by
  have hcx := h.tsound x (by simp) hx
  have key : ∀ y, y ∈ set ∨ y ∈ x :: rest → y ∈ putI x set ∨ y ∈ rest ++ adds := fun y h' => by
    rcases h' with h' | h'
    · exact .inl (mem_putI.2 (.inr h'))
    · rcases List.mem_cons.1 h' with rfl | h'
      · exact .inl (mem_putI.2 (.inl rfl))
      · exact .inr (List.mem_append.2 (.inl h'))
  refine ⟨rising_putI h.rise, fun y hy => ?_, fun y hy hf => ?_, fun y hy hf => key y (h.base y hy hf), fun y hy s t q p hn hq hl hk => ?_⟩
  · rcases mem_putI.1 hy with rfl | hy
    · exact hcx
    · exact h.sound y hy
  · rcases List.mem_append.1 hy with hy | hy
    · exact h.tsound y (by simp [hy]) hf
    · obtain ⟨s, t, q, p, rfl, k1, k2, k3, k4⟩ := (hA y).1 hy
      exact .step hcx k1 k2 k3 k4
  · rcases mem_putI.1 hy with rfl | hy
    · exact .inr (List.mem_append.2 (.inr ((hA _).2 ⟨s, t, q, p, rfl, hn, hq, hl, hk⟩)))
    · exact key _ (h.closed y hy s t q p hn hq hl hk)
theorem CW.done {f : Fl} {S : Ir → Prop} {set : List Ir} (h : CW f S set []) : ClosI f S set :=
  ⟨h.rise, fun x => ⟨h.sound x, fun hx => cl_least (A := fun x => x ∈ set) (fun y hy hf => by rcases h.base y hy hf with h' | h'; exact h'; cases h') (fun y s t q p hy hn hq hl hk => by rcases h.closed y hy s t q p hn hq hl hk with h' | h'; exact h'; cases h') hx⟩⟩
theorem CW.len {f : Fl} {S : Ir → Prop} {set todo : List Ir} (hp : FitP f) (h : CW f S set todo) : set.length ≤ maxI := items_le hp h.rise.nodup (fun x hx => cl_fit (h.sound x hx))
/-- An item whose Next is a terminal, or none, begins with nothing else. -/
theorem no_adds {f : Fl} (hp : FitP f) {x : Ir} (hs : ∀ s, nextI f x = some s → s < f.terms.length) : ∀ y, y ∈ ([] : List Ir) ↔ ∃ (s t : Int) (q : Nat) (p : Pr), y = ((q : Int), (0 : Int), t) ∧ nextI f x = some s ∧ f.prods[q]? = some p ∧ p.left = s ∧ LookP f x t := by
  intro y
  simp only [List.not_mem_nil, false_iff]
  rintro ⟨s, t, q, p, _, hn, hq, hl, _⟩
  have h1 := hs s hn
  have h2 := hp.left p (List.mem_of_getElem? hq)
  omega
end Go.Proofs.YtlaplmmicccbcaaGreatDoor
/- Kernels: what a set leads to, symbol by symbol; sets by their kernels. Lists. -/
namespace Go.Proofs.YtlaplmmicccbcaaGreatDoor

open Classical in
theorem closI_exists {f : Fl} (hp : FitP f) (S : Ir → Prop) : ∃ L, ClosI f S L := by
  let cands : List Ir := (List.range 401).flatMap fun (p : Nat) => (List.range 65).flatMap fun (d : Nat) => (List.range 601).map fun (t : Nat) => (((p : Int) - 1, (d : Int), (t : Int)) : Ir)
  have hc : ∀ x : Ir, fitI f x = true → x ∈ cands := by
    intro x hx
    have h1 := fitI_iff.1 hx
    have h2 := rightI_le hp x.1
    have h3 := hp.prods
    have h4 : f.terms.length + f.nons.length ≤ 600 := hp.size
    refine List.mem_flatMap.2 ⟨(x.1 + 1).toNat, List.mem_range.2 (by omega), List.mem_flatMap.2 ⟨x.2.1.toNat, List.mem_range.2 (by omega), List.mem_map.2 ⟨x.2.2.toNat, List.mem_range.2 (by omega), ?_⟩⟩⟩
    exact ir_ext (by simp only; omega) (by simp only; omega) (by simp only; omega)
  clear_value cands
  have key : ∀ l : List Ir, RisingI (l.foldr putI []) ∧ ∀ x, x ∈ l.foldr putI [] ↔ x ∈ l := by
    intro l
    induction l with
    | nil => exact ⟨by simp [RisingI], by simp⟩
    | cons a l ih => exact ⟨rising_putI ih.1, fun x => by rw [List.foldr_cons, mem_putI, ih.2, List.mem_cons]⟩
  obtain ⟨k1, k2⟩ := key (cands.filter fun x => decide (Cl f S x))
  refine ⟨_, k1, fun x => (k2 x).trans ?_⟩
  rw [List.mem_filter, decide_eq_true_eq]
  exact ⟨fun h => h.2, fun h => ⟨hc x (cl_fit h), h⟩⟩
theorem closF_spec {f : Fl} (hp : FitP f) (S : List Ir) : ClosI f (fun x => x ∈ S) (closF f S) := by
  obtain ⟨L, hL⟩ := closI_exists hp (fun x => x ∈ S)
  rw [closF_eq hL]; exact hL

/-- The items of a kernel: fit, rising, the Dot behind something. -/
structure Kern (f : Fl) (K : List Ir) : Prop where
  ne : K ≠ []
  rise : RisingI K
  fit : ∀ x ∈ K, fitI f x = true
  dot : ∀ x ∈ K, 0 < x.2.1
theorem movedL_rise {f : Fl} {l : List Ir} {s : Int} (h : RisingI l) : RisingI (movedL f l s) := by
  unfold movedL RisingI at *
  rw [List.pairwise_map]
  refine (h.filter _).imp (fun {a b} hab => ?_)
  unfold ltI at *
  simp only
  omega
theorem mem_movedL {f : Fl} {l : List Ir} {s : Int} {x : Ir} : x ∈ movedL f l s ↔ ∃ y ∈ l, nextI f y = some s ∧ x = (y.1, y.2.1 + 1, y.2.2) := by
  unfold movedL
  simp only [List.mem_map, List.mem_filter, decide_eq_true_eq]
  constructor
  · rintro ⟨y, ⟨h1, h2⟩, rfl⟩; exact ⟨y, h1, h2, rfl⟩
  · rintro ⟨y, h1, h2, rfl⟩; exact ⟨y, ⟨h1, h2⟩, rfl⟩
theorem movedL_kern {f : Fl} {l : List Ir} {s : Int} (h : RisingI l) (hne : movedL f l s ≠ []) : Kern f (movedL f l s) :=
  ⟨hne, movedL_rise h, movedL_fit, fun x hx => by
    obtain ⟨y, _, hn, rfl⟩ := mem_movedL.1 hx
    have := fitI_iff.1 (nextI_fit hn)
    simp only
    omega⟩
theorem Kern.mem {f : Fl} (hp : FitP f) {K : List Ir} (h : Kern f K) (x : Ir) : x ∈ K ↔ x ∈ closF f K ∧ 0 < x.2.1 := by
  rw [(closF_spec hp K).2 x]
  constructor
  · intro hx; exact ⟨.base hx (h.fit x hx), h.dot x hx⟩
  · rintro ⟨hc, hd⟩
    rcases cl_dot hc with h | h
    · exact h
    · omega
theorem Kern.inj {f : Fl} (hp : FitP f) {K M : List Ir} (h : Kern f K) (k : Kern f M) (e : closF f K = closF f M) : K = M :=
  risingI_ext h.rise k.rise (fun x => by rw [h.mem hp, k.mem hp, e])
theorem closF_ne {f : Fl} (hp : FitP f) {K : List Ir} (h : Kern f K) : closF f K ≠ [] := by
  obtain ⟨x, l, rfl⟩ := List.exists_cons_of_ne_nil h.ne
  intro e
  have := ((h.mem hp x).1 (by simp)).1
  rw [e] at this; cases this
theorem closF_nil {f : Fl} (hp : FitP f) : closF f [] = [] := by
  have h := closF_spec hp ([] : List Ir)
  refine List.eq_nil_iff_forall_not_mem.2 (fun x hx => ?_)
  have := (h.2 x).1 hx
  exact (cl_least (A := fun _ => False) (fun x h _ => by cases h) (fun _ _ _ _ _ h _ _ _ _ => h) this)
theorem Kern.beg {f : Fl} (hp : FitP f) {K : List Ir} (h : Kern f K) : closF f K ≠ closF f (begL f) := by
  obtain ⟨x, l, rfl⟩ := List.exists_cons_of_ne_nil h.ne
  intro e
  have h1 := (h.mem hp x).1 (by simp)
  rw [e, (closF_spec hp _).2 x] at h1
  rcases cl_dot h1.1 with h2 | h2
  · simp [begL] at h2; subst h2; exact absurd h1.2 (by simp)
  · omega

/-- The kernels to which a set leads, in the order of symbols. -/
def kernsFrom (f : Fl) (l : List Ir) (s k : Nat) : List (List Ir) := ((List.range' s k).map fun (s : Nat) => movedL f l (s : Int)).filter fun K => !K.isEmpty
def kernsL (f : Fl) (l : List Ir) : List (List Ir) := kernsFrom f l 0 f.n
/-- Kernels are met, one after another; none: there are too many. -/
def rowK : List (List Ir) → List (List Ir) → Option (List (List Ir))
  | [], T => some T
  | K :: Ks, T => if K ∈ T then rowK Ks T else if T.length + 1 = 600 then none else rowK Ks (T ++ [K])
theorem rowK_append : ∀ (a b T : List (List Ir)), rowK (a ++ b) T = (rowK a T).bind (rowK b)
  | [], b, T => rfl
  | K :: a, b, T => by
    simp only [List.cons_append, rowK]
    split
    · exact rowK_append a b T
    · split
      · rfl
      · exact rowK_append a b _
theorem kernsFrom_succ (f : Fl) (l : List Ir) (s k : Nat) : kernsFrom f l s (k + 1) = (if movedL f l (s : Int) = [] then [] else [movedL f l (s : Int)]) ++ kernsFrom f l (s + 1) k := by
  unfold kernsFrom
  rw [List.range'_succ, List.map_cons, List.filter_cons]
  by_cases h : movedL f l (s : Int) = []
  · rw [if_pos h, h]; simp
  · rw [if_neg h, if_pos (by simp [h])]; rfl
theorem kernsL_kern {f : Fl} {l : List Ir} (h : RisingI l) : ∀ K ∈ kernsL f l, Kern f K := by
  intro K hK
  unfold kernsL kernsFrom at hK
  obtain ⟨h1, h2⟩ := List.mem_filter.1 hK
  obtain ⟨s, _, rfl⟩ := List.mem_map.1 h1
  exact movedL_kern h (by simpa using h2)
/-- What is met: the first one, and kernels, each once. -/
def Met (f : Fl) (T : List (List Ir)) : Prop := ∀ K ∈ T, Kern f K
noncomputable def setsOf (f : Fl) (T : List (List Ir)) : List (List Ir) := closF f (begL f) :: T.map (closF f)
theorem mem_setsOf {f : Fl} (hp : FitP f) {T : List (List Ir)} (hT : Met f T) {K : List Ir} (hK : Kern f K) : closF f K ∈ setsOf f T ↔ K ∈ T := by
  unfold setsOf
  rw [List.mem_cons, List.mem_map]
  constructor
  · rintro (h | ⟨M, hM, e⟩)
    · exact absurd h (hK.beg hp)
    · rw [← (hT M hM).inj hp hK e]; exact hM
  · intro h; exact .inr ⟨K, h, rfl⟩
theorem rowA_rowK {f : Fl} (hp : FitP f) {l : List Ir} (hl : RisingI l) : ∀ (k s : Nat) (T : List (List Ir)), Met f T → T.length + 1 ≤ 600 →
    rowA f l s k (setsOf f T) = (rowK (kernsFrom f l s k) T).map (setsOf f)
  | 0, s, T, _, _ => by simp [rowA, kernsFrom, rowK]
  | k + 1, s, T, hT, hlen => by
    rw [rowA, kernsFrom_succ]
    have hsl : (setsOf f T).length = T.length + 1 := by simp [setsOf]
    unfold gotoF
    by_cases h : movedL f l (s : Int) = []
    · rw [if_pos h, h, closF_nil hp, addA_nil, if_neg (by omega), List.nil_append]
      exact rowA_rowK hp hl k (s + 1) T hT hlen
    · have hK := movedL_kern hl h
      rw [if_neg h, List.singleton_append, rowK]
      by_cases hin : movedL f l (s : Int) ∈ T
      · rw [if_pos hin, addA_old ((mem_setsOf hp hT hK).2 hin), if_neg (by omega)]
        exact rowA_rowK hp hl k (s + 1) T hT hlen
      · rw [if_neg hin, addA_new (closF_ne hp hK) (fun h => hin ((mem_setsOf hp hT hK).1 h))]
        by_cases h6 : T.length + 1 = 600
        · rw [if_pos h6, if_pos (by simp [hsl, h6])]; rfl
        · rw [if_neg h6, if_neg (by simp [hsl]; omega)]
          have e : setsOf f T ++ [closF f (movedL f l (s : Int))] = setsOf f (T ++ [movedL f l (s : Int)]) := by simp [setsOf]
          rw [e]
          refine rowA_rowK hp hl k (s + 1) _ (fun K hK' => ?_) (by simp; omega)
          rcases List.mem_append.1 hK' with h' | h'
          · exact hT K h'
          · simp at h'; subst h'; exact hK
theorem rowK_met {f : Fl} : ∀ (Ks T T' : List (List Ir)), (∀ K ∈ Ks, Kern f K) → Met f T → T.Nodup → T.length + 1 ≤ 600 → rowK Ks T = some T' → Met f T' ∧ T'.Nodup ∧ T'.length + 1 ≤ 600 ∧ T <+: T'
  | [], T, T', _, hT, hn, hl, h => by
    simp only [rowK, Option.some.injEq] at h
    subst h; exact ⟨hT, hn, hl, List.prefix_refl _⟩
  | K :: Ks, T, T', hK, hT, hn, hl, h => by
    rw [rowK] at h
    split at h
    · exact rowK_met Ks T T' (fun K hk => hK K (by simp [hk])) hT hn hl h
    · split at h
      · cases h
      · rename_i h1 h2
        obtain ⟨k1, k2, k3, k4⟩ := rowK_met Ks (T ++ [K]) T' (fun K hk => hK K (by simp [hk])) (fun M hM => by
          rcases List.mem_append.1 hM with h' | h'
          · exact hT M h'
          · simp at h'; subst h'; exact hK M (by simp)) (by
          rw [List.nodup_append]
          refine ⟨hn, by simp, fun a ha b hb => ?_⟩
          simp at hb; subst hb
          rintro rfl; exact h1 ha) (by simp; omega) h
        exact ⟨k1, k2, k3, (List.prefix_append _ _).trans k4⟩
theorem setsOf_get {f : Fl} {T : List (List Ir)} {i : Nat} {K : List Ir} (h : (begL f :: T)[i]? = some K) : (setsOf f T)[i]? = some (closF f K) := by
  have e : setsOf f T = (begL f :: T).map (closF f) := by simp [setsOf]
  rw [e, List.getElem?_map, h]; rfl
theorem run_step {f : Fl} (hp : FitP f) {T : List (List Ir)} {i : Nat} {K : List Ir} (hT : Met f T) (hl : T.length + 1 ≤ 600) (hi : i ≤ 600) (h : (begL f :: T)[i]? = some K) :
    runA f (601 - i) i (setsOf f T) = (rowK (kernsL f (closF f K)) T).bind fun T' => runA f (600 - i) (i + 1) (setsOf f T') := by
  rw [show 601 - i = (600 - i) + 1 by omega, runA, setsOf_get h]
  simp only
  rw [rowA_rowK hp (closF_spec hp K).1 f.n 0 T hT hl]
  unfold kernsL
  cases rowK (kernsFrom f (closF f K) 0 f.n) T <;> rfl
theorem run_start (f : Fl) : allF f = runA f (601 - 0) 0 (setsOf f []) := rfl
theorem run_end {f : Fl} {T : List (List Ir)} {i : Nat} (hi : i = T.length + 1) (h : i ≤ 600) : runA f (601 - i) i (setsOf f T) = some (setsOf f T) := runA_end (by simp [setsOf, hi]) h
end Go.Proofs.YtlaplmmicccbcaaGreatDoor
/- Closures and all sets, by computing. -/
namespace Go.Proofs.YtlaplmmicccbcaaGreatDoor

/-- A closure, so many steps. -/
def closC (f : Fl) (R : List (List Int)) (Le : List Bool) : Nat → List Ir → List Ir → Option (List Ir)
  | 0, _, _ => none
  | _ + 1, set, [] => some set
  | k + 1, set, x :: rest => if fitI f x = true ∧ x ∉ set then closC f R Le k (putI x set) (rest ++ addsL f R Le x) else closC f R Le k set rest
theorem closC_spec {f : Fl} {R : List (List Int)} {Le : List Bool} (h : FE f R Le) (hp : FitP f) {S : Ir → Prop} {L : List Ir} : ∀ (k : Nat) (set todo : List Ir), CW f S set todo → closC f R Le k set todo = some L → ClosI f S L
  | 0, _, _, _, e => by cases e
  | k + 1, set, [], hc, e => by
    simp only [closC, Option.some.injEq] at e
    subst e; exact hc.done
  | k + 1, set, x :: rest, hc, e => by
    rw [closC] at e
    split at e
    · rename_i h1
      exact closC_spec h hp k _ _ (hc.new h1.1 (fun y => adds_iff h hp)) e
    · rename_i h1
      refine closC_spec h hp k _ _ (hc.skip ?_) e
      by_cases h2 : fitI f x = true
      · exact .inr (Classical.byContradiction fun h3 => h1 ⟨h2, h3⟩)
      · exact .inl (by simpa using h2)
theorem closC_eq {f : Fl} {R : List (List Int)} {Le : List Bool} (h : FE f R Le) (hp : FitP f) {k : Nat} {S L : List Ir} (e : closC f R Le k [] S = some L) : closF f S = L :=
  closF_eq (closC_spec h hp k [] S (CW.start f S) e)
/-- All kernels, from number i on. -/
def runC (f : Fl) (R : List (List Int)) (Le : List Bool) (m : Nat) : Nat → Nat → List (List Ir) → Option (List (List Ir))
  | 0, _, _ => none
  | k + 1, i, T => match (begL f :: T)[i]? with
    | none => some T
    | some K => match closC f R Le m [] K with
      | none => none
      | some l => match rowK (kernsL f l) T with
        | none => none
        | some T' => runC f R Le m k (i + 1) T'
theorem runC_spec {f : Fl} {R : List (List Int)} {Le : List Bool} (h : FE f R Le) (hp : FitP f) {m : Nat} : ∀ (k i : Nat) (T T' : List (List Ir)), Met f T → T.Nodup → T.length + 1 ≤ 600 → i ≤ T.length + 1 → runC f R Le m k i T = some T' → runA f (601 - i) i (setsOf f T) = some (setsOf f T')
  | 0, _, _, _, _, _, _, _, e => by cases e
  | k + 1, i, T, T', hT, hn, hl, hi, e => by
    rw [runC] at e
    cases hK : (begL f :: T)[i]? with
    | none =>
      rw [hK] at e
      simp only [Option.some.injEq] at e
      subst e
      have := List.getElem?_eq_none_iff.1 hK
      simp at this
      exact run_end (by omega) (by omega)
    | some K =>
      rw [hK] at e
      simp only at e
      have hlt := (List.getElem?_eq_some_iff.1 hK).1
      simp at hlt
      cases hC : closC f R Le m [] K with
      | none => rw [hC] at e; cases e
      | some l =>
        rw [hC] at e
        simp only at e
        have hc := closC_eq h hp hC
        rw [run_step hp hT hl (by omega) hK, hc]
        cases hr : rowK (kernsL f l) T with
        | none => rw [hr] at e; cases e
        | some T2 =>
          rw [hr] at e
          simp only at e
          obtain ⟨k1, k2, k3, k4⟩ := rowK_met (f := f) _ T T2 (kernsL_kern (by rw [← hc]; exact (closF_spec hp K).1)) hT hn hl hr
          have := runC_spec h hp k (i + 1) T2 T' k1 k2 k3 (by have := k4.length_le; omega) e
          rw [Option.bind_some, show 600 - i = 601 - (i + 1) by omega]
          exact this
theorem allC_eq {f : Fl} {R : List (List Int)} {Le : List Bool} (h : FE f R Le) (hp : FitP f) {m k : Nat} {T : List (List Ir)} (e : runC f R Le m k 0 [] = some T) : allF f = some (setsOf f T) :=
  (run_start f).trans (runC_spec h hp k 0 [] T (by intro K hK; cases hK) List.nodup_nil (by simp) (by simp) e)
end Go.Proofs.YtlaplmmicccbcaaGreatDoor
/- Chapter 11's example: its sets. -/
namespace Go.Proofs.YtlaplmmicccbcaaGreatDoor
open Go.RowKit

def bx (n : UInt8) : ByteArray := ⟨#[n]⟩
def itA (s : Int) : It := ⟨s, ⟨#[]⟩, ⟨#[]⟩⟩
def fE : Fl := ⟨[bx 120, bx 121], [bx 97], [⟨2, [itA 0, itA 2], 0⟩, ⟨2, [itA 1], 0⟩]⟩
def gE : Gr := [(2, [0, 2]), (2, [1])]
theorem gr_E : fE.gr = gE := rfl
theorem n_E : fE.n = 3 := rfl
theorem fit_E : FitP fE := by
  refine ⟨by decide, by decide, by decide, fun p hp => ?_, fun p hp => ?_, fun p hp x hx => ?_⟩
  all_goals simp only [fE, List.mem_cons, List.not_mem_nil, or_false] at hp
  all_goals rcases hp with rfl | rfl
  all_goals try (simp [fE])
  all_goals simp only [List.mem_cons, List.not_mem_nil, or_false] at hx
  · rcases hx with rfl | rfl <;> decide
  · subst hx; decide
theorem closedF_of' {emp : Nat → Prop} {R : List (List Int)} {l : Nat} {sy : List Nat} (h : ∀ k, (hk : k < sy.length) → (∀ i, (hi : i < k) → emp sy[i]) → ∀ t, InR R sy[k] t → InR R l t) : ClosedF emp R (l, sy) := by
  intro pre x post hp he t ht
  simp only at hp
  subst hp
  have := h pre.length (by simp) (fun i hi => by rw [List.getElem_append_left hi]; exact he _ (List.getElem_mem hi)) t
  simp at this
  exact this ht
def rE : List (List Int) := [[0], [1], [0, 1]]
def lE : List Bool := [false, false, false]
theorem eE : GivesB (fun _ => False) gE 3 lE := by
  refine ⟨rfl, fun s hs => ⟨fun h => ?_, fun h => ?_⟩⟩
  · unfold OnB lE at h
    match s, hs with
    | 0, _ => simp at h
    | 1, _ => simp at h
    | 2, _ => simp at h
  · refine complete_B (base := fun _ => False) (g := gE) (fun s h => h.elim) (fun p hp => ?_) h
    simp only [gE, List.mem_cons, List.not_mem_nil, or_false] at hp
    rcases hp with rfl | rfl <;> intro hx
    · exact absurd (hx 0 (by simp)) (by simp [OnB, lE])
    · exact absurd (hx 1 (by simp)) (by simp [OnB, lE])
theorem fstE : GivesR (Fst (Der (fun _ => False) gE) 2 gE) 3 rE := by
  refine ⟨rfl, ?_, fun s hs t => ⟨fun h => ?_, fun h => ?_⟩⟩
  · intro l hl
    simp [rE] at hl
    rcases hl with rfl | rfl | rfl <;> simp [Rising]
  · obtain ⟨l, h1, h2⟩ := h
    match s, hs with
    | 0, _ => simp [rE] at h1; subst h1; simp at h2; subst h2; exact .term (t := 0) (by omega)
    | 1, _ => simp [rE] at h1; subst h1; simp at h2; subst h2; exact .term (t := 1) (by omega)
    | 2, _ =>
      simp [rE] at h1
      subst h1
      simp at h2
      rcases h2 with rfl | rfl
      · exact .prod (pre := []) (x := 0) (post := [2]) (by simp [gE]) (by simp) (.term (t := 0) (by omega))
      · exact .prod (pre := []) (x := 1) (post := []) (by simp [gE]) (by simp) (.term (t := 1) (by omega))
  · refine complete_F (emp := Der (fun _ => False) gE) (terms := 2) (g := gE) (fun t ht => ?_) (fun p hp => ?_) h
    · match t, ht with
      | 0, _ => exact ⟨[0], rfl, by simp⟩
      | 1, _ => exact ⟨[1], rfl, by simp⟩
    · simp only [gE, List.mem_cons, List.not_mem_nil, or_false] at hp
      rcases hp with rfl | rfl
      · refine closedF_of' (fun k hk he t ht => ?_)
        obtain ⟨l, h1, h2⟩ := ht
        match k, hk with
        | 0, _ => simp [rE] at h1; subst h1; simp at h2; subst h2; exact ⟨[0, 1], rfl, by simp⟩
        | 1, _ => simp [rE] at h1; subst h1; exact ⟨[0, 1], rfl, h2⟩
      · refine closedF_of' (fun k hk _ t ht => ?_)
        obtain ⟨l, h1, h2⟩ := ht
        match k, hk with
        | 0, _ => simp [rE] at h1; subst h1; simp at h2; subst h2; exact ⟨[0, 1], rfl, by simp⟩
theorem feE : FE fE rE lE := ⟨fstE, eE⟩
theorem begE : closF fE (begL fE) = [(-1, 0, 2), (0, 0, 2), (1, 0, 2)] := closC_eq feE fit_E (k := 30) (by decide)
def kE : List (List Ir) := [[(0, 1, 2)], [(1, 1, 2)], [(-1, 1, 2)], [(0, 2, 2)]]
theorem allE : allF fE = some (setsOf fE kE) := allC_eq feE fit_E (m := 30) (k := 10) (by decide)
theorem gotoE : gotoF fE (closF fE (begL fE)) 2 = [(-1, 1, 2)] := by
  unfold gotoF
  rw [begE]
  exact closC_eq feE fit_E (k := 30) (by decide)
end Go.Proofs.YtlaplmmicccbcaaGreatDoor
/- Chapter 11's example, as awake lays it. -/
namespace Go.Proofs.YtlaplmmicccbcaaGreatDoor
open Go.RowKit

theorem row2 {α : Type} (enc : α → Value) (x y : α) (w : World) (t : TypeId) : RowAt enc [x, y] (some ⟨w.heap.size, 0, none⟩) (w.alloc (Obj.cells #[enc x, enc y] t)) := by
  intro i z hi
  refine ⟨w.heap.size, 0, rfl, by simp, ?_⟩
  match i, hi with
  | 0, hi => simp at hi; subst hi; simp
  | 1, hi => simp at hi; subst hi; simp
theorem its2 (x y : It) (w : World) (t : TypeId) (hx : i64B x.sym ∧ x.fld.size ≤ 9223372036854775807 ∧ x.als.size ≤ 9223372036854775807) (hy : i64B y.sym ∧ y.fld.size ≤ 9223372036854775807 ∧ y.als.size ≤ 9223372036854775807) :
    ItsAt [x, y] (some ⟨w.heap.size, 0, none⟩) (w.alloc (Obj.cells #[.int .i64 x.sym, .string x.fld, .string x.als, .int .i64 y.sym, .string y.fld, .string y.als] t)) := by
  intro i z hi
  refine ⟨w.heap.size, 0, rfl, by simp, ?_⟩
  match i, hi with
  | 0, hi => simp at hi; subst hi; exact ⟨by simp, by simp, by simp, hx⟩
  | 1, hi => simp at hi; subst hi; exact ⟨by simp, by simp, by simp, hy⟩
theorem its1 (x : It) (w : World) (t : TypeId) (hx : i64B x.sym ∧ x.fld.size ≤ 9223372036854775807 ∧ x.als.size ≤ 9223372036854775807) :
    ItsAt [x] (some ⟨w.heap.size, 0, none⟩) (w.alloc (Obj.cells #[.int .i64 x.sym, .string x.fld, .string x.als] t)) := by
  intro i z hi
  refine ⟨w.heap.size, 0, rfl, by simp, ?_⟩
  match i, hi with
  | 0, hi => simp at hi; subst hi; exact ⟨by simp, by simp, by simp, hx⟩
theorem itA_ok (s : Int) (h : i64B s) : i64B (itA s).sym ∧ (itA s).fld.size ≤ 9223372036854775807 ∧ (itA s).als.size ≤ 9223372036854775807 := ⟨h, by simp [itA, ByteArray.size], by simp [itA, ByteArray.size]⟩
theorem row1 {α : Type} (enc : α → Value) (x : α) (w : World) (t : TypeId) : RowAt enc [x] (some ⟨w.heap.size, 0, none⟩) (w.alloc (Obj.cells #[enc x] t)) := by
  intro i z hi
  refine ⟨w.heap.size, 0, rfl, by simp, ?_⟩
  match i, hi with
  | 0, hi => simp at hi; subst hi; simp
def wE1 (w : World) : World := w.alloc (Obj.cells #[.string (bx 120), .string (bx 121)] 9)
def wE2 (w : World) : World := (wE1 w).alloc (Obj.cells #[.string (bx 97)] 9)
def wE3 (w : World) : World := (wE2 w).alloc (Obj.cells #[.int .i64 0, .string ⟨#[]⟩, .string ⟨#[]⟩, .int .i64 2, .string ⟨#[]⟩, .string ⟨#[]⟩] 56)
def wE4 (w : World) : World := (wE3 w).alloc (Obj.cells #[.int .i64 1, .string ⟨#[]⟩, .string ⟨#[]⟩] 56)
def wE5 (w : World) : World := (wE4 w).alloc (Obj.cells #[.int .i64 2, .slice (some ⟨w.heap.size + 1 + 1, 0, none⟩) 2 2, .int .i64 0, .int .i64 2, .slice (some ⟨w.heap.size + 1 + 1 + 1, 0, none⟩) 1 1, .int .i64 0] 54)
def aE (n : Nat) : FlA := ⟨some ⟨n, 0, none⟩, 2, some ⟨n + 1, 0, none⟩, 1, some ⟨n + 1 + 1 + 1 + 1, 0, none⟩, 2⟩
theorem sz1 (w : World) : (wE1 w).heap.size = w.heap.size + 1 := by simp [wE1]
theorem sz2 (w : World) : (wE2 w).heap.size = w.heap.size + 1 + 1 := by simp [wE2, sz1]
theorem sz3 (w : World) : (wE3 w).heap.size = w.heap.size + 1 + 1 + 1 := by simp [wE3, sz2]
theorem sz4 (w : World) : (wE4 w).heap.size = w.heap.size + 1 + 1 + 1 + 1 := by simp [wE4, sz3]
theorem below_new (w : World) (o : Obj) : Below w.heap.size w (w.alloc o) := (Below.refl _ _).alloc (Nat.le_refl _) _
theorem flE (w : World) : FlAt fE (aE w.heap.size) (wE5 w) := by
  have b2 : Below (wE1 w).heap.size (wE1 w) (wE2 w) := below_new _ _
  have b3 : Below (wE2 w).heap.size (wE2 w) (wE3 w) := below_new _ _
  have b4 : Below (wE3 w).heap.size (wE3 w) (wE4 w) := below_new _ _
  have b5 : Below (wE4 w).heap.size (wE4 w) (wE5 w) := below_new _ _
  have r1 : RowAt Value.string [bx 120, bx 121] (some ⟨w.heap.size, 0, none⟩) (wE5 w) := ((((row2 Value.string (bx 120) (bx 121) w _ : RowAt _ _ _ (wE1 w)).next b2).next b3).next b4).next b5
  have r2 : RowAt Value.string [bx 97] (some ⟨w.heap.size + 1, 0, none⟩) (wE5 w) := by
    have := row1 Value.string (bx 97) (wE1 w) 9
    rw [sz1] at this
    exact (((this : RowAt _ _ _ (wE2 w)).next b3).next b4).next b5
  have i1 : ItsAt [itA 0, itA 2] (some ⟨w.heap.size + 1 + 1, 0, none⟩) (wE5 w) := by
    have := its2 (itA 0) (itA 2) (wE2 w) 56 (itA_ok 0 (by unfold i64B; omega)) (itA_ok 2 (by unfold i64B; omega))
    rw [sz2] at this
    exact ((this : ItsAt _ _ (wE3 w)).next b4).next b5
  have i2 : ItsAt [itA 1] (some ⟨w.heap.size + 1 + 1 + 1, 0, none⟩) (wE5 w) := by
    have := its1 (itA 1) (wE3 w) 56 (itA_ok 1 (by unfold i64B; omega))
    rw [sz3] at this
    exact (this : ItsAt _ _ (wE4 w)).next b5
  have pr : PrsAt fE.prods (some ⟨w.heap.size + 1 + 1 + 1 + 1, 0, none⟩) (wE5 w) := by
    intro i p hi
    have hs := sz4 w
    refine ⟨w.heap.size + 1 + 1 + 1 + 1, 0, ?_⟩
    have hsz : w.heap.size + 1 + 1 + 1 + 1 < (wE5 w).heap.size := by simp [wE5, sz4]
    match i, hi with
    | 0, hi =>
      simp [fE] at hi; subst hi
      refine ⟨.slice (some ⟨w.heap.size + 1 + 1, 0, none⟩) 2 2, rfl, hsz, ?_, ?_, ?_, ⟨_, 2, rfl, i1, (fun h => by cases h), Nat.le_refl _, by omega⟩, by unfold i64B; simp, by unfold i64B; simp⟩ <;> (rw [← hs]; simp [wE5])
    | 1, hi =>
      simp [fE] at hi; subst hi
      refine ⟨.slice (some ⟨w.heap.size + 1 + 1 + 1, 0, none⟩) 1 1, rfl, hsz, ?_, ?_, ?_, ⟨_, 1, rfl, i2, (fun h => by cases h), Nat.le_refl _, by omega⟩, by unfold i64B; simp, by unfold i64B; simp⟩ <;> (rw [← hs]; simp [wE5])
    | i + 2, hi => simp [fE] at hi
  exact ⟨r1, r2, pr, by decide, by decide, by decide, (show 2 ≤ 2 from Nat.le_refl _), fun h => by cases h⟩
theorem fitB_E : fitB fE = true := by decide
end Go.Proofs.YtlaplmmicccbcaaGreatDoor
