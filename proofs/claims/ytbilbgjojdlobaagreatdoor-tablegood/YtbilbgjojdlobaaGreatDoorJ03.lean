/- Rounds over the productions, till as many in a row as there are have changed nothing. -/
import Derived.Test.YtbilbgjojdlobaaGreatDoorJ01
import Derived.Test.YtbilbgjojdlobaaGreatDoorJ02
import Derived.Sort.LoopGhostIn
import Derived.Maps.OwnSet
import Derived.Maps.Views
import Derived.DeepKeys4
import Derived.Laws.IdiomStrings
import Derived.Lib.Builder
import Derived.Deep.Cut
namespace Go.Proofs.YtbilbgjojdlobaaGreatDoor
open Go.RowKit Go.Shelf
attribute [local go_sem] Oper.semAt_some

/-- A world turned in these blocks alone. -/
structure But (D : Nat → Prop) (w w' : World) : Prop where
  os : w'.os = w.os
  tape : w'.tape = w.tape
  output : w'.output = w.output
  size : w.heap.size ≤ w'.heap.size
  block : ∀ k, k < w.heap.size → ¬ D k → w'.heap[k]? = w.heap[k]?
theorem But.refl (D : Nat → Prop) (w : World) : But D w w := ⟨rfl, rfl, rfl, Nat.le_refl _, fun _ _ _ => rfl⟩
theorem But.trans {D : Nat → Prop} {a b c : World} (h : But D a b) (k : But D b c) : But D a c :=
  ⟨k.os.trans h.os, k.tape.trans h.tape, k.output.trans h.output, Nat.le_trans h.size k.size, fun i hi hd => (k.block i (Nat.lt_of_lt_of_le hi h.size) hd).trans (h.block i hi hd)⟩
theorem But.mono {D E : Nat → Prop} {a b : World} (h : But D a b) (hd : ∀ k, k < a.heap.size → D k → E k) : But E a b :=
  ⟨h.os, h.tape, h.output, h.size, fun k hk he => h.block k hk (fun hD => he (hd k hk hD))⟩
theorem But.of_below {n : Nat} {a b : World} (h : Below n a b) : But (fun k => n ≤ k) a b := ⟨h.os, h.tape, h.output, h.size, fun k _ hd => h.block k (by omega)⟩
theorem But.of_next {D : Nat → Prop} {a b : World} (h : Below a.heap.size a b) : But D a b := ⟨h.os, h.tape, h.output, h.size, fun k hk _ => h.block k hk⟩
theorem But.below {n : Nat} {D : Nat → Prop} {a b : World} (h : But D a b) (hn : n ≤ a.heap.size) (hd : ∀ k, D k → n ≤ k) : Below n a b :=
  ⟨h.os, h.tape, h.output, h.size, fun k hk => h.block k (by omega) (fun hD => by have := hd k hD; omega)⟩
theorem But.cell {D : Nat → Prop} {a b : World} (h : But D a b) {p : Addr} (hp : p.block < a.heap.size) (hd : ¬ D p.block) : b.cell? p = a.cell? p := World.cell?_of_block (h.block _ hp hd)
theorem But.frozen {D : Nat → Prop} {a b : World} (h : But D a b) {p : Addr} (hp : p.block < a.heap.size) (hd : ¬ D p.block) : b.frozen? p = a.frozen? p := World.frozen?_of_block (h.block _ hp hd)
theorem But.keeps {D : Nat → Prop} {a b : World} (h : But D a b) {B : Nat} (hd : ∀ k, D k → k < B) : KeepsFrom B a b :=
  ⟨h.size, fun k o hB hk _ => (h.block k (Array.getElem?_eq_some_iff.1 hk).1 (fun hD => by have := hd k hD; omega)).trans hk⟩
theorem But.kpC {D E : Nat → Prop} {a b : World} (h : But D a b) (hd : ∀ k, E k → ¬ D k) : KpC E a b := fun ad v he hv => by
  obtain ⟨o, ho, _⟩ := cells_of_cell hv
  rw [h.cell (Array.getElem?_eq_some_iff.1 ho).1 (hd _ he)]; exact hv

theorem But.drew {D : Nat → Prop} {a b : World} (h : But D a b) : But D a b.drew := ⟨h.os, h.tape, h.output, h.size, h.block⟩
theorem But.drewN {D : Nat → Prop} {a b : World} (h : But D a b) (n : Nat) : But D a (b.drewN n) := ⟨h.os, h.tape, h.output, h.size, h.block⟩
/-- Closed at production i, where c rounds in a row up to place j have changed nothing. -/
def LastC (n j c i : Nat) : Prop := (i < j ∧ j - i ≤ c) ∨ (j ≤ i ∧ j + n - i ≤ c)

def mark (d : Nat) : Deferred := { target := .collected d, args := #[] }
/-- Blocks for deferred calls that hold none, one for each loop that is over. -/
def Mk (B : Nat) (Ds : List Nat) (W : World) : Prop := Ds.Nodup ∧ ∀ d ∈ Ds, B ≤ d ∧ W.heap[d]? = some (.deferred (some []))
theorem leaves_marks {F : Fence} {n : Nat} {P : Program} {fn : Func} {tmps : Array Value} {B : Nat} {Rw : World → Prop} (hres : ∀ W, ∃ v, (results fn tmps).run P W = .ok v W)
    (hR : ∀ W d, B ≤ d → W.heap[d]? = some (.deferred (some [])) → Rw W → Rw (W.putObj d (.deferred none))) :
    ∀ (Ds : List Nat) (W : World), Mk B Ds W → Rw W → LeavesInM F n P fn tmps (fun e W' => (∃ v, e = .returned v) ∧ Rw W') (Ds.map mark) .returning W
  | [], W, _, h => by
    obtain ⟨v, hv⟩ := hres W
    exact ⟨v, hv, ⟨_, rfl⟩, h⟩
  | d :: Ds, W, hM, h => by
    obtain ⟨hB, hd⟩ := hM.2 d (by simp)
    have hn := List.nodup_cons.1 hM.1
    refine ⟨by simp, .inl ⟨d, _, rfl, run_takeDeferred hd, ?_⟩⟩
    refine leaves_marks hres hR Ds _ ⟨hn.2, fun e he => ?_⟩ (hR W d hB hd h)
    have := hM.2 e (by simp [he])
    exact ⟨this.1, (World.putObj_heap_other (fun h' => hn.1 (by rw [← h']; exact he))).trans this.2⟩

/-- The cells of settle's own variables. -/
structure SC (M : Nat) (v0 v1 v2 v3 : Value) (c : Nat) (W : World) : Prop where
  f0 : W.cell? ⟨M, 0, none⟩ = some v0
  f1 : W.cell? ⟨M, 1, none⟩ = some v1
  f2 : W.cell? ⟨M, 2, none⟩ = some v2
  g0 : W.cell? ⟨M + 1, 0, none⟩ = some v3
  st : W.cell? ⟨M + 1 + 1, 0, none⟩ = some (.int .i64 c)
  fz : W.frozen? ⟨M + 1 + 1, 0, none⟩ = false
theorem SC.lt {M v0 v1 v2 v3 c W} (h : SC M v0 v1 v2 v3 c W) : M + 1 + 1 < W.heap.size := World.block_lt_of_cell? W _ h.st
theorem SC.kept {M v0 v1 v2 v3 c W W'} {row : Option Nat} (h : SC M v0 v1 v2 v3 c W) (hg : W.grownBy W' row) (hr : ∀ r, row = some r → ∃ o : Obj, W.heap[r]? = some o ∧ o.isCells = false) : SC M v0 v1 v2 v3 c W' :=
  ⟨cell_kept h.f0 hg hr, cell_kept h.f1 hg hr, cell_kept h.f2 hg hr, cell_kept h.g0 hg hr, cell_kept h.st hg hr, (frozen_kept h.st hg hr).trans h.fz⟩
theorem SC.but {M v0 v1 v2 v3 c W W'} {D : Nat → Prop} (h : SC M v0 v1 v2 v3 c W) (hb : But D W W') (hD : ∀ k, D k → k < M) : SC M v0 v1 v2 v3 c W' := by
  have hl := h.lt
  have e : ∀ {k o v}, M ≤ k → k ≤ M + 1 + 1 → W.cell? ⟨k, o, none⟩ = some v → W'.cell? ⟨k, o, none⟩ = some v := fun {k o v} h1 h2 hv => (hb.cell (p := ⟨k, o, none⟩) (by show k < _; omega) (fun hd => by have := hD _ hd; simp only at this; omega)).trans hv
  exact ⟨e (by omega) (by omega) h.f0, e (by omega) (by omega) h.f1, e (by omega) (by omega) h.f2, e (by omega) (by omega) h.g0, e (by omega) (by omega) h.st, (hb.frozen (p := ⟨M + 1 + 1, 0, none⟩) hl (fun hd => by have := hD _ hd; simp only at this; omega)).trans h.fz⟩
theorem SC.set {M v0 v1 v2 v3 c W} (h : SC M v0 v1 v2 v3 c W) (c' : Nat) : SC M v0 v1 v2 v3 c' (W.setCell ⟨M + 1 + 1, 0, none⟩ (.int .i64 c')) := by
  have o : ∀ {k o v}, k ≠ M + 1 + 1 → W.cell? ⟨k, o, none⟩ = some v → (W.setCell ⟨M + 1 + 1, 0, none⟩ (.int .i64 c')).cell? ⟨k, o, none⟩ = some v := fun {k o v} hk hv => (World.cell?_of_block (w := W) (Below.heap_setCell W ⟨M + 1 + 1, 0, none⟩ _ k hk)).trans hv
  exact ⟨o (by omega) h.f0, o (by omega) h.f1, o (by omega) h.f2, o (by omega) h.g0, World.cell?_setCell_same _ _ _ h.st, by rw [World.frozen?_setCell]; exact h.fz⟩
theorem But.setCell {D : Nat → Prop} {a b : World} (h : But D a b) (p : Addr) (v : Value) (hp : a.heap.size ≤ p.block ∨ D p.block) : But D a (b.setCell p v) :=
  ⟨h.os, h.tape, h.output, by simpa using h.size, fun k hk hd => (Below.heap_setCell b p v k (fun e => by rcases hp with h1 | h1; omega; exact hd (e ▸ h1))).trans (h.block k hk hd)⟩
theorem But.grown {D : Nat → Prop} {a b c : World} (h : But D a b) {row : Option Nat} (hg : b.grownBy c row) (hr : ∀ r, row = some r → a.heap.size ≤ r) : But D a c :=
  ⟨hg.os.trans h.os, hg.tape.trans h.tape, hg.output.trans h.output, Nat.le_trans h.size hg.size, fun k hk hd => (hg.block k (Nat.lt_of_lt_of_le hk h.size) (fun e => by have := hr k e.symm; omega)).trans (h.block k hk hd)⟩
theorem Mk.grown {B : Nat} {Ds : List Nat} {W W' : World} {row : Option Nat} (h : Mk B Ds W) (hg : W.grownBy W' row) (hr : ∀ r, row = some r → ∀ d ∈ Ds, d ≠ r) : Mk B Ds W' :=
  ⟨h.1, fun d hd => ⟨(h.2 d hd).1, (hg.block d (Array.getElem?_eq_some_iff.1 (h.2 d hd).2).1 (fun e => hr d e.symm d hd rfl)).trans (h.2 d hd).2⟩⟩
theorem Mk.but {B : Nat} {Ds : List Nat} {W W' : World} {D : Nat → Prop} (h : Mk B Ds W) (hb : But D W W') (hD : ∀ k, D k → k < B) : Mk B Ds W' :=
  ⟨h.1, fun d hd => ⟨(h.2 d hd).1, (hb.block d (Array.getElem?_eq_some_iff.1 (h.2 d hd).2).1 (fun e => by have := hD d e; have := (h.2 d hd).1; omega)).trans (h.2 d hd).2⟩⟩
theorem Mk.lt {B : Nat} {Ds : List Nat} {W : World} (h : Mk B Ds W) : ∀ d ∈ Ds, d < W.heap.size := fun d hd => (Array.getElem?_eq_some_iff.1 (h.2 d hd).2).1
theorem wrap_succ {c N : Nat} (h : c < N) (hN : N ≤ 400) : wrap64 ((c : Int) + 1) = c + 1 := IntWalk.wrap64_in _ (by omega)
theorem succ_dec {c N : Nat} : (((c + 1 : Nat) : Int) == (N : Int)) = decide (c + 1 = N) := by
  rw [Bool.eq_iff_iff]; simp; omega
theorem LastC.all {n c i : Nat} (hc : n ≤ c) (j : Nat) (hj : j ≤ n) (_hi : i < n) : LastC n j c i := by unfold LastC; omega
theorem LastC.zero {n j i : Nat} (hi : i < n) (h : LastC n j 0 i) : False := by unfold LastC at h; omega
theorem LastC.step {n j c i : Nat} (_hi : i < n) (h : LastC n (j + 1) (c + 1) i) : i = j ∨ LastC n j c i := by unfold LastC at *; omega
theorem LastC.wrap {n c i : Nat} (h : LastC n 0 c i) (hi : i < n) : LastC n n c i := by unfold LastC at *; omega

set_option maxRecDepth 100000 in
set_option maxHeartbeats 2000000 in
theorem settle_in {σ : Type} (n : Nat) (hn : 6 ≤ n) (f : Fl) (a : FlA) (g : Nat) (lb : Array Value) (eg : ∀ args w, (callFunc g args).run Tryz.prog w = .ok (.enter g args) w) (S : σ → World → Prop) (D : Nat → Prop) (μ : σ → Nat) (Cl : Nat → σ → Prop)
    (w : World) (hp : FitP f) (hfl : ∀ s W, S s W → FlAt f a W) (hS : ∀ s W W', S s W → Below w.heap.size W W' → S s W') (hD : ∀ k, D k → k < w.heap.size) (hDa : 0 < f.prods.length → ∀ ad, a.pa = some ad → ¬ D ad.block)
    (hg : ∀ (j : Nat) (hj : j < f.prods.length) (s : σ) (W : World) (v : Value), S s W → SlT f.prods[j].right v W → w.heap.size ≤ W.heap.size → (∃ pb off, a.pa = some ⟨pb, off, none⟩ ∧ w.cell? ⟨pb, off + j * 3 + 1, none⟩ = some v) → Calls Tryz.prog g (#[.int .i64 f.prods[j].left, v] ++ lb) W fun e W' => ∃ s' b, e = .returned (.bool b) ∧ S s' W' ∧ But D W W' ∧ (b = true → μ s' < μ s) ∧ (b = false → s' = s ∧ Cl j s))
    (s0 : σ) (h0 : S s0 w) :
    CallsIn Fence.wide n Tryz.prog 147 #[a.val f, .func (.func g) #[] lb] w fun e W' => (∃ v, e = .returned v) ∧ ∃ s, S s W' ∧ (∀ j, j < f.prods.length → Cl j s) ∧ But D w W' := by
  obtain ⟨ta, tc, na, nc, pa, pc⟩ := a
  -- the productions' cells, as they lie all along
  have HQ : Hid (0 < f.prods.length → ∃ (pb off : Nat) (q : Nat → (Int × Int) × Option Addr × Nat × Nat), pa = some ⟨pb, off, none⟩ ∧ pb < w.heap.size ∧ ∀ x, ∃ (j : Nat) (hj : j < f.prods.length), (x < f.prods.length → j = x) ∧
      w.cell? ⟨pb, off + j * 3, none⟩ = some (.int .i64 (q x).1.1) ∧ w.cell? ⟨pb, off + j * 3 + 1, none⟩ = some (.slice (q x).2.1 (q x).2.2.1 (q x).2.2.2) ∧ w.cell? ⟨pb, off + j * 3 + 2, none⟩ = some (.int .i64 (q x).1.2) ∧ (q x).1.1 = f.prods[j].left) := fun hpos => by
    obtain ⟨_, _, h2, _⟩ := hfl _ _ h0
    obtain ⟨pb, off, _, hpa, hpb, _⟩ := h2 0 _ (List.getElem?_eq_getElem hpos)
    simp only at hpa
    have hall : ∀ x : Nat, ∃ q : (Int × Int) × Option Addr × Nat × Nat, ∃ (j : Nat) (hj : j < f.prods.length), (x < f.prods.length → j = x) ∧
      w.cell? ⟨pb, off + j * 3, none⟩ = some (.int .i64 q.1.1) ∧ w.cell? ⟨pb, off + j * 3 + 1, none⟩ = some (.slice q.2.1 q.2.2.1 q.2.2.2) ∧ w.cell? ⟨pb, off + j * 3 + 2, none⟩ = some (.int .i64 q.1.2) ∧ q.1.1 = f.prods[j].left := fun x => by
      have key : ∀ j, (hj : j < f.prods.length) → ∃ q : (Int × Int) × Option Addr × Nat × Nat, w.cell? ⟨pb, off + j * 3, none⟩ = some (.int .i64 q.1.1) ∧ w.cell? ⟨pb, off + j * 3 + 1, none⟩ = some (.slice q.2.1 q.2.2.1 q.2.2.2) ∧ w.cell? ⟨pb, off + j * 3 + 2, none⟩ = some (.int .i64 q.1.2) ∧ q.1.1 = f.prods[j].left := fun j hj => by
        obtain ⟨b, o, v, e, _, k0, k1, k2, hv, _⟩ := h2 j _ (List.getElem?_eq_getElem hj)
        obtain ⟨ra, rc, rfl, _⟩ := hv
        simp only at e
        rw [hpa] at e
        cases e
        exact ⟨((f.prods[j].left, f.prods[j].prec), ra, f.prods[j].right.length, rc), k0, k1, k2, rfl⟩
      by_cases hx : x < f.prods.length
      · obtain ⟨q, hq⟩ := key x hx
        exact ⟨q, x, hx, fun _ => rfl, hq⟩
      · obtain ⟨q, hq⟩ := key 0 hpos
        exact ⟨q, 0, hpos, fun h => absurd h hx, hq⟩
    obtain ⟨q, hq⟩ := Classical.axiomOfChoice hall
    exact ⟨pb, off, q, hpa, hpb, hq⟩
  have HSL : Hid (∀ (pb off : Nat), pa = some ⟨pb, off, none⟩ → ∀ (j : Nat) (hj : j < f.prods.length) (v : Value) (s : σ) (W : World), w.cell? ⟨pb, off + j * 3 + 1, none⟩ = some v → S s W → But D w W → SlT f.prods[j].right v W) := fun pb off hpa j hj v s W hv hs hB => by
    obtain ⟨_, _, h2, _⟩ := hfl _ _ hs
    obtain ⟨b, o, v', e, _, _, k1, _, hv', _⟩ := h2 j _ (List.getElem?_eq_getElem hj)
    simp only at e
    rw [hpa] at e
    cases e
    rw [hB.cell (p := ⟨pb, off + j * 3 + 1, none⟩) (World.block_lt_of_cell? w _ hv) (by have := hDa (by omega) _ hpa; exact this), hv] at k1
    cases k1
    exact hv'
  have HS : Hid (∀ s W W', S s W → Below w.heap.size W W' → S s W') := hS
  have HD : Hid (∀ k, D k → k < w.heap.size) := hD
  have HDA : Hid (0 < f.prods.length → ∀ ad, pa = some ad → ¬ D ad.block) := hDa
  have HGR : Hid (∀ (j : Nat) (hj : j < f.prods.length) (s : σ) (W : World) (v : Value), S s W → SlT f.prods[j].right v W → w.heap.size ≤ W.heap.size → (∃ pb off, pa = some ⟨pb, off, none⟩ ∧ w.cell? ⟨pb, off + j * 3 + 1, none⟩ = some v) → Calls Tryz.prog g (#[.int .i64 f.prods[j].left, v] ++ lb) W fun e W' => ∃ s' b, e = .returned (.bool b) ∧ S s' W' ∧ But D W W' ∧ (b = true → μ s' < μ s) ∧ (b = false → s' = s ∧ Cl j s)) := hg
  have HPR : Hid (∀ W, Calls Tryz.prog 170 #[.agg #[.slice ta f.terms.length tc, .slice na f.nons.length nc, .slice pa f.prods.length pc]] W fun e w' => e = .returned (.func (.func 193) #[] #[.pointer (some ⟨W.heap.size, 0, none⟩)]) ∧ w' = W.alloc (Obj.cells #[.slice ta f.terms.length tc, .slice na f.nons.length nc, .slice pa f.prods.length pc] 25)) := fun W => prods_any f ⟨ta, tc, na, nc, pa, pc⟩ W
  have hN4 := hp.prods
  have h1 : 1 ≤ n := by omega
  unfold FlA.val
  simp only
  clear hfl hg hS hD hDa hp
  refine callsIn_of_wp_marks Tryz.func147 rfl trivial ?_ rfl
  simp only [Tryz.ntmps147, List.size_toArray, List.length_cons, List.length_nil, Nat.reduceAdd, Nat.reduceSub, Array.replicate_succ, Array.replicate_zero, List.push_toArray, List.append_toArray, List.nil_append, List.cons_append]
  gi_wp2
  refine wpIn_scope_wide ?_
  gi_wp2
  refine wpIn_label ?_
  gi_wp2
  refine wpIn_loop_ghost (fun m a' W => ∃ (t7 t8 t9 t10 t11 t12 : Value) (Ds : List Nat) (s : σ) (c : Nat), a' = { tmps := #[Value.agg #[.slice ta f.terms.length tc, .slice na f.nons.length nc, .slice pa f.prods.length pc], .func (.func g) #[] lb, .pointer (some ⟨w.heap.size, 0, none⟩), .pointer (some ⟨w.heap.size + 1, 0, none⟩), .pointer (some ⟨w.heap.size + 1 + 1, 0, none⟩), undef, undef, t7, t8, t9, t10, t11, t12, undef, undef, undef, undef, undef, undef, undef, undef, undef, undef, undef, undef, undef], defers := Ds.map mark } ∧ m = μ s ∧ Mk w.heap.size Ds W ∧ S s W ∧ SC w.heap.size (.slice ta f.terms.length tc) (.slice na f.nons.length nc) (.slice pa f.prods.length pc) (.func (.func g) #[] lb) c W ∧ But D w W ∧ (c = 0 ∨ c < f.prods.length) ∧ ∀ i, i < f.prods.length → LastC f.prods.length 0 c i → Cl i s) (μ s0) ?start ?round
  case start =>
    have hb : Below w.heap.size w (((w.alloc (Obj.cells #[.slice ta f.terms.length tc, .slice na f.nons.length nc, .slice pa f.prods.length pc] 25)).alloc (Obj.cells #[Value.func (Fn.func g) #[] lb] 203)).alloc (Obj.cells #[Value.int IntKind.i64 0] 3)) := (((Below.refl _ _).alloc (Nat.le_refl _) _).alloc (by simp) _).alloc (by simp <;> omega) _
    refine ⟨undef, undef, undef, undef, undef, undef, [], s0, 0, rfl, rfl, ⟨List.nodup_nil, by simp⟩, HS.out _ _ _ h0 hb, ?_, But.of_next hb, .inl rfl, fun i hi h => (h.zero hi).elim⟩
    constructor <;> go_simp
  case round =>
    clear h0
    rintro m a' W ⟨t7, t8, t9, t10, t11, t12, Ds, s, c, rfl, rfl, hM, hs, hC, hB, hc, hcl⟩
    have HE : Hid (∀ W d, w.heap.size ≤ d → W.heap[d]? = some (.deferred (some [])) → (∃ s, S s W ∧ (∀ j, j < f.prods.length → Cl j s) ∧ But D w W) → (∃ s, S s (W.putObj d (.deferred none)) ∧ (∀ j, j < f.prods.length → Cl j s) ∧ But D w (W.putObj d (.deferred none)))) := fun W d hd hh ⟨s, h1, h2, h3⟩ =>
      ⟨s, HS.out _ _ _ h1 ((Below.refl _ W).grown (grownBy_putObj' W d _) (Nat.le_trans h3.size (Nat.le_refl _)) (fun k e => by cases e; exact hd)), h2, h3.grown (grownBy_putObj' W d _) (fun r e => by cases e; exact hd)⟩
    by_cases hN : f.prods.length = 0
    · obtain ⟨c0, c1, c2, c3, c4, c5⟩ := hC
      have HF : Hid (∃ s, S s W ∧ (∀ j, j < f.prods.length → Cl j s) ∧ But D w W) := ⟨s, hs, fun j hj => by omega, hB⟩
      rw [hN] at c2 ⊢
      gi_wp2
      exact leaves_marks (fun W => ⟨_, results_none rfl _ _ _⟩) HE.out Ds W hM HF.out
    · obtain ⟨pb, off, q, rfl, hpb, hq⟩ := HQ.out (by omega)
      clear HQ
      have hCl := hC.lt
      have hB' : Below W.heap.size W (W.alloc (Obj.cells #[.slice ta f.terms.length tc, .slice na f.nons.length nc, .slice (some ⟨pb, off, none⟩) f.prods.length pc] 25)) := (Below.refl _ _).alloc (Nat.le_refl _) _
      have hcells : ∀ j, j < f.prods.length → (W.alloc (Obj.cells #[.slice ta f.terms.length tc, .slice na f.nons.length nc, .slice (some ⟨pb, off, none⟩) f.prods.length pc] 25)).cell? ⟨pb, off + j * 3, none⟩ = some (.int .i64 (q j).1.1) ∧ (W.alloc (Obj.cells #[.slice ta f.terms.length tc, .slice na f.nons.length nc, .slice (some ⟨pb, off, none⟩) f.prods.length pc] 25)).cell? ⟨pb, off + j * 3 + 1, none⟩ = some (.slice (q j).2.1 (q j).2.2.1 (q j).2.2.2) ∧ (W.alloc (Obj.cells #[.slice ta f.terms.length tc, .slice na f.nons.length nc, .slice (some ⟨pb, off, none⟩) f.prods.length pc] 25)).cell? ⟨pb, off + j * 3 + 2, none⟩ = some (.int .i64 (q j).1.2) := fun j hj => by
        obtain ⟨i, hi, hij, k0, k1, k2, _⟩ := hq j
        have := hij hj
        subst this
        have hd := HDA.out (by omega) _ rfl
        have hz := hB.size
        have e : ∀ {o v}, w.cell? ⟨pb, o, none⟩ = some v → (W.alloc (Obj.cells #[.slice ta f.terms.length tc, .slice na f.nons.length nc, .slice (some ⟨pb, off, none⟩) f.prods.length pc] 25)).cell? ⟨pb, o, none⟩ = some v := fun {o v} h => (hB'.cell (p := ⟨pb, o, none⟩) (by show pb < _; omega)).trans ((hB.cell (p := ⟨pb, o, none⟩) hpb hd).trans h)
        exact ⟨e k0, e k1, e k2⟩
      have hbox : (W.alloc (Obj.cells #[.slice ta f.terms.length tc, .slice na f.nons.length nc, .slice (some ⟨pb, off, none⟩) f.prods.length pc] 25)).cell? ⟨W.heap.size, 2, none⟩ = some (.slice (some ⟨pb, off, none⟩) f.prods.length pc) := by simp
      have hC0 := hC.kept (World.grownBy_alloc W (Obj.cells #[.slice ta f.terms.length tc, .slice na f.nons.length nc, .slice (some ⟨pb, off, none⟩) f.prods.length pc] 25) none) (fun _ e => by cases e)
      have hM0 := hM.grown (World.grownBy_alloc W (Obj.cells #[.slice ta f.terms.length tc, .slice na f.nons.length nc, .slice (some ⟨pb, off, none⟩) f.prods.length pc] 25) none) (fun _ e => by cases e)
      have hB0 := hB.grown (World.grownBy_alloc W (Obj.cells #[.slice ta f.terms.length tc, .slice na f.nons.length nc, .slice (some ⟨pb, off, none⟩) f.prods.length pc] 25) none) (fun _ e => by cases e)
      have hs0 := HS.out _ _ _ hs (hB'.mono hB.size)
      have hDs : ∀ d ∈ Ds, d < W.heap.size := hM.lt
      have hsz : (W.alloc (Obj.cells #[.slice ta f.terms.length tc, .slice na f.nons.length nc, .slice (some ⟨pb, off, none⟩) f.prods.length pc] 25)).heap.size = W.heap.size + 1 := by simp
      have hwz := hB.size
      obtain ⟨c0, c1, c2, c3, c4, c5⟩ := hC
      have hpos : (0 : Int) < f.prods.length := by omega
      clear hM hs hB hB'
      gi_wp2_with fail
      refine ⟨trivial, ?_⟩
      refine (callsIn_wide.2 (HPR.out _)).mono ?_
      rintro e w1 ⟨rfl, rfl⟩
      clear c0 c1 c2 c3 c4 c5
      generalize (W.alloc (Obj.cells #[.slice ta f.terms.length tc, .slice na f.nons.length nc, .slice (some ⟨pb, off, none⟩) f.prods.length pc] 25)) = W0 at *
      gi_wp2
      have hcN : c < f.prods.length := by omega
      refine wpIn_rangeFunc_ownH (α := Nat) rfl h1 (gf := 193) (lb := #[.pointer (some ⟨W.heap.size, 0, none⟩)]) rfl trivial (enters_of Tryz.func193 (by kernel_rfl) rfl)
        (prods_stops (n - 1) (by omega) W.heap.size pb off f.prods.length pc (fun x => (q x).1.1) (fun x => (q x).2.1) (fun x => (q x).2.2.1) (fun x => (q x).2.2.2) (fun x => (q x).1.2) hN4 W0 (by omega) (by omega) hbox hcells)
        KpC.trans (fun W l o o' _ h hc _ => KpC.putObj W l o o' h hc) (Below.refl _ _) (fun _ => rfl)
        (fun pre V => (∃ s2 c2, S s2 V ∧ SC w.heap.size (.slice ta f.terms.length tc) (.slice na f.nons.length nc) (.slice (some ⟨pb, off, none⟩) f.prods.length pc) (.func (.func g) #[] lb) c2 V ∧ c2 < f.prods.length ∧ (pre = List.range pre.length → (∀ i, i < f.prods.length → LastC f.prods.length pre.length c2 i → Cl i s2) ∧ (μ s2 < μ s ∨ (s2 = s ∧ c2 = c + pre.length)))) ∧ Mk w.heap.size Ds V ∧ But D w V)
        (fun cc pre V => (cc = .exit 0 ∧ ∃ s2, S s2 V ∧ (pre = List.range pre.length → ∀ i, i < f.prods.length → Cl i s2)) ∧ Mk w.heap.size Ds V ∧ But D w V)
        (fun pre A B row hs hg hr => ?_) (fun cc pre A B row hs hg hr => ?_)
        ⟨⟨s, c, hs0, hC0, hcN, fun _ => ⟨fun i hi h => hcl i hi (by simpa using h), .inr ⟨rfl, by simp⟩⟩⟩, hM0, hB0⟩
        (fun x a' V => a' = { tmps := #[Value.agg #[.slice ta f.terms.length tc, .slice na f.nons.length nc, .slice (some ⟨pb, off, none⟩) f.prods.length pc], .func (.func g) #[] lb, .pointer (some ⟨w.heap.size, 0, none⟩), .pointer (some ⟨w.heap.size + 1, 0, none⟩), .pointer (some ⟨w.heap.size + 1 + 1, 0, none⟩), .int .i64 (q x).1.1, .slice (q x).2.1 (q x).2.2.1 (q x).2.2.2, .pointer (some ⟨w.heap.size, 2, none⟩), .slice (some ⟨pb, off, none⟩) f.prods.length pc, .int .i64 f.prods.length, .bool true, Value.agg #[.slice ta f.terms.length tc, .slice na f.nons.length nc, .slice (some ⟨pb, off, none⟩) f.prods.length pc], .func (.func 193) #[] #[.pointer (some ⟨W.heap.size, 0, none⟩)], .int .i64 (q x).1.1, .slice (q x).2.1 (q x).2.2.1 (q x).2.2.2, undef, undef, undef, undef, undef, undef, undef, undef, undef, undef, undef], defers := [] })
        (fun x a' _ X Y row hs hg hr => hs)
        ?assign ?body ?done ?stop
      · obtain ⟨⟨s2, c2, k1, k2, k3, k4⟩, k5, k6⟩ := hs
        exact ⟨⟨s2, c2, HS.out _ _ _ k1 ((Below.refl _ A).grown hg k6.size (fun k e => by have := (hr k e).1; omega)), k2.kept hg (fun r e => (hr r e).2), k3, k4⟩, k5.grown hg (fun r e d hd => by have := (hr r e).1; have := hDs d hd; omega), k6.grown hg (fun r e => by have := (hr r e).1; omega)⟩
      · obtain ⟨⟨k0, s2, k1, k2⟩, k5, k6⟩ := hs
        exact ⟨⟨k0, s2, HS.out _ _ _ k1 ((Below.refl _ A).grown hg k6.size (fun k e => by have := (hr k e).1; omega)), k2⟩, k5.grown hg (fun r e d hd => by have := (hr r e).1; have := hDs d hd; omega), k6.grown hg (fun r e => by have := (hr r e).1; omega)⟩
      case assign =>
        rintro l pre x V K hI hK
        gi_wp2
        exact hK _ _ (KeepsFrom.refl _ _) (KpC.refl _ _) hI rfl
      case body =>
        rintro l pre x a' V hl hr ⟨⟨s2, c2, k1, k2, k3, k4⟩, k5, k6⟩ rfl hlt
        obtain ⟨j, hj, hjx, e0, e1, e2, e3⟩ := hq x
        have hcall := HGR.out j hj s2 V _ k1 (HSL.out pb off rfl j hj _ s2 V e1 k1 k6) k6.size ⟨pb, off, rfl, e1⟩
        have hDM : ∀ k, D k → k < w.heap.size := HD.out
        have hnd := HDA.out (by omega) _ rfl
        have hX : Hid (pre ++ [x] = List.range (pre ++ [x]).length → pre = List.range pre.length ∧ x = pre.length) := fun h => by
          rw [List.length_append, List.length_singleton, List.range_succ] at h
          have := List.append_inj' h rfl
          exact ⟨this.1, by simpa using this.2⟩
        obtain ⟨c0, c1, c2', c3, c4, c5⟩ := id k2
        have HK2 : Hid (∀ V2, But D V V2 → SC w.heap.size (.slice ta f.terms.length tc) (.slice na f.nons.length nc) (.slice (some ⟨pb, off, none⟩) f.prods.length pc) (.func (.func g) #[] lb) c2 V2) := fun V2 hb => k2.but hb hDM
        have hlV := k2.lt
        clear e0 e1 e2 hcells hbox k2 hq
        gi_wp2_with fail
        refine ⟨trivial, fun _ => by omega, ?_⟩
        refine (CallsIn.inRound l (callsIn_wide.2 hcall)).mono ?_
        rintro e V2 ⟨s3, b, rfl, g1, g2, g3, g4⟩
        have K3 := HK2.out _ g2
        have hM2 := k5.but g2 hDM
        have hB2 := k6.trans g2
        have hzz := g2.size
        clear c0 c1 c2' c3 c4 c5
        obtain ⟨c0, c1, c2', c3, c4, c5⟩ := id K3
        have HST : Hid (∀ c' : Nat, S s3 (V2.setCell ⟨w.heap.size + 1 + 1, 0, none⟩ (.int .i64 c')) ∧ KeepsFrom W0.heap.size V (V2.setCell ⟨w.heap.size + 1 + 1, 0, none⟩ (.int .i64 c')) ∧ KpC (fun k => k = W.heap.size ∨ k = pb) V (V2.setCell ⟨w.heap.size + 1 + 1, 0, none⟩ (.int .i64 c')) ∧ Mk w.heap.size Ds (V2.setCell ⟨w.heap.size + 1 + 1, 0, none⟩ (.int .i64 c')) ∧ But D w (V2.setCell ⟨w.heap.size + 1 + 1, 0, none⟩ (.int .i64 c')) ∧ SC w.heap.size (.slice ta f.terms.length tc) (.slice na f.nons.length nc) (.slice (some ⟨pb, off, none⟩) f.prods.length pc) (.func (.func g) #[] lb) c' (V2.setCell ⟨w.heap.size + 1 + 1, 0, none⟩ (.int .i64 c'))) := fun c' => by
          refine ⟨HS.out _ _ _ g1 ((Below.refl _ V2).setCell (p := ⟨w.heap.size + 1 + 1, 0, none⟩) (by show w.heap.size ≤ w.heap.size + 1 + 1; omega) _), (g2.keeps (fun k hk => by have := hDM k hk; omega)).trans ((KeepsOthers.setCell _ _ _).from _), ?_, ⟨hM2.1, fun d hd => ⟨(hM2.2 d hd).1, (KeepsOthers.setCell V2 ⟨w.heap.size + 1 + 1, 0, none⟩ _).same d _ (hM2.2 d hd).2 rfl⟩⟩, hB2.setCell _ _ (.inl (by show w.heap.size ≤ w.heap.size + 1 + 1; omega)), K3.set c'⟩
          refine (g2.kpC (E := fun k => k = W.heap.size ∨ k = pb) (fun k hk hd => ?_)).trans (fun ad v hk hv => ?_)
          · rcases hk with rfl | rfl
            · have := hDM _ hd; omega
            · exact hnd hd
          · exact (World.cell?_of_block (w := V2) (Below.heap_setCell V2 ⟨w.heap.size + 1 + 1, 0, none⟩ _ _ (by rcases hk with h | h <;> rw [h] <;> simp only [] <;> omega))).trans hv
        clear hM2 hB2 g1 HK2 hcall
        cases b with
        | true =>
          obtain ⟨z1, z2, z3, z4, z5, z6⟩ := HST.out 0
          have HR : Hid (μ s3 < μ s2) := g3 rfl
          have HK4 : Hid (pre = List.range pre.length → (∀ i, i < f.prods.length → LastC f.prods.length pre.length c2 i → Cl i s2) ∧ (μ s2 < μ s ∨ (s2 = s ∧ c2 = c + pre.length))) := k4
          clear k4 HST K3
          gi_wp2
          refine ⟨z2, z3, ⟨s3, 0, z1, z6, by omega, fun hx => ⟨fun i hi h => (h.zero hi).elim, .inl ?_⟩⟩, z4, z5⟩
          have h4 := (HK4.out (hX.out hx).1).2
          have h5 := HR.out
          rcases h4 with h4 | h4
          · omega
          · rw [h4.1] at h5; exact h5
        | false =>
          obtain ⟨rfl, hclj⟩ := g4 rfl
          obtain ⟨z1, z2, z3, z4, z5, z6⟩ := HST.out (c2 + 1)
          have HK4 : Hid (pre ++ [x] = List.range (pre ++ [x]).length → (∀ i, i < f.prods.length → LastC f.prods.length (pre ++ [x]).length (c2 + 1) i → Cl i s3) ∧ (μ s3 < μ s ∨ (s3 = s ∧ c2 + 1 = c + (pre ++ [x]).length))) := fun hx => by
            obtain ⟨hx1, hx2⟩ := hX.out hx
            obtain ⟨q1, q2⟩ := k4 hx1
            have hjx' : j = x := hjx (by omega)
            rw [List.length_append, List.length_singleton]
            refine ⟨fun i hi h => ?_, ?_⟩
            · rcases h.step hi with h' | h'
              · have : i = j := by omega
                subst this
                exact hclj
              · exact q1 i hi h'
            · rcases q2 with q2 | ⟨q2, q3⟩
              · exact .inl q2
              · exact .inr ⟨q2, by omega⟩
          have HPL : Hid ((pre ++ [x]).length ≤ f.prods.length) := by show _ ≤ _; simp; omega
          obtain ⟨z, hz⟩ : ∃ z : Int, wrap64 ((c2 : Int) + 1) = z := ⟨_, rfl⟩
          have hze : z = ((c2 + 1 : Nat) : Int) := by rw [← hz]; exact wrap_succ k3 hN4
          have hzn : (z == f.prods.length) = decide (c2 + 1 = f.prods.length) := by rw [hze]; exact succ_dec
          have HZE : Hid (((c2 + 1 : Nat) : Int) = z) := hze.symm
          rw [HZE.out] at z1 z2 z3 z4 z5 z6
          have HK3 : Hid (c2 < f.prods.length) := k3
          have HZ6 : Hid (SC w.heap.size (.slice ta f.terms.length tc) (.slice na f.nons.length nc) (.slice (some ⟨pb, off, none⟩) f.prods.length pc) (.func (.func g) #[] lb) (c2 + 1) (V2.setCell ⟨w.heap.size + 1 + 1, 0, none⟩ (.int .i64 z))) := by
            have := (HST.out (c2 + 1)).2.2.2.2.2
            rw [HZE.out] at this
            exact this
          clear k4 HST K3 g3 g4 hclj hze z6 k3
          by_cases hc2 : c2 + 1 = f.prods.length
          · have HZ : Hid (∀ j, j ≤ f.prods.length → ∀ i, i < f.prods.length → LastC f.prods.length j (c2 + 1) i) := fun j hj i hi => LastC.all (by omega) j hj hi
            have hce : (z == (f.prods.length : Int)) = true := by rw [hzn]; exact decide_eq_true hc2
            clear hc2 hzn
            gi_wp2
            exact ⟨z2, ⟨rfl, s3, z1, fun hx i hi => (HK4.out hx).1 i hi (HZ.out _ HPL.out i hi)⟩, z4, z5⟩
          · have hce : (z == (f.prods.length : Int)) = false := by rw [hzn]; exact decide_eq_false hc2
            have HZ : Hid (c2 + 1 < f.prods.length) := by have := HK3.out; show _ < _; omega
            clear hc2 hzn
            gi_wp2
            exact ⟨z2, z3, ⟨s3, c2 + 1, z1, HZ6.out, HZ.out, HK4.out⟩, z4, z5⟩
      case done =>
        rintro d xs V hd rfl ⟨⟨s2, c2, k1, k2, k3, k4⟩, k5, k6⟩ hK
        obtain ⟨q1, q2⟩ := k4 (by simp)
        rw [List.length_range] at q1 q2
        have hlt : μ s2 < μ s := by
          rcases q2 with h | ⟨h, h'⟩
          · exact h
          · omega
        have hMd : Mk w.heap.size (d :: Ds) V := ⟨List.nodup_cons.2 ⟨fun h => by have := hDs d h; omega, k5.1⟩, fun e he => by
          rcases List.mem_cons.1 he with rfl | he
          · exact ⟨by omega, hK⟩
          · exact k5.2 e he⟩
        have HQ1 : Hid (∀ i, i < f.prods.length → LastC f.prods.length 0 c2 i → Cl i s2) := fun i hi h => q1 i hi (h.wrap hi)
        clear q1 q2 k4 k5 hq HGR HSL HPR hcells
        gi_wp2
        exact ⟨μ s2, hlt, _, _, _, _, _, _, d :: Ds, s2, c2, rfl, rfl, hMd, k1, k2, k6, .inr k3, HQ1.out⟩
      case stop =>
        rintro d cc pre V hd hpre ⟨⟨rfl, s2, k1, k2⟩, k5, k6⟩ hK
        have hpr : pre = List.range pre.length := by
          have h := List.prefix_iff_eq_take.1 hpre
          rw [List.take_range] at h
          have hl := hpre.length_le
          rw [List.length_range] at hl
          rw [Nat.min_eq_left hl] at h
          exact h
        have hMd : Mk w.heap.size (d :: Ds) V := ⟨List.nodup_cons.2 ⟨fun h => by have := hDs d h; omega, k5.1⟩, fun e he => by
          rcases List.mem_cons.1 he with rfl | he
          · exact ⟨by omega, hK⟩
          · exact k5.2 e he⟩
        have HF : Hid (∃ s, S s V ∧ (∀ j, j < f.prods.length → Cl j s) ∧ But D w V) := ⟨s2, k1, k2 hpr, k6⟩
        clear k5 k2 hq HGR HSL HPR hcells
        gi_wp2
        exact leaves_marks (fun W => ⟨_, results_none rfl _ _ _⟩) HE.out (d :: Ds) V hMd HF.out

theorem settle_any {σ : Type} (f : Fl) (a : FlA) (g : Nat) (lb : Array Value) (eg : ∀ args w, (callFunc g args).run Tryz.prog w = .ok (.enter g args) w) (S : σ → World → Prop) (D : Nat → Prop) (μ : σ → Nat) (Cl : Nat → σ → Prop)
    (w : World) (hp : FitP f) (hfl : ∀ s W, S s W → FlAt f a W) (hS : ∀ s W W', S s W → Below w.heap.size W W' → S s W') (hD : ∀ k, D k → k < w.heap.size) (hDa : 0 < f.prods.length → ∀ ad, a.pa = some ad → ¬ D ad.block)
    (hg : ∀ (j : Nat) (hj : j < f.prods.length) (s : σ) (W : World) (v : Value), S s W → SlT f.prods[j].right v W → w.heap.size ≤ W.heap.size → (∃ pb off, a.pa = some ⟨pb, off, none⟩ ∧ w.cell? ⟨pb, off + j * 3 + 1, none⟩ = some v) → Calls Tryz.prog g (#[.int .i64 f.prods[j].left, v] ++ lb) W fun e W' => ∃ s' b, e = .returned (.bool b) ∧ S s' W' ∧ But D W W' ∧ (b = true → μ s' < μ s) ∧ (b = false → s' = s ∧ Cl j s))
    (s0 : σ) (h0 : S s0 w) :
    Calls Tryz.prog 147 #[a.val f, .func (.func g) #[] lb] w fun e W' => (∃ v, e = .returned v) ∧ ∃ s, S s W' ∧ (∀ j, j < f.prods.length → Cl j s) ∧ But D w W' :=
  (callsIn_wide (n := 6)).1 (settle_in 6 (by omega) f a g lb eg S D μ Cl w hp hfl hS hD hDa hg s0 h0)
end Go.Proofs.YtbilbgjojdlobaaGreatDoor
/- Sets that are maps: isNew of the program. -/
namespace Go.Proofs.YtbilbgjojdlobaaGreatDoor
open Go.RowKit Go.Maps

theorem laidOutM : laidOutB Tryz.prog = true := by kernel_rfl
theorem lawLr : Keyed Tryz.prog 77 := Keyed.of_law (deep_law_laid laidOutM (m := 2) (by omega) (of_decide_eq_true (by kernel_rfl)) (by kernel_rfl) (by kernel_rfl))
theorem lawCore : Keyed Tryz.prog 239 := Keyed.of_law (deep_law_laid laidOutM (m := 2) (by omega) (of_decide_eq_true (by kernel_rfl)) (by kernel_rfl) (by kernel_rfl))
theorem lawStart : Keyed Tryz.prog 219 := Keyed.of_law (deep_law_laid laidOutM (m := 2) (by omega) (of_decide_eq_true (by kernel_rfl)) (by kernel_rfl) (by kernel_rfl))
theorem lawStr : Keyed Tryz.prog 9 := string_keyed Tryz.underlying9
theorem wf64 {x : Int} (h : i64B x) : (Lit.int .i64 x).wf = true := WalkArith.wf_i64 (by unfold i64B at h; omega)
def val2 (x : Int × Int) : Value := .agg #[.int .i64 x.1, .int .i64 x.2]
def ok2 (x : Int × Int) : Prop := i64B x.1 ∧ i64B x.2
theorem sizeT : ∃ m, Tryz.prog.types.size = m + 1 := ⟨Tryz.prog.types.size - 1, by have : 0 < Tryz.prog.types.size := of_decide_eq_true (by kernel_rfl); omega⟩
theorem keyLr {x : Ir} (h : okR x) : ∃ kl, keyOf Tryz.prog 77 (valR x) = some kl := by
  obtain ⟨m, hm⟩ := sizeT
  have h0 := wf64 h.1
  have h1 := wf64 h.2.1
  have h2 := wf64 h.2.2
  have e1 : Tryz.prog.keyType 77 = true := by kernel_rfl
  have e2 : Tryz.prog.cellsOf 77 = 3 := by kernel_rfl
  have e3 : Tryz.prog.cellsOf 3 = 1 := by kernel_rfl
  unfold keyOf
  simp only [Tryz.underlying77]
  rw [if_pos (by simp [e1, Value.formed, Tryz.underlying77, e2, valR]), hm]
  unfold Program.keyLits
  simp [Tryz.underlying77, valR, Value.cells, e2, e3, Program.keyLits, Tryz.underlying3, h0, h1, h2]
theorem keyCore {x : Int × Int} (h : ok2 x) : ∃ kl, keyOf Tryz.prog 239 (val2 x) = some kl := by
  obtain ⟨m, hm⟩ := sizeT
  have h0 := wf64 h.1
  have h1 := wf64 h.2
  have e1 : Tryz.prog.keyType 239 = true := by kernel_rfl
  have e2 : Tryz.prog.cellsOf 239 = 2 := by kernel_rfl
  have e3 : Tryz.prog.cellsOf 3 = 1 := by kernel_rfl
  unfold keyOf
  simp only [Tryz.underlying239]
  rw [if_pos (by simp [e1, Value.formed, Tryz.underlying239, e2, val2]), hm]
  unfold Program.keyLits
  simp [Tryz.underlying239, val2, Value.cells, e2, e3, Program.keyLits, Tryz.underlying3, h0, h1]
theorem keyStart {x : Int × Int} (h : ok2 x) : ∃ kl, keyOf Tryz.prog 219 (val2 x) = some kl := by
  obtain ⟨m, hm⟩ := sizeT
  have h0 := wf64 h.1
  have h1 := wf64 h.2
  have e1 : Tryz.prog.keyType 219 = true := by kernel_rfl
  have e2 : Tryz.prog.cellsOf 219 = 2 := by kernel_rfl
  have e3 : Tryz.prog.cellsOf 3 = 1 := by kernel_rfl
  unfold keyOf
  simp only [Tryz.underlying219]
  rw [if_pos (by simp [e1, Value.formed, Tryz.underlying219, e2, val2]), hm]
  unfold Program.keyLits
  simp [Tryz.underlying219, val2, Value.cells, e2, e3, Program.keyLits, Tryz.underlying3, h0, h1]
theorem valR_inj {x y : Ir} (h : valR x = valR y) : x = y := by
  unfold valR at h
  simp at h
  exact ir_ext h.1 h.2.1 h.2.2
theorem val2_inj {x y : Int × Int} (h : val2 x = val2 y) : x = y := by
  unfold val2 at h
  simp at h
  exact Prod.ext h.1 h.2

/-- Block b is a map that has just the keys of L. -/
def MapSet {α : Type} (k : TypeId) (val : α → Value) (b : Nat) (L : List α) (W : World) : Prop :=
  ∃ D : DataW Unit, W.ownsMap Tryz.prog k unitElem b L.length D ∧ Maps.size D = L.length ∧ ∀ kl, Maps.has D kl = true ↔ ∃ x ∈ L, keyOf Tryz.prog k (val x) = some kl
theorem MapSet.made {α : Type} (k : TypeId) (val : α → Value) (W : World) : MapSet k val W.heap.size [] (W.alloc (.map #[] 0)) :=
  ⟨.map [], World.ownsMap_made W _ _ _, rfl, fun kl => by simp [Maps.has]⟩
theorem MapSet.lt {α : Type} {k : TypeId} {val : α → Value} {b : Nat} {L : List α} {W : World} (h : MapSet k val b L W) : b < W.heap.size := by
  obtain ⟨D, h, _⟩ := h; exact h.lt
theorem MapSet.kept {α : Type} {k : TypeId} {val : α → Value} {b : Nat} {L : List α} {W W' : World} (h : MapSet k val b L W) (hb : W'.heap[b]? = W.heap[b]?) : MapSet k val b L W' := by
  obtain ⟨D, ⟨es, clock, h1, h2⟩, h3⟩ := h
  exact ⟨D, ⟨es, clock, hb.trans h1, h2⟩, h3⟩
theorem MapSet.but {α : Type} {k : TypeId} {val : α → Value} {b : Nat} {L : List α} {W W' : World} {D : Nat → Prop} (h : MapSet k val b L W) (hb : But D W W') (hd : ¬ D b) : MapSet k val b L W' := h.kept (hb.block b h.lt hd)
theorem MapSet.notCells {α : Type} {k : TypeId} {val : α → Value} {b : Nat} {L : List α} {W : World} (h : MapSet k val b L W) : ∀ off v, W.cell? ⟨b, off, none⟩ ≠ some v := by
  obtain ⟨D, ⟨es, clock, h1, _⟩, _⟩ := h
  intro off v hv
  simp [World.cell?, h1] at hv
/-- Behind the store of a key. -/
theorem MapSet.put {α : Type} [BEq α] [LawfulBEq α] {k : TypeId} {val : α → Value} {b : Nat} {L : List α} {D : DataW Unit} {W' : World} (K : Keyed Tryz.prog k) {x : α} (hv : ∀ y ∈ L, val x = val y → x = y) (ht : Tidy D) (hs : Maps.size D = L.length)
    (hh : ∀ kl, Maps.has D kl = true ↔ ∃ x ∈ L, keyOf Tryz.prog k (val x) = some kl) {kl : Lit} (hk : keyOf Tryz.prog k (val x) = some kl) (ho : W'.ownsMap Tryz.prog k unitElem b (L.length + 1) (D.put kl (.agg []))) :
    Maps.has D kl = decide (x ∈ L) ∧ MapSet k val b (if x ∈ L then L else L ++ [x]) W' := by
  have h1 : Maps.has D kl = decide (x ∈ L) := by
    rw [Bool.eq_iff_iff, decide_eq_true_eq, hh]
    constructor
    · rintro ⟨y, hy, hyk⟩
      rw [hv y hy (K.inj hk hyk)]; exact hy
    · intro hx; exact ⟨x, hx, hk⟩
  have h2 := size_put (k := kl) ht (.agg [])
  rw [h1, hs] at h2
  have hlow : W'.ownsMap Tryz.prog k unitElem b (Maps.size (D.put kl (.agg []))) (D.put kl (.agg [])) := by
    obtain ⟨es, clock, k1, k2, k3, k4⟩ := ho
    refine ⟨es, clock, k1, k2, ?_, k4⟩
    rw [k4]
    simp [Maps.size, length_sorted]
  have hkey := K.key hk
  refine ⟨h1, D.put kl (.agg []), ?_, ?_, fun kl' => ?_⟩
  · rw [h2] at hlow
    split
    · rename_i hx; rw [if_pos (by simpa using hx)] at hlow; exact hlow
    · rename_i hx; rw [if_neg (by simpa using hx)] at hlow; simpa using hlow
  · rw [h2]; split
    · rename_i hx; rw [if_pos (by simpa using hx)]
    · rename_i hx; rw [if_neg (by simpa using hx)]; simp
  · by_cases e : kl' = kl
    · subst e
      rw [has_put_same ht.isMap hkey]
      simp only [true_iff]
      refine ⟨x, ?_, hk⟩
      split
      · assumption
      · simp
    · rw [has_put_other e, hh]
      split
      · exact Iff.rfl
      · constructor
        · rintro ⟨y, hy, hyk⟩; exact ⟨y, by simp [hy], hyk⟩
        · rintro ⟨y, hy, hyk⟩
          rcases List.mem_append.1 hy with hy | hy
          · exact ⟨y, hy, hyk⟩
          · simp at hy; subst hy
            rw [hk] at hyk; cases hyk; exact absurd rfl e
theorem new_gt {m n : Nat} {b : Bool} (h : m = if b = true then n else n + 1) : decide ((m : Int) > (n : Int)) = !b := by
  cases b <;> simp at h <;> subst h <;> simp <;> omega
/-- What isNew tells, and leaves. -/
def NewP {α : Type} [BEq α] [LawfulBEq α] (k : TypeId) (val : α → Value) (b : Nat) (L : List α) (x : α) (w : World) (e : Ending) (w' : World) : Prop :=
  e = .returned (.bool (!decide (x ∈ L))) ∧ MapSet k val b (if x ∈ L then L else L ++ [x]) w' ∧ But (fun k => k = b) w w'
theorem newP_of {α : Type} [BEq α] [LawfulBEq α] {k : TypeId} {val : α → Value} {b : Nat} {L : List α} {x : α} {w W1 w1 : World} {e : Ending} {D D2 : DataW Unit} {kl : Lit} (B1 : But (fun k => k = b) w W1) (hg1 : W1.grownBy w1 (some b)) (hP : Maps.has D kl = decide (x ∈ L) ∧ MapSet k val b (if x ∈ L then L else L ++ [x]) w1)
    (hZ : Maps.size D2 = if Maps.has D kl = true then Maps.size D else Maps.size D + 1) (he : e = .returned (.bool (decide ((Maps.size D2 : Int) > (Maps.size D : Int))))) : NewP k val b L x w e w1 := by
  refine ⟨?_, hP.2, ⟨hg1.os.trans B1.os, hg1.tape.trans B1.tape, hg1.output.trans B1.output, Nat.le_trans B1.size hg1.size, fun k hk' hd => (hg1.block k (Nat.lt_of_lt_of_le hk' B1.size) (fun e => hd (by cases e; rfl))).trans (B1.block k hk' hd)⟩⟩
  have := new_gt hZ
  rw [hP.1] at this
  rw [he, this]
/-- A kernel's items as bytes. -/
def byte2 (x : Int) : List UInt8 := [UInt8.ofNat (x.toNat / 256), UInt8.ofNat x.toNat]
def keyI (x : Ir) : List UInt8 := byte2 (x.1 + 1) ++ [UInt8.ofNat x.2.1.toNat] ++ byte2 x.2.2
def keyK (K : List Ir) : ByteArray := ⟨(K.flatMap keyI).toArray⟩
def valK (K : List Ir) : Value := .string (keyK K)

set_option maxRecDepth 100000 in
set_option maxHeartbeats 1000000 in
theorem isNewR_any (b : Nat) (L : List Ir) (x : Ir) (w : World) (hM : MapSet 77 valR b L w) (h : okR x) (hl : L.length < 100000000) :
    Calls Tryz.prog 156 #[.map (some b), valR x] w fun e w' => NewP 77 valR b L x w e w' := by
  obtain ⟨kl, hk⟩ := keyLr h
  obtain ⟨D, ho, hs, hh⟩ := hM
  have ht := ho.tidy lawLr
  have HP : Hid (∀ W', W'.ownsMap Tryz.prog 77 unitElem b (L.length + 1) (D.put kl (.agg [])) → Maps.has D kl = decide (x ∈ L) ∧ MapSet 77 valR b (if x ∈ L then L else L ++ [x]) W') := fun W' h' => MapSet.put lawLr (fun _ _ => valR_inj) ht hs hh hk h'
  have HSZ : Hid (Maps.size (D.put kl (.agg [])) = if Maps.has D kl = true then Maps.size D else Maps.size D + 1) := size_put (k := kl) ht (.agg [])
  clear hs hh ht
  have ho1 := ho.alloc (Obj.cells #[.int .i64 x.1, .int .i64 x.2.1, .int .i64 x.2.2] 77)
  have B1 : But (fun k => k = b) w (w.alloc (Obj.cells #[.int .i64 x.1, .int .i64 x.2.1, .int .i64 x.2.2] 77)) := But.of_next ((Below.refl _ _).alloc (Nat.le_refl _) _)
  clear ho
  have hk2 : keyOf Tryz.prog 77 (.agg #[.int .i64 x.1, .int .i64 x.2.1, .int .i64 x.2.2]) = some kl := hk
  show Calls Tryz.prog 156 #[.map (some b), .agg #[.int .i64 x.1, .int .i64 x.2.1, .int .i64 x.2.2]] w _
  clear hk h
  go_enter Tryz.func156, Tryz.ntmps156
  go_wp2_with (first
    | (at_len; first
        | refine wpList_len_own _ rfl _ 210 rfl 77 190 Tryz.underlying210 _ b _ _ rfl ho2 ?_
        | refine wpList_len_own _ rfl _ 210 rfl 77 190 Tryz.underlying210 _ b _ _ rfl ho1 ?_)
    | (at_mapUpdate; refine wpList_mapUpdate_own _ rfl _ _ _ 210 rfl 77 190 lawLr Tryz.underlying210 _ b L.length _ rfl ho1 (by unfold maxLen; omega) _ _ _ rfl rfl hk2 _ [] unitElem_mk ?_; intro w1 ho2 hg1))
  go_ret
  exact newP_of B1 hg1 (HP.out _ ho2) HSZ.out (ret_bool (by first | rfl | (simp; done)))

set_option maxRecDepth 100000 in
set_option maxHeartbeats 1000000 in
theorem isNewC_any (b : Nat) (L : List (Int × Int)) (x : (Int × Int)) (w : World) (hM : MapSet 239 val2 b L w) (h : ok2 x) (hl : L.length < 100000000) :
    Calls Tryz.prog 176 #[.map (some b), val2 x] w fun e w' => NewP 239 val2 b L x w e w' := by
  obtain ⟨kl, hk⟩ := keyCore h
  obtain ⟨D, ho, hs, hh⟩ := hM
  have ht := ho.tidy lawCore
  have HP : Hid (∀ W', W'.ownsMap Tryz.prog 239 unitElem b (L.length + 1) (D.put kl (.agg [])) → Maps.has D kl = decide (x ∈ L) ∧ MapSet 239 val2 b (if x ∈ L then L else L ++ [x]) W') := fun W' h' => MapSet.put lawCore (fun _ _ => val2_inj) ht hs hh hk h'
  have HSZ : Hid (Maps.size (D.put kl (.agg [])) = if Maps.has D kl = true then Maps.size D else Maps.size D + 1) := size_put (k := kl) ht (.agg [])
  clear hs hh ht
  have ho1 := ho.alloc (Obj.cells #[.int .i64 x.1, .int .i64 x.2] 239)
  have B1 : But (fun k => k = b) w (w.alloc (Obj.cells #[.int .i64 x.1, .int .i64 x.2] 239)) := But.of_next ((Below.refl _ _).alloc (Nat.le_refl _) _)
  clear ho
  have hk2 : keyOf Tryz.prog 239 (.agg #[.int .i64 x.1, .int .i64 x.2]) = some kl := hk
  show Calls Tryz.prog 176 #[.map (some b), .agg #[.int .i64 x.1, .int .i64 x.2]] w _
  clear hk h
  go_enter Tryz.func176, Tryz.ntmps176
  go_wp2_with (first
    | (at_len; first
        | refine wpList_len_own _ rfl _ 211 rfl 239 190 Tryz.underlying211 _ b _ _ rfl ho2 ?_
        | refine wpList_len_own _ rfl _ 211 rfl 239 190 Tryz.underlying211 _ b _ _ rfl ho1 ?_)
    | (at_mapUpdate; refine wpList_mapUpdate_own _ rfl _ _ _ 211 rfl 239 190 lawCore Tryz.underlying211 _ b L.length _ rfl ho1 (by unfold maxLen; omega) _ _ _ rfl rfl hk2 _ [] unitElem_mk ?_; intro w1 ho2 hg1))
  go_ret
  exact newP_of B1 hg1 (HP.out _ ho2) HSZ.out (ret_bool (by first | rfl | (simp; done)))

set_option maxRecDepth 100000 in
set_option maxHeartbeats 1000000 in
theorem isNewS_any (b : Nat) (L : List (Int × Int)) (x : (Int × Int)) (w : World) (hM : MapSet 219 val2 b L w) (h : ok2 x) (hl : L.length < 100000000) :
    Calls Tryz.prog 178 #[.map (some b), val2 x] w fun e w' => NewP 219 val2 b L x w e w' := by
  obtain ⟨kl, hk⟩ := keyStart h
  obtain ⟨D, ho, hs, hh⟩ := hM
  have ht := ho.tidy lawStart
  have HP : Hid (∀ W', W'.ownsMap Tryz.prog 219 unitElem b (L.length + 1) (D.put kl (.agg [])) → Maps.has D kl = decide (x ∈ L) ∧ MapSet 219 val2 b (if x ∈ L then L else L ++ [x]) W') := fun W' h' => MapSet.put lawStart (fun _ _ => val2_inj) ht hs hh hk h'
  have HSZ : Hid (Maps.size (D.put kl (.agg [])) = if Maps.has D kl = true then Maps.size D else Maps.size D + 1) := size_put (k := kl) ht (.agg [])
  clear hs hh ht
  have ho1 := ho.alloc (Obj.cells #[.int .i64 x.1, .int .i64 x.2] 219)
  have B1 : But (fun k => k = b) w (w.alloc (Obj.cells #[.int .i64 x.1, .int .i64 x.2] 219)) := But.of_next ((Below.refl _ _).alloc (Nat.le_refl _) _)
  clear ho
  have hk2 : keyOf Tryz.prog 219 (.agg #[.int .i64 x.1, .int .i64 x.2]) = some kl := hk
  show Calls Tryz.prog 178 #[.map (some b), .agg #[.int .i64 x.1, .int .i64 x.2]] w _
  clear hk h
  go_enter Tryz.func178, Tryz.ntmps178
  go_wp2_with (first
    | (at_len; first
        | refine wpList_len_own _ rfl _ 212 rfl 219 190 Tryz.underlying212 _ b _ _ rfl ho2 ?_
        | refine wpList_len_own _ rfl _ 212 rfl 219 190 Tryz.underlying212 _ b _ _ rfl ho1 ?_)
    | (at_mapUpdate; refine wpList_mapUpdate_own _ rfl _ _ _ 212 rfl 219 190 lawStart Tryz.underlying212 _ b L.length _ rfl ho1 (by unfold maxLen; omega) _ _ _ rfl rfl hk2 _ [] unitElem_mk ?_; intro w1 ho2 hg1))
  go_ret
  exact newP_of B1 hg1 (HP.out _ ho2) HSZ.out (ret_bool (by first | rfl | (simp; done)))

set_option maxRecDepth 100000 in
set_option maxHeartbeats 1000000 in
theorem isNewT_any (b : Nat) (L : List (List Ir)) (x : (List Ir)) (w : World) (hM : MapSet 9 valK b L w) (h : (keyK x).size ≤ maxLen ∧ ∀ y ∈ L, keyK x = keyK y → x = y) (hl : L.length < 100000000) :
    Calls Tryz.prog 97 #[.map (some b), valK x] w fun e w' => NewP 9 valK b L x w e w' := by
  obtain ⟨kl, hk⟩ := (⟨_, WideMaps.keyOf_string_mk Tryz.underlying9 h.1⟩ : ∃ kl, keyOf Tryz.prog 9 (valK x) = some kl)
  obtain ⟨D, ho, hs, hh⟩ := hM
  have ht := ho.tidy lawStr
  have HP : Hid (∀ W', W'.ownsMap Tryz.prog 9 unitElem b (L.length + 1) (D.put kl (.agg [])) → Maps.has D kl = decide (x ∈ L) ∧ MapSet 9 valK b (if x ∈ L then L else L ++ [x]) W') := fun W' h' => MapSet.put lawStr (fun y hy e => h.2 y hy (Value.string.inj e)) ht hs hh hk h'
  have HSZ : Hid (Maps.size (D.put kl (.agg [])) = if Maps.has D kl = true then Maps.size D else Maps.size D + 1) := size_put (k := kl) ht (.agg [])
  clear hs hh ht
  have ho1 := ho
  have B1 : But (fun k => k = b) w w := But.refl _ _
  clear ho
  have hk2 : keyOf Tryz.prog 9 (.string (keyK x)) = some kl := hk
  show Calls Tryz.prog 97 #[.map (some b), .string (keyK x)] w _
  clear hk h
  go_enter Tryz.func97, Tryz.ntmps97
  go_wp2_with (first
    | (at_len; first
        | refine wpList_len_own _ rfl _ 154 rfl 9 190 Tryz.underlying154 _ b _ _ rfl ho2 ?_
        | refine wpList_len_own _ rfl _ 154 rfl 9 190 Tryz.underlying154 _ b _ _ rfl ho1 ?_)
    | (at_mapUpdate; refine wpList_mapUpdate_own _ rfl _ _ _ 154 rfl 9 190 lawStr Tryz.underlying154 _ b L.length _ rfl ho1 (by unfold maxLen; omega) _ _ _ rfl rfl hk2 _ [] unitElem_mk ?_; intro w1 ho2 hg1))
  go_ret
  exact newP_of B1 hg1 (HP.out _ ho2) HSZ.out (ret_bool (by first | rfl | (simp; done)))
end Go.Proofs.YtbilbgjojdlobaaGreatDoor
/- highByte, keyOf. -/
namespace Go.Proofs.YtbilbgjojdlobaaGreatDoor
open Go.RowKit

set_option maxHeartbeats 400000 in
theorem highByte_any (n : Nat) (h : n < 65536) (w : World) : Calls Tryz.prog 132 #[.int .i64 n] w fun e w' => e = .returned (.int .u8 ((n / 256 : Nat) : Int)) ∧ w' = w := by
  go_enter Tryz.func132, Tryz.ntmps132
  go_wp2_with fail
  go_ret
  exact ⟨by simp, rfl⟩
def encU8 (u : UInt8) : Value := .int .u8 (u.toNat : Int)
def OwnB (B : Nat) (l : List UInt8) (v : Value) (W : World) : Prop := W.ownsRow B 5 1 v l.length (l.map encU8)
def keyL (K : List Ir) : List UInt8 := K.flatMap keyI
theorem keyL_take {K : List Ir} {j : Nat} (h : j < K.length) : keyL (K.take (j + 1)) = keyL (K.take j) ++ keyI K[j] := by
  unfold keyL
  rw [List.take_succ_eq_append_getElem h, List.flatMap_append]
  simp
theorem keyI_len (x : Ir) : (keyI x).length = 5 := rfl
theorem keyL_len : ∀ (K : List Ir), (keyL K).length = 5 * K.length
  | [] => rfl
  | x :: K => by
    have := keyL_len K
    unfold keyL at this ⊢
    rw [List.flatMap_cons, List.length_append, this, keyI_len, List.length_cons]
    omega
theorem new5 (W : World) (a0 a1 a2 a3 a4 : Value) (ty : TypeId) : ∀ (i : Nat) (u : Value), [a0, a1, a2, a3, a4][i]? = some u → (W.alloc (Obj.cells #[a0, a1, a2, a3, a4] ty)).cell? ((⟨W.heap.size, 0, none⟩ : Addr).add i) = some u := by
  intro i u hi
  rw [add_plain, Nat.zero_add]
  rcases i with _ | _ | _ | _ | _ | i <;> simp at hi <;> subst hi <;> simp
theorem infoU8 : (Tryz.prog.info? 5).map (fun i => (i.zero, i.size, i.bytes)) = some (some (.int .u8 0), 1, 1) := by kernel_rfl
def KeyFit (x : Ir) : Prop := 0 ≤ x.1 + 1 ∧ x.1 + 1 ≤ 400 ∧ 0 ≤ x.2.1 ∧ x.2.1 ≤ 64 ∧ 0 ≤ x.2.2 ∧ x.2.2 ≤ 600
theorem u8_of {q : Nat} : IntKind.u8.wrap (q : Int) = ((UInt8.ofNat q).toNat : Int) := by
  simp [IntKind.wrap, IntKind.bits, IntKind.signed]

set_option maxRecDepth 100000 in
set_option maxHeartbeats 2000000 in
theorem keyOf_any (K : List Ir) (v : Value) (w : World) (hK : SlL K v w) (hf : ∀ x ∈ K, KeyFit x) (hne : K ≠ []) (hl : K.length ≤ 20000000) :
    Calls Tryz.prog 98 #[v] w fun e w' => e = .returned (valK K) ∧ Below w.heap.size w w' := by
  obtain ⟨i0, hi0, hz0, hz1, hz2⟩ := info_parts infoU8
  obtain ⟨la, lc, rfl, hI, _, _⟩ := hK
  have HI : Hid (∀ W, Below w.heap.size w W → IrsAt K la W) := fun W hb => hI.next hb
  have HF : Hid (∀ x ∈ K, KeyFit x) := hf
  have hpos : 0 < K.length := List.length_pos_iff.2 hne
  clear hI hf hne
  go_enter Tryz.func98, Tryz.ntmps98
  go_wp2_with fail
  go_loopw [3, 8] (fun kv i wr => ∃ (j : Nat), i = .int .i64 j ∧ j ≤ K.length ∧ OwnB w.heap.size (keyL (K.take j)) kv wr ∧ Below w.heap.size w wr) (fun _ i _ => K.length - (intOf i).toNat)
  case atStart => exact ⟨0, rfl, Nat.zero_le _, World.ownsRow_nil _ _ _ _, Below.refl _ _⟩
  case round =>
  obtain ⟨j, rfl, hj, hown, B1⟩ := hrel
  have hsz := B1.size
  obtain ⟨ka, kc, rfl⟩ := slice_of_ownK hown
  have hkl : (keyL (K.take j)).length ≤ 100000000 := by rw [keyL_len, List.length_take]; omega
  have htk : (K.take j).length ≤ 20000000 := by rw [List.length_take]; omega
  by_cases hlt : j < K.length
  · obtain ⟨b, off, rfl, hbl, c0, c1, c2, hok⟩ := (HI.out _ B1).at (Below.refl _ _) hlt
    have hfx := HF.out K[j] (by simp)
    have hT := keyL_take hlt
    generalize K[j] = x at *
    obtain ⟨x0, x1, x2⟩ := x
    unfold KeyFit at hfx
    simp only at c0 c1 c2 hfx
    obtain ⟨d, rfl⟩ : ∃ d : Nat, x1 = d := ⟨x1.toNat, by omega⟩
    obtain ⟨t, rfl⟩ : ∃ t : Nat, x2 = t := ⟨x2.toNat, by omega⟩
    obtain ⟨q, hq⟩ : ∃ q : Nat, x0 + 1 = q := ⟨(x0 + 1).toNat, by omega⟩
    obtain ⟨bq, hbq⟩ : ∃ bq : Int, ((UInt8.ofNat q).toNat : Int) = bq := ⟨_, rfl⟩
    obtain ⟨bt, hbt⟩ : ∃ bt : Int, ((UInt8.ofNat t).toNat : Int) = bt := ⟨_, rfl⟩
    obtain ⟨z1, hz1'⟩ : ∃ z : Int, ((q / 256 : Nat) : Int) = z := ⟨_, rfl⟩
    obtain ⟨z2, hz2'⟩ : ∃ z : Int, ((t / 256 : Nat) : Int) = z := ⟨_, rfl⟩
    have hwq : IntKind.u8.wrap (q : Int) = bq := u8_of.trans hbq
    have hwt : IntKind.u8.wrap (t : Int) = bt := u8_of.trans hbt
    have hwd : IntKind.u8.wrap (d : Int) = d := u8_of.trans (by simp; omega)
    have hwi : IntKind.i64.wrap (x0 + 1) = (q : Int) := by rw [← hq]; exact IntWalk.i64_in _ (by omega)
    have HKY : Hid ((keyI (x0, (d : Int), (t : Int))).map encU8 = [.int .u8 z1, .int .u8 bq, .int .u8 d, .int .u8 z2, .int .u8 bt]) := by
      show _ = _
      unfold keyI byte2
      simp only [hq, Int.toNat_natCast, List.map_append, List.map_cons, List.map_nil, encU8, ← hbq, ← hbt, ← hz1', ← hz2']
      have e1 : (UInt8.ofNat (q / 256)).toNat = q / 256 := by simp; omega
      have e2 : (UInt8.ofNat d).toNat = d := by simp; omega
      have e3 : (UInt8.ofNat (t / 256)).toNat = t / 256 := by simp; omega
      rw [e1, e2, e3]
      rfl
    have HT : Hid (keyL (K.take (j + 1)) = keyL (K.take j) ++ keyI (x0, (d : Int), (t : Int))) := hT
    have Bx : Below wr.heap.size wr (wr.alloc (Obj.cells #[.int .i64 x0, .int .i64 d, .int .i64 t] 77)) := (Below.refl _ _).alloc (Nat.le_refl _) _
    have X0 := RBox.new (x0, (d : Int), (t : Int)) 77 wr
    have hq4 : q ≤ 400 := by omega
    have ht6 : t ≤ 600 := by omega
    have hd6 : d ≤ 64 := by omega
    generalize keyL (K.take j) = kl at *
    have HOW : Hid (OwnB w.heap.size kl (.slice ka kl.length kc) wr) := hown
    clear hT hown hfx hbq hbt hq
    go_wp2_with fail
    generalize wr.alloc (Obj.cells #[.int .i64 x0, .int .i64 d, .int .i64 t] 77) = wb at *
    obtain ⟨hxl, y0, y1, y2⟩ := X0
    simp only at y0 y1 y2
    have HS0 : (wb.drew.cell? ⟨wr.heap.size, 0, none⟩ = some (.int .i64 x0) ∧ wb.drew.cell? ⟨wr.heap.size, 1, none⟩ = some (.int .i64 d) ∧ wb.drew.cell? ⟨wr.heap.size, 2, none⟩ = some (.int .i64 t)) := ⟨y0, y1, y2⟩
    have hH1 := highByte_any q (by omega) wb.drew
    have hH2 := highByte_any t (by omega) wb.drew
    rw [hz1'] at hH1
    rw [hz2'] at hH2
    clear hz1' hz2'
    have Bn : Below wb.heap.size wb (wb.drew.alloc (Obj.cells #[.int .u8 z1, .int .u8 bq, .int .u8 d, .int .u8 z2, .int .u8 bt] 5)) := (Below.refl _ _).drew.alloc (Nat.le_refl _) _
    have HSI : Hid (∀ W, Below wb.heap.size wb W → (W.cell? ⟨wr.heap.size, 0, none⟩ = some (.int .i64 x0) ∧ W.cell? ⟨wr.heap.size, 1, none⟩ = some (.int .i64 d) ∧ W.cell? ⟨wr.heap.size, 2, none⟩ = some (.int .i64 t))) := fun W hb => ⟨(hb.cell (p := ⟨wr.heap.size, 0, none⟩) hxl).trans y0, (hb.cell (p := ⟨wr.heap.size, 1, none⟩) hxl).trans y1, (hb.cell (p := ⟨wr.heap.size, 2, none⟩) hxl).trans y2⟩
    have HON : Hid ((wb.drew.alloc (Obj.cells #[.int .u8 z1, .int .u8 bq, .int .u8 d, .int .u8 z2, .int .u8 bt] 5)).ownsRow w.heap.size 5 1 (.slice ka kl.length kc) kl.length (kl.map encU8)) := ownsRow_next (ownsRow_next (show wr.ownsRow w.heap.size 5 1 (.slice ka kl.length kc) kl.length (kl.map encU8) from HOW.out) Bx) Bn
    have HOB : Hid (∀ k, (Value.slice ka kl.length kc).ownBlock = some k → w.heap.size ≤ k ∧ k < wr.heap.size) := fun k e => World.ownsRow.lt HOW.out k e
    have hszn : w.heap.size ≤ (wb.drew.alloc (Obj.cells #[.int .u8 z1, .int .u8 bq, .int .u8 d, .int .u8 z2, .int .u8 bt] 5)).heap.size := Nat.le_trans hsz (Nat.le_trans Bx.size Bn.size)
    have HNW : Hid (∀ (i : Nat) (u : Value), [Value.int .u8 z1, .int .u8 bq, .int .u8 d, .int .u8 z2, .int .u8 bt][i]? = some u → (wb.drew.alloc (Obj.cells #[.int .u8 z1, .int .u8 bq, .int .u8 d, .int .u8 z2, .int .u8 bt] 5)).cell? ((⟨wb.heap.size, 0, none⟩ : Addr).add i) = some u) := new5 wb.drew _ _ _ _ _ _
    have B3 : Below w.heap.size w (wb.drew.alloc (Obj.cells #[.int .u8 z1, .int .u8 bq, .int .u8 d, .int .u8 z2, .int .u8 bt] 5)) := (B1.trans (Bx.mono hsz)).trans (Bn.mono (Nat.le_trans hsz Bx.size))
    have hSn := HSI.out _ Bn
    clear HOW
    refine wp_region_L (fun W => W.cell? ⟨wr.heap.size, 0, none⟩ = some (.int .i64 x0) ∧ W.cell? ⟨wr.heap.size, 1, none⟩ = some (.int .i64 d) ∧ W.cell? ⟨wr.heap.size, 2, none⟩ = some (.int .i64 t)) 20 (by kernel_rfl) 21 rfl ?_
    refine tk (i := 0) (v := ?_) (oi := ⟨some 12, .move (.tmp 3), 98, "all.go:52", #[], none⟩) HS0 ?_ ?_
    rotate_left
    · intro W hSW
      go_simp
      try with_reducible rfl
    simp only [Act.put, sA, s0, sS]
    refine tk (i := 1) (v := ?_) (oi := ⟨some 13, .fieldAddr 77 (.tmp 5) 0, 0, "all.go:52", #[], none⟩) HS0 ?_ ?_
    rotate_left
    · intro W hSW
      go_simp
      try with_reducible rfl
    simp only [Act.put, sA, s0, sS]
    refine tk (i := 2) (v := ?_) (oi := ⟨some 14, .load 3 (.tmp 13), 3, "all.go:52", #[⟨1, .data⟩], none⟩) HS0 ?_ ?_
    rotate_left
    · intro W hSW
      go_simp
      try with_reducible rfl
    simp only [Act.put, sA, s0, sS]
    refine tk (i := 3) (v := ?_) (oi := ⟨some 15, .binOp .add 3 (.tmp 14) (.const (.int .i64 1)) 3, 3, "all.go:52", #[⟨2, .data⟩], none⟩) HS0 ?_ ?_
    rotate_left
    · intro W hSW
      go_simp
      try with_reducible rfl
    simp only [Act.put, sA, s0, sS]
    refine tk (i := 5) (v := ?_) (oi := ⟨some 17, .fieldAddr 77 (.tmp 5) 0, 0, "all.go:52", #[], none⟩) HS0 ?_ ?_
    rotate_left
    · intro W hSW
      go_simp
      try with_reducible rfl
    simp only [Act.put, sA, s0, sS]
    refine tk (i := 6) (v := ?_) (oi := ⟨some 18, .load 3 (.tmp 17), 3, "all.go:52", #[⟨5, .data⟩], none⟩) HS0 ?_ ?_
    rotate_left
    · intro W hSW
      go_simp
      try with_reducible rfl
    simp only [Act.put, sA, s0, sS]
    refine tk (i := 7) (v := ?_) (oi := ⟨some 19, .binOp .add 3 (.tmp 18) (.const (.int .i64 1)) 3, 3, "all.go:52", #[⟨6, .data⟩], none⟩) HS0 ?_ ?_
    rotate_left
    · intro W hSW
      go_simp
      try with_reducible rfl
    simp only [Act.put, sA, s0, sS]
    refine tk (i := 8) (v := ?_) (oi := ⟨some 20, .convert 3 5 (.tmp 19), 5, "all.go:52", #[⟨7, .data⟩], none⟩) HS0 ?_ ?_
    rotate_left
    · intro W hSW
      go_simp
      try with_reducible rfl
    simp only [Act.put, sA, s0, sS]
    refine tk (i := 9) (v := ?_) (oi := ⟨some 21, .fieldAddr 77 (.tmp 5) 1, 0, "all.go:52", #[], none⟩) HS0 ?_ ?_
    rotate_left
    · intro W hSW
      go_simp
      try with_reducible rfl
    simp only [Act.put, sA, s0, sS]
    refine tk (i := 10) (v := ?_) (oi := ⟨some 22, .load 3 (.tmp 21), 3, "all.go:52", #[⟨9, .data⟩], none⟩) HS0 ?_ ?_
    rotate_left
    · intro W hSW
      go_simp
      try with_reducible rfl
    simp only [Act.put, sA, s0, sS]
    refine tk (i := 11) (v := ?_) (oi := ⟨some 23, .convert 3 5 (.tmp 22), 5, "all.go:52", #[⟨10, .data⟩], none⟩) HS0 ?_ ?_
    rotate_left
    · intro W hSW
      go_simp
      try with_reducible rfl
    simp only [Act.put, sA, s0, sS]
    refine tk (i := 12) (v := ?_) (oi := ⟨some 24, .fieldAddr 77 (.tmp 5) 2, 0, "all.go:52", #[], none⟩) HS0 ?_ ?_
    rotate_left
    · intro W hSW
      go_simp
      try with_reducible rfl
    simp only [Act.put, sA, s0, sS]
    refine tk (i := 13) (v := ?_) (oi := ⟨some 25, .load 3 (.tmp 24), 3, "all.go:52", #[⟨12, .data⟩], none⟩) HS0 ?_ ?_
    rotate_left
    · intro W hSW
      go_simp
      try with_reducible rfl
    simp only [Act.put, sA, s0, sS]
    refine tk (i := 15) (v := ?_) (oi := ⟨some 27, .fieldAddr 77 (.tmp 5) 2, 0, "all.go:52", #[], none⟩) HS0 ?_ ?_
    rotate_left
    · intro W hSW
      go_simp
      try with_reducible rfl
    simp only [Act.put, sA, s0, sS]
    refine tk (i := 16) (v := ?_) (oi := ⟨some 28, .load 3 (.tmp 27), 3, "all.go:52", #[⟨15, .data⟩], none⟩) HS0 ?_ ?_
    rotate_left
    · intro W hSW
      go_simp
      try with_reducible rfl
    simp only [Act.put, sA, s0, sS]
    refine tk (i := 17) (v := ?_) (oi := ⟨some 29, .convert 3 5 (.tmp 28), 5, "all.go:52", #[⟨16, .data⟩], none⟩) HS0 ?_ ?_
    rotate_left
    · intro W hSW
      go_simp
      try with_reducible rfl
    simp only [Act.put, sA, s0, sS]
    refine wpAnyL_one' (i := 4) (o := ⟨some 16, .call ⟨.value (.func 132), #[.tmp 15], #[3]⟩, 5, "all.go:52", #[⟨3, .data⟩], none⟩) (by kernel_rfl) rfl rfl (fun K0 hK => ?_)
    go_simp
    refine hH1.mono ?_
    rintro e W2 ⟨rfl, rfl⟩
    refine hK.out _ _ (fun _ => HS0) ?_
    clear hK
    refine wpAnyL_one' (i := 14) (o := ⟨some 26, .call ⟨.value (.func 132), #[.tmp 25], #[3]⟩, 5, "all.go:52", #[⟨13, .data⟩, ⟨4, .chain⟩], none⟩) (by kernel_rfl) rfl rfl (fun K0 hK => ?_)
    go_simp
    refine hH2.mono ?_
    rintro e W2 ⟨rfl, rfl⟩
    refine hK.out _ _ (fun _ => HS0) ?_
    clear hK
    refine wpAnyL_one' (i := 18) (o := ⟨some 30, .buildSlice 98 5 #[(0, .tmp 16), (1, .tmp 20), (2, .tmp 23), (3, .tmp 26), (4, .tmp 29)], 98, "all.go:52", #[⟨4, .data⟩, ⟨8, .data⟩, ⟨11, .data⟩, ⟨14, .data⟩, ⟨17, .data⟩], none⟩) (by kernel_rfl) rfl rfl (fun K0 hK => ?_)
    go_simp
    refine hK.out _ _ (fun _ => hSn) ?_
    clear hK
    refine wpAnyL_one' (i := 19) (o := ⟨some 31, .call ⟨.builtin .append, #[.tmp 12, .tmp 30], #[98, 98]⟩, 98, "all.go:52", #[⟨0, .data⟩, ⟨18, .data⟩, ⟨14, .chain⟩], none⟩) (by kernel_rfl) rfl rfl (fun K0 hK => ?_)
    rw [if_pos (by rfl)]
    refine wp_append_own _ (.tmp 12) (.tmp 30) 98 rfl w.heap.size 5 i0 _ 1 1 Tryz.underlying98 hi0 hz0 hz1 hz2 rfl (by decide) _ kl.length _ rfl HON.out ⟨wb.heap.size, 0, none⟩ 5 5 [.int .u8 z1, .int .u8 bq, .int .u8 d, .int .u8 z2, .int .u8 bt] rfl rfl HNW.out (by simp [Value.oneCell']) (by unfold maxLen; omega) (by omega) hszn ?_
    intro v5 w5 hown5 hg5 _
    obtain ⟨a5, c5, rfl⟩ := slice_of_ownK hown5
    have hg5' : (wb.drew.alloc (Obj.cells #[.int .u8 z1, .int .u8 bq, .int .u8 d, .int .u8 z2, .int .u8 bt] 5)).grownBy w5 (Value.slice ka kl.length kc).ownBlock := hg5
    have B5 : Below w.heap.size w w5 := B3.grown hg5' hszn (fun k e => (HOB.out k e).1)
    have hS5 : (w5.cell? ⟨wr.heap.size, 0, none⟩ = some (.int .i64 x0) ∧ w5.cell? ⟨wr.heap.size, 1, none⟩ = some (.int .i64 d) ∧ w5.cell? ⟨wr.heap.size, 2, none⟩ = some (.int .i64 t)) := by
      have kc' : ∀ {o : Nat} {u : Value}, (wb.drew.alloc (Obj.cells #[.int .u8 z1, .int .u8 bq, .int .u8 d, .int .u8 z2, .int .u8 bt] 5)).cell? ⟨wr.heap.size, o, none⟩ = some u → w5.cell? ⟨wr.heap.size, o, none⟩ = some u := fun {o u} hu => (World.cell?_of_block (hg5'.block _ (World.block_lt_of_cell? _ _ hu) (fun e => absurd (HOB.out _ e.symm).2 (Nat.lt_irrefl _)))).trans hu
      exact ⟨kc' hSn.1, kc' hSn.2.1, kc' hSn.2.2⟩
    have HO5 : Hid (OwnB w.heap.size (keyL (K.take (j + 1))) (.slice a5 (kl.length + 5) c5) w5) := by
      show OwnB _ _ _ _
      unfold OwnB
      rw [HT.out, List.length_append, List.map_append, HKY.out]
      exact hown5
    refine hK.out _ _ (fun _ => hS5) ?_
    clear hK hown5 hg5
    simp only [Act.put, sA, s0, sS]
    refine wpAnyL_one' (i := 20) (o := ⟨some 3, .assign (.tmp 31), 98, "all.go:52", #[⟨19, .data⟩, ⟨19, .chain⟩, ⟨0, .phase⟩, ⟨1, .phase⟩, ⟨2, .phase⟩, ⟨3, .phase⟩, ⟨4, .phase⟩, ⟨5, .phase⟩, ⟨6, .phase⟩, ⟨7, .phase⟩, ⟨8, .phase⟩, ⟨9, .phase⟩, ⟨10, .phase⟩, ⟨11, .phase⟩, ⟨12, .phase⟩, ⟨13, .phase⟩, ⟨14, .phase⟩, ⟨15, .phase⟩, ⟨16, .phase⟩, ⟨17, .phase⟩, ⟨18, .phase⟩, ⟨19, .phase⟩], none⟩) (by kernel_rfl) rfl rfl (fun K0 hK => ?_)
    go_simp
    refine hK.out _ _ (fun h => absurd h (by decide)) ?_
    clear hK
    refine wpAnyL_done (by kernel_rfl) ?_ _
    clear HSI HON HOB HNW HKY HT hS5 hSn HS0 hH1 hH2 hg5' B3 Bn Bx
    go_wp2_with fail
    exact ⟨⟨j + 1, by go_num, by omega, HO5.out, B5⟩, by simp [intOf]; omega⟩
  · obtain rfl : j = K.length := by omega
    rw [List.take_of_length_le (Nat.le_refl _)] at *
    have hk5 : 0 < (keyL K).length := by rw [keyL_len]; omega
    have HCV : Hid ((convert 98 9 (.slice ka (keyL K).length kc)).run Tryz.prog wr = .ok (valK K) wr) := by
      obtain ⟨h1, h2⟩ := hown
      rcases h2 with ⟨e, hn⟩ | ⟨g, cap, cur, e, hB, hg, h3⟩
      · omega
      · cases e
        refine run_convert_bytes_back wr _ _ 5 ⟨g, 0, none⟩ kc (keyL K) Tryz.underlying98 Tryz.underlying5 Tryz.underlying9 (fun i hi => ?_)
        exact World.ownsRow.cells (show wr.ownsRow _ _ _ _ _ _ from ⟨h1, .inr ⟨g, _, cur, rfl, hB, hg, h3⟩⟩) (g := g) rfl i _ (by simp [hi, encU8])
    clear hown hkl hk5
    go_wp2_with fail
    rw [HCV.out]
    simp only [Result.andThen]
    go_wp2_with fail
    go_ret
    exact ⟨rfl, B1⟩
end Go.Proofs.YtbilbgjojdlobaaGreatDoor
/- Tables: what lies where, and what is told of them. -/
namespace Go.Proofs.YtbilbgjojdlobaaGreatDoor
open Go.RowKit

structure Ac where
  look : Int
  to : Int
  red : List Int
  acc : Bool
deriving DecidableEq
structure Rw where
  acts : List Ac
  goes : List (Int × Int)
deriving DecidableEq
def AcsAt (l : List Ac) (ao : Option Addr) (W : World) : Prop :=
  ∀ (i : Nat) (x : Ac), l[i]? = some x → ∃ b off v, ao = some ⟨b, off, none⟩ ∧ b < W.heap.size ∧ W.cell? ⟨b, off + i * 4, none⟩ = some (.int .i64 x.look) ∧ W.cell? ⟨b, off + i * 4 + 1, none⟩ = some (.int .i64 x.to) ∧ W.cell? ⟨b, off + i * 4 + 2, none⟩ = some v ∧ W.cell? ⟨b, off + i * 4 + 3, none⟩ = some (.bool x.acc) ∧ SlI x.red v W ∧ i64B x.look ∧ i64B x.to ∧ x.red.length ≤ 140737488351232
theorem AcsAt.next {l : List Ac} {ao : Option Addr} {W W' : World} (h : AcsAt l ao W) (hb : Below W.heap.size W W') : AcsAt l ao W' := fun i r hr => by
  obtain ⟨b, off, v, h0, h1, h2, h3, h4, h5, h6, h7⟩ := h i r hr
  exact ⟨b, off, v, h0, Nat.lt_of_lt_of_le h1 hb.size, (hb.cell (p := ⟨b, off + i * 4, none⟩) h1).trans h2, (hb.cell (p := ⟨b, off + i * 4 + 1, none⟩) h1).trans h3, (hb.cell (p := ⟨b, off + i * 4 + 2, none⟩) h1).trans h4, (hb.cell (p := ⟨b, off + i * 4 + 3, none⟩) h1).trans h5, h6.next hb, h7⟩
theorem AcsAt.at {l : List Ac} {ao : Option Addr} {w W : World} (h : AcsAt l ao w) (hb : Below w.heap.size w W) {j : Nat} (hj : j < l.length) :
    ∃ b off v, ao = some ⟨b, off, none⟩ ∧ b < W.heap.size ∧ W.cell? ⟨b, off + j * 4, none⟩ = some (.int .i64 l[j].look) ∧ W.cell? ⟨b, off + j * 4 + 1, none⟩ = some (.int .i64 l[j].to) ∧ W.cell? ⟨b, off + j * 4 + 2, none⟩ = some v ∧ W.cell? ⟨b, off + j * 4 + 3, none⟩ = some (.bool l[j].acc) ∧ SlI l[j].red v W ∧ i64B l[j].look ∧ i64B l[j].to ∧ l[j].red.length ≤ 140737488351232 := h.next hb j l[j] (by simp [hj])
def SlA (l : List Ac) (v : Value) (W : World) : Prop :=
  ∃ ao cap, v = .slice ao l.length cap ∧ AcsAt l ao W ∧ (ao = none → cap = 0) ∧ l.length ≤ cap ∧ l.length ≤ 140737488351232
theorem SlA.next {l : List Ac} {v : Value} {W W' : World} (h : SlA l v W) (hb : Below W.heap.size W W') : SlA l v W' := by
  obtain ⟨ao, cap, h0, h1, h2⟩ := h
  exact ⟨ao, cap, h0, h1.next hb, h2⟩
theorem SlA.nil (W : World) : SlA [] (.slice none 0 0) W := ⟨none, 0, rfl, fun i r hr => by simp at hr, fun _ => rfl, Nat.le_refl _, Nat.zero_le _⟩
def GosAt (l : List (Int × Int)) (ao : Option Addr) (W : World) : Prop :=
  ∀ (i : Nat) (x : Int × Int), l[i]? = some x → ∃ b off, ao = some ⟨b, off, none⟩ ∧ b < W.heap.size ∧ W.cell? ⟨b, off + i * 2, none⟩ = some (.int .i64 x.1) ∧ W.cell? ⟨b, off + i * 2 + 1, none⟩ = some (.int .i64 x.2) ∧ i64B x.1 ∧ i64B x.2
theorem GosAt.next {l : List (Int × Int)} {ao : Option Addr} {W W' : World} (h : GosAt l ao W) (hb : Below W.heap.size W W') : GosAt l ao W' := fun i r hr => by
  obtain ⟨b, off, h0, h1, h2, h3, h4⟩ := h i r hr
  exact ⟨b, off, h0, Nat.lt_of_lt_of_le h1 hb.size, (hb.cell (p := ⟨b, off + i * 2, none⟩) h1).trans h2, (hb.cell (p := ⟨b, off + i * 2 + 1, none⟩) h1).trans h3, h4⟩
theorem GosAt.at {l : List (Int × Int)} {ao : Option Addr} {w W : World} (h : GosAt l ao w) (hb : Below w.heap.size w W) {j : Nat} (hj : j < l.length) :
    ∃ b off, ao = some ⟨b, off, none⟩ ∧ b < W.heap.size ∧ W.cell? ⟨b, off + j * 2, none⟩ = some (.int .i64 l[j].1) ∧ W.cell? ⟨b, off + j * 2 + 1, none⟩ = some (.int .i64 l[j].2) ∧ i64B l[j].1 ∧ i64B l[j].2 := h.next hb j l[j] (by simp [hj])
def SlG (l : List (Int × Int)) (v : Value) (W : World) : Prop :=
  ∃ ao cap, v = .slice ao l.length cap ∧ GosAt l ao W ∧ (ao = none → cap = 0) ∧ l.length ≤ cap ∧ l.length ≤ 140737488351232
theorem SlG.next {l : List (Int × Int)} {v : Value} {W W' : World} (h : SlG l v W) (hb : Below W.heap.size W W') : SlG l v W' := by
  obtain ⟨ao, cap, h0, h1, h2⟩ := h
  exact ⟨ao, cap, h0, h1.next hb, h2⟩
theorem SlG.nil (W : World) : SlG [] (.slice none 0 0) W := ⟨none, 0, rfl, fun i r hr => by simp at hr, fun _ => rfl, Nat.le_refl _, Nat.zero_le _⟩
def RwsAt (l : List Rw) (ao : Option Addr) (W : World) : Prop :=
  ∀ (i : Nat) (x : Rw), l[i]? = some x → ∃ b off va vg, ao = some ⟨b, off, none⟩ ∧ b < W.heap.size ∧ W.cell? ⟨b, off + i * 2, none⟩ = some va ∧ W.cell? ⟨b, off + i * 2 + 1, none⟩ = some vg ∧ SlA x.acts va W ∧ SlG x.goes vg W
theorem RwsAt.next {l : List Rw} {ao : Option Addr} {W W' : World} (h : RwsAt l ao W) (hb : Below W.heap.size W W') : RwsAt l ao W' := fun i r hr => by
  obtain ⟨b, off, va, vg, h0, h1, h2, h3, h4, h5⟩ := h i r hr
  exact ⟨b, off, va, vg, h0, Nat.lt_of_lt_of_le h1 hb.size, (hb.cell (p := ⟨b, off + i * 2, none⟩) h1).trans h2, (hb.cell (p := ⟨b, off + i * 2 + 1, none⟩) h1).trans h3, h4.next hb, h5.next hb⟩
theorem RwsAt.at {l : List Rw} {ao : Option Addr} {w W : World} (h : RwsAt l ao w) (hb : Below w.heap.size w W) {j : Nat} (hj : j < l.length) :
    ∃ b off va vg, ao = some ⟨b, off, none⟩ ∧ b < W.heap.size ∧ W.cell? ⟨b, off + j * 2, none⟩ = some va ∧ W.cell? ⟨b, off + j * 2 + 1, none⟩ = some vg ∧ SlA l[j].acts va W ∧ SlG l[j].goes vg W := h.next hb j l[j] (by simp [hj])
def SlW (l : List Rw) (v : Value) (W : World) : Prop :=
  ∃ ao cap, v = .slice ao l.length cap ∧ RwsAt l ao W ∧ (ao = none → cap = 0) ∧ l.length ≤ cap ∧ l.length ≤ 140737488351232
theorem SlW.next {l : List Rw} {v : Value} {W W' : World} (h : SlW l v W) (hb : Below W.heap.size W W') : SlW l v W' := by
  obtain ⟨ao, cap, h0, h1, h2⟩ := h
  exact ⟨ao, cap, h0, h1.next hb, h2⟩
theorem SlW.nil (W : World) : SlW [] (.slice none 0 0) W := ⟨none, 0, rfl, fun i r hr => by simp at hr, fun _ => rfl, Nat.le_refl _, Nat.zero_le _⟩

/-- More than one thing to be done. -/
def tornA (a : Ac) : Bool := match a.red with
  | [] => false
  | [_] => a.to != -1 || a.acc
  | _ => true
/-- Torn of the rows from number n on. -/
def tornRow (n : Int) (l : List Ac) : List (Int × Int) := (l.filter tornA).map fun a => (n, a.look)
def tornL (l : List Rw) : List (Int × Int) := (l.zipIdx).flatMap fun p => tornRow p.2 p.1.acts
theorem tornRow_succ {n : Int} {l : List Ac} {k : Nat} (hk : k < l.length) : tornRow n (l.take (k + 1)) = tornRow n (l.take k) ++ (if tornA l[k] then [(n, l[k].look)] else []) := by
  unfold tornRow
  rw [List.take_succ_eq_append_getElem hk, List.filter_append, List.map_append]
  congr 1
  by_cases h : tornA l[k] <;> simp [h]
theorem tornL_succ {l : List Rw} {k : Nat} (hk : k < l.length) : tornL (l.take (k + 1)) = tornL (l.take k) ++ tornRow k l[k].acts := by
  unfold tornL
  rw [List.take_succ_eq_append_getElem hk, List.zipIdx_append, List.flatMap_append]
  simp [Nat.min_eq_left (Nat.le_of_lt hk)]
/-- How many parts tables have. -/
def sizeA (l : List Ac) : Nat := (l.map fun a => 1 + a.red.length).sum
def sizeR (r : Rw) : Nat := 1 + r.goes.length + sizeA r.acts
def sizeTb (l : List Rw) : Nat := (l.map sizeR).sum
theorem sizeA_succ {l : List Ac} {k : Nat} (hk : k < l.length) : sizeA (l.take (k + 1)) = sizeA (l.take k) + (1 + l[k].red.length) := by
  unfold sizeA
  rw [List.take_succ_eq_append_getElem hk, List.map_append, List.sum_append]
  simp
theorem sizeTb_succ {l : List Rw} {k : Nat} (hk : k < l.length) : sizeTb (l.take (k + 1)) = sizeTb (l.take k) + sizeR l[k] := by
  unfold sizeTb
  rw [List.take_succ_eq_append_getElem hk, List.map_append, List.sum_append]
  simp
theorem sum_take_le (l : List Nat) (k : Nat) : (l.take k).sum ≤ l.sum := by
  conv => rhs; rw [← List.take_append_drop k l, List.sum_append]
  omega
theorem sizeA_le (l : List Ac) (k : Nat) : sizeA (l.take k) ≤ sizeA l := by
  unfold sizeA; rw [List.map_take]; exact sum_take_le _ _
theorem sizeTb_le (l : List Rw) (k : Nat) : sizeTb (l.take k) ≤ sizeTb l := by
  unfold sizeTb; rw [List.map_take]; exact sum_take_le _ _
end Go.Proofs.YtbilbgjojdlobaaGreatDoor
/- Writers of the program: rows of bytes that grow, one or many in a block. -/
namespace Go.Proofs.YtbilbgjojdlobaaGreatDoor
open Go.RowKit

structure Wr where
  bs : List UInt8
  bad : Bool
/-- Block g holds writers; each has bytes of its own, from block B on. -/
structure WsAt (B g : Nat) (L : List Wr) (W : World) : Prop where
  hB : B ≤ g
  blk : ∃ cs : Array Value, W.heap[g]? = some (.cells cs 102 (0, 0)) ∧ cs.size = L.length * 3
  ptr : ∀ i x, L[i]? = some x → W.cell? ⟨g, i * 3, none⟩ = some (.pointer none) ∨ W.cell? ⟨g, i * 3, none⟩ = some (.pointer (some ⟨g, i * 3, none⟩))
  buf : ∀ i x, L[i]? = some x → ∃ v, W.cell? ⟨g, i * 3 + 1, none⟩ = some v ∧ OwnB B x.bs v W
  bad : ∀ i x, L[i]? = some x → W.cell? ⟨g, i * 3 + 2, none⟩ = some (.bool x.bad)
  nil : ∀ i x v, L[i]? = some x → x.bs = [] → W.cell? ⟨g, i * 3 + 1, none⟩ = some v → v = .slice none 0 0
  apart : ∀ i j u v k, i ≠ j → W.cell? ⟨g, i * 3 + 1, none⟩ = some u → W.cell? ⟨g, j * 3 + 1, none⟩ = some v → u.ownBlock = some k → v.ownBlock = some k → False
/-- The blocks of the writers. -/
def inW (g : Nat) (W : World) (k : Nat) : Prop := k = g ∨ ∃ i v, W.cell? ⟨g, i * 3 + 1, none⟩ = some v ∧ v.ownBlock = some k
/-- Only the writers' blocks are written to; and those that they have are old ones of theirs, or new. -/
def Wrote (g : Nat) (W W' : World) : Prop := But (inW g W) W W' ∧ ∀ k, inW g W' k → inW g W k ∨ W.heap.size ≤ k
theorem Wrote.refl (g : Nat) (W : World) : Wrote g W W := ⟨But.refl _ _, fun _ h => .inl h⟩
theorem Wrote.trans {g : Nat} {a b c : World} (h : Wrote g a b) (k : Wrote g b c) : Wrote g a c :=
  ⟨⟨k.1.os.trans h.1.os, k.1.tape.trans h.1.tape, k.1.output.trans h.1.output, Nat.le_trans h.1.size k.1.size, fun i hi hd => (k.1.block i (Nat.lt_of_lt_of_le hi h.1.size) (fun hb => (h.2 i hb).elim hd (by omega))).trans (h.1.block i hi hd)⟩,
   fun i hi => (k.2 i hi).elim (h.2 i) (fun h' => .inr (Nat.le_trans h.1.size h'))⟩
theorem inW_same {g : Nat} {W W' : World} (h : W'.heap[g]? = W.heap[g]?) (k : Nat) : inW g W' k ↔ inW g W k := by
  unfold inW
  have e : ∀ i, W'.cell? ⟨g, i * 3 + 1, none⟩ = W.cell? ⟨g, i * 3 + 1, none⟩ := fun i => World.cell?_of_block h
  simp only [e]
theorem ownsRow_keep {W W' : World} {B n k : Nat} {e : TypeId} {v : Value} {xs : List Value} {D : Nat → Prop} (h : W.ownsRow B e k v n xs) (hb : But D W W') (hd : ∀ j, v.ownBlock = some j → ¬ D j) : W'.ownsRow B e k v n xs := by
  obtain ⟨h1, h2⟩ := h
  refine ⟨h1, ?_⟩
  rcases h2 with ⟨rfl, hn⟩ | ⟨g, cap, cur, rfl, hB, hg, h3⟩
  · exact .inl ⟨rfl, hn⟩
  · exact .inr ⟨g, cap, cur, rfl, hB, (hb.block g (Array.getElem?_eq_some_iff.1 hg).1 (hd g rfl)).trans hg, h3⟩
theorem WsAt.lt {B g : Nat} {L : List Wr} {W : World} (h : WsAt B g L W) : g < W.heap.size := by
  obtain ⟨cs, hc, _⟩ := h.blk
  exact (Array.getElem?_eq_some_iff.1 hc).1
theorem WsAt.inLt {B g : Nat} {L : List Wr} {W : World} (h : WsAt B g L W) {k : Nat} (hk : inW g W k) : B ≤ k ∧ k < W.heap.size := by
  rcases hk with rfl | ⟨i, v, hv, hk⟩
  · exact ⟨h.hB, h.lt⟩
  · obtain ⟨cs, hc, hs⟩ := h.blk
    have hl : i < L.length := by
      have e := hv
      rw [Lib.cell_of_heap hc] at e
      have := (Array.getElem?_eq_some_iff.1 e).1
      omega
    obtain ⟨u, hu, ho⟩ := h.buf i L[i] (by simp [hl])
    rw [hv] at hu
    cases hu
    exact World.ownsRow.lt ho k hk
theorem WsAt.keep {B g : Nat} {L : List Wr} {W W' : World} {D : Nat → Prop} (h : WsAt B g L W) (hb : But D W W') (hd : ∀ k, inW g W k → ¬ D k) : WsAt B g L W' := by
  have hg : W'.heap[g]? = W.heap[g]? := hb.block g h.lt (hd g (.inl rfl))
  have e : ∀ o, W'.cell? ⟨g, o, none⟩ = W.cell? ⟨g, o, none⟩ := fun o => World.cell?_of_block hg
  refine ⟨h.hB, by rw [hg]; exact h.blk, fun i x hx => by rw [e]; exact h.ptr i x hx, fun i x hx => ?_, fun i x hx => by rw [e]; exact h.bad i x hx, fun i x v hx hb hv => by rw [e] at hv; exact h.nil i x v hx hb hv, fun i j u v k hij hu hv => ?_⟩
  · obtain ⟨v, hv, ho⟩ := h.buf i x hx
    exact ⟨v, by rw [e]; exact hv, ownsRow_keep ho hb (fun k hk => hd k (.inr ⟨i, v, hv, hk⟩))⟩
  · rw [e] at hu hv; exact h.apart i j u v k hij hu hv
theorem WsAt.next {B g : Nat} {L : List Wr} {W W' : World} (h : WsAt B g L W) (hb : Below W.heap.size W W') : WsAt B g L W' :=
  h.keep (D := fun _ => False) (But.of_next hb) (fun _ _ h => h)
theorem WsAt.wrote {B g : Nat} {L : List Wr} {W W' : World} (h : WsAt B g L W) (hb : Below W.heap.size W W') : Wrote g W W' :=
  ⟨But.of_next hb, fun k hk => .inl ((inW_same (hb.block g h.lt) k).1 hk)⟩
theorem WsAt.below {B g : Nat} {L : List Wr} {W W' : World} (h : WsAt B g L W) (hw : Wrote g W W') (hB : B ≤ W.heap.size) : Below B W W' :=
  hw.1.below hB (fun _ hk => (h.inLt hk).1)
theorem cell_set_ne (W : World) (g o o' : Nat) (v : Value) (h : o ≠ o') : (W.setCell ⟨g, o, none⟩ v).cell? ⟨g, o', none⟩ = W.cell? ⟨g, o', none⟩ := by
  simp only [World.cell?, World.setCell, Array.getElem?_modify, if_true]
  cases W.heap[g]? with
  | none => rfl
  | some ob => cases ob <;> simp [h]
theorem blk_set {W : World} {g o : Nat} {cs : Array Value} {T : TypeId} (h : W.heap[g]? = some (.cells cs T (0, 0))) (v : Value) : (W.setCell ⟨g, o, none⟩ v).heap[g]? = some (.cells (cs.setIfInBounds o v) T (0, 0)) := by
  simp [World.setCell, Array.getElem?_modify, h]
theorem cell_set_eq {W : World} {g o : Nat} {cs : Array Value} {T : TypeId} (h : W.heap[g]? = some (.cells cs T (0, 0))) (ho : o < cs.size) (v : Value) : (W.setCell ⟨g, o, none⟩ v).cell? ⟨g, o, none⟩ = some v := by
  rw [Lib.cell_of_heap (blk_set h v)]
  simp [ho]
theorem set_block (W : World) (g o k : Nat) (v : Value) (h : k ≠ g) : (W.setCell ⟨g, o, none⟩ v).heap[k]? = W.heap[k]? := by
  simp [World.setCell, Array.getElem?_modify, Ne.symm h]
/-- A store into the block of the writers leaves the bytes. -/
theorem OwnB.set {B g o : Nat} {l : List UInt8} {v u : Value} {W : World} {cs : Array Value} (h : OwnB B l v W) (hg : W.heap[g]? = some (.cells cs 102 (0, 0))) : OwnB B l v (W.setCell ⟨g, o, none⟩ u) := by
  have hne := Lib.ownBlock_ne h hg (by decide)
  exact ownsRow_keep (D := fun k => k = g) h ((But.refl _ W).setCell _ _ (.inr rfl)) (fun j hj e => hne (by rw [hj, e]))
/-- The writer's own address. -/
theorem WsAt.setPtr {B g i : Nat} {L : List Wr} {W : World} {x : Wr} (h : WsAt B g L W) (hx : L[i]? = some x) :
    WsAt B g L (W.setCell ⟨g, i * 3, none⟩ (.pointer (some ⟨g, i * 3, none⟩))) ∧ Wrote g W (W.setCell ⟨g, i * 3, none⟩ (.pointer (some ⟨g, i * 3, none⟩))) := by
  obtain ⟨cs, hc, hs⟩ := h.blk
  have hi : i < L.length := (List.getElem?_eq_some_iff.1 hx).1
  refine ⟨⟨h.hB, ⟨_, blk_set hc _, by simp [hs]⟩, fun j y hy => ?_, fun j y hy => ?_, fun j y hy => ?_, fun j y v hy hb hv => by rw [cell_set_ne _ _ _ _ _ (by omega)] at hv; exact h.nil j y v hy hb hv, fun a b u v k hab hu hv => ?_⟩, (But.refl _ W).setCell _ _ (.inr (.inl rfl)), fun k hk => .inl ?_⟩
  · by_cases hij : j = i
    · subst hij; exact .inr (cell_set_eq hc (by omega) _)
    · rw [cell_set_ne _ _ _ _ _ (by omega)]; exact h.ptr j y hy
  · obtain ⟨v, hv, ho⟩ := h.buf j y hy
    exact ⟨v, by rw [cell_set_ne _ _ _ _ _ (by omega)]; exact hv, ho.set hc⟩
  · rw [cell_set_ne _ _ _ _ _ (by omega)]; exact h.bad j y hy
  · rw [cell_set_ne _ _ _ _ _ (by omega)] at hu hv; exact h.apart a b u v k hab hu hv
  · rcases hk with rfl | ⟨j, v, hv, hk⟩
    · exact .inl rfl
    · rw [cell_set_ne _ _ _ _ _ (by omega)] at hv; exact .inr ⟨j, v, hv, hk⟩
/-- That a number is beyond. -/
theorem WsAt.setBad {B g i : Nat} {L : List Wr} {W : World} {x : Wr} (b : Bool) (h : WsAt B g L W) (hx : L[i]? = some x) :
    WsAt B g (L.set i ⟨x.bs, b⟩) (W.setCell ⟨g, i * 3 + 2, none⟩ (.bool b)) ∧ Wrote g W (W.setCell ⟨g, i * 3 + 2, none⟩ (.bool b)) := by
  obtain ⟨cs, hc, hs⟩ := h.blk
  have hi : i < L.length := (List.getElem?_eq_some_iff.1 hx).1
  have hg : ∀ (j : Nat) (y : Wr), (L.set i ⟨x.bs, b⟩)[j]? = some y → (j = i ∧ y = ⟨x.bs, b⟩) ∨ (j ≠ i ∧ L[j]? = some y) := fun j y hy => by
    rw [List.getElem?_set] at hy
    by_cases hij : i = j
    · rw [if_pos hij, if_pos (by omega)] at hy; exact .inl ⟨hij.symm, by simpa using hy.symm⟩
    · rw [if_neg hij] at hy; exact .inr ⟨fun e => hij e.symm, hy⟩
  refine ⟨⟨h.hB, ⟨_, blk_set hc _, by simp [hs]⟩, fun j y hy => ?_, fun j y hy => ?_, fun j y hy => ?_, fun j y v hy hb hv => ?_, fun a c u v k hab hu hv => ?_⟩, (But.refl _ W).setCell _ _ (.inr (.inl rfl)), fun k hk => .inl ?_⟩
  · rw [cell_set_ne _ _ _ _ _ (by omega)]
    rcases hg j y hy with ⟨rfl, rfl⟩ | ⟨_, hy'⟩
    · exact h.ptr _ x hx
    · exact h.ptr j y hy'
  · rw [cell_set_ne _ _ _ _ _ (by omega)]
    rcases hg j y hy with ⟨rfl, rfl⟩ | ⟨_, hy'⟩
    · obtain ⟨v, hv, ho⟩ := h.buf _ x hx
      exact ⟨v, hv, ho.set hc⟩
    · obtain ⟨v, hv, ho⟩ := h.buf j y hy'
      exact ⟨v, hv, ho.set hc⟩
  · rcases hg j y hy with ⟨rfl, rfl⟩ | ⟨hn, hy'⟩
    · exact cell_set_eq hc (by omega) _
    · rw [cell_set_ne _ _ _ _ _ (by omega)]; exact h.bad j y hy'
  · rw [cell_set_ne _ _ _ _ _ (by omega)] at hv
    rcases hg j y hy with ⟨rfl, rfl⟩ | ⟨_, hy'⟩
    · exact h.nil _ x v hx hb hv
    · exact h.nil j y v hy' hb hv
  · rw [cell_set_ne _ _ _ _ _ (by omega)] at hu hv; exact h.apart a c u v k hab hu hv
  · rcases hk with rfl | ⟨j, v, hv, hk⟩
    · exact .inl rfl
    · rw [cell_set_ne _ _ _ _ _ (by omega)] at hv; exact .inr ⟨j, v, hv, hk⟩
/-- Behind an append to the bytes of one of them. -/
theorem WsAt.put {B g i : Nat} {L : List Wr} {W W1 : World} {x : Wr} {v v' : Value} {l : List UInt8} (h : WsAt B g L W) (hx : L[i]? = some x) (hv : W.cell? ⟨g, i * 3 + 1, none⟩ = some v) (hgr : W.grownBy W1 v.ownBlock) (ho : OwnB B l v' W1)
    (hat : v'.ownBlock = v.ownBlock ∨ v'.ownBlock = some W.heap.size) (hl : l ≠ []) :
    WsAt B g (L.set i ⟨l, x.bad⟩) (W1.setCell ⟨g, i * 3 + 1, none⟩ v') ∧ Wrote g W (W1.setCell ⟨g, i * 3 + 1, none⟩ v') := by
  obtain ⟨cs, hc, hs⟩ := h.blk
  have hi : i < L.length := (List.getElem?_eq_some_iff.1 hx).1
  obtain ⟨v0, hv0, ho0⟩ := h.buf i x hx
  obtain rfl : v = v0 := by rw [hv] at hv0; exact Option.some.inj hv0
  have hne := Lib.ownBlock_ne ho0 hc (by decide)
  have hc1 : W1.heap[g]? = some (.cells cs 102 (0, 0)) := (hgr.block g h.lt (fun e => hne e.symm)).trans hc
  have e1 : ∀ o, W1.cell? ⟨g, o, none⟩ = W.cell? ⟨g, o, none⟩ := fun o => World.cell?_of_block (hgr.block g h.lt (fun e => hne e.symm))
  have hg : ∀ (j : Nat) (y : Wr), (L.set i ⟨l, x.bad⟩)[j]? = some y → (j = i ∧ y = ⟨l, x.bad⟩) ∨ (j ≠ i ∧ L[j]? = some y) := fun j y hy => by
    rw [List.getElem?_set] at hy
    by_cases hij : i = j
    · rw [if_pos hij, if_pos (by omega)] at hy; exact .inl ⟨hij.symm, by simpa using hy.symm⟩
    · rw [if_neg hij] at hy; exact .inr ⟨fun e => hij e.symm, hy⟩
  have hold : ∀ (j : Nat) (u : Value) (k : Nat), W.cell? ⟨g, j * 3 + 1, none⟩ = some u → u.ownBlock = some k → k < W.heap.size := fun j u k hu hk => (h.inLt (.inr ⟨j, u, hu, hk⟩)).2
  have hB1 : But (inW g W) W (W1.setCell ⟨g, i * 3 + 1, none⟩ v') := by
    refine But.setCell (D := inW g W) ⟨hgr.os, hgr.tape, hgr.output, hgr.size, fun k hk hd => hgr.block k hk (fun e => hd (.inr ⟨i, v, hv, e.symm⟩))⟩ _ _ (.inr (.inl rfl))
  refine ⟨⟨h.hB, ⟨_, blk_set hc1 _, by simp [hs]⟩, fun j y hy => ?_, fun j y hy => ?_, fun j y hy => ?_, fun j y q hy hb hq => ?_, fun a c p q k hab hu hv2 hp hq => ?_⟩, hB1, fun k hk => ?_⟩
  · rw [cell_set_ne _ _ _ _ _ (by omega), e1]
    rcases hg j y hy with ⟨rfl, rfl⟩ | ⟨_, hy'⟩
    · exact h.ptr _ x hx
    · exact h.ptr j y hy'
  · rcases hg j y hy with ⟨rfl, rfl⟩ | ⟨hn, hy'⟩
    · exact ⟨v', cell_set_eq hc1 (by omega) _, ho.set hc1⟩
    · obtain ⟨u, hu, hou⟩ := h.buf j y hy'
      refine ⟨u, by rw [cell_set_ne _ _ _ _ _ (by omega), e1]; exact hu, OwnB.set (World.ownsRow.kept hou hgr ?_) hc1⟩
      cases hub : u.ownBlock with
      | none => exact .inl rfl
      | some k => exact .inr (fun e => h.apart i j v u k (fun e => hn e.symm) hv hu e.symm hub)
  · rw [cell_set_ne _ _ _ _ _ (by omega), e1]
    rcases hg j y hy with ⟨rfl, rfl⟩ | ⟨_, hy'⟩
    · exact h.bad _ x hx
    · exact h.bad j y hy'
  · rcases hg j y hy with ⟨rfl, rfl⟩ | ⟨hn, hy'⟩
    · exact absurd hb hl
    · rw [cell_set_ne _ _ _ _ _ (by omega), e1] at hq
      exact h.nil j y q hy' hb hq
  · have hcase : ∀ (a : Nat) (p : Value), (W1.setCell ⟨g, i * 3 + 1, none⟩ v').cell? ⟨g, a * 3 + 1, none⟩ = some p → (a = i ∧ p = v') ∨ (a ≠ i ∧ W.cell? ⟨g, a * 3 + 1, none⟩ = some p) := fun a p ha => by
      by_cases hai : a = i
      · subst hai
        rw [cell_set_eq hc1 (by omega)] at ha
        exact .inl ⟨rfl, (Option.some.inj ha).symm⟩
      · rw [cell_set_ne _ _ _ _ _ (by omega), e1] at ha
        exact .inr ⟨hai, ha⟩
    rcases hcase a p hu with ⟨rfl, rfl⟩ | ⟨ha, hu'⟩
    · rcases hcase c q hv2 with ⟨rfl, rfl⟩ | ⟨hc', hv'⟩
      · exact hab rfl
      · rcases hat with e | e
        · exact h.apart _ c v q k hab hv hv' (by rw [← e]; exact hp) hq
        · rw [e] at hp; cases hp
          have := hold c q _ hv' hq; omega
    · rcases hcase c q hv2 with ⟨rfl, rfl⟩ | ⟨hc', hv'⟩
      · rcases hat with e | e
        · exact h.apart a _ p v k hab hu' hv hp (by rw [← e]; exact hq)
        · rw [e] at hq; cases hq
          have := hold a p _ hu' hp; omega
      · exact h.apart a c p q k hab hu' hv' hp hq
  · rcases hk with rfl | ⟨j, u, hu, hk⟩
    · exact .inl (.inl rfl)
    · by_cases hji : j = i
      · subst hji
        rw [cell_set_eq hc1 (by omega)] at hu
        cases hu
        rcases hat with e | e
        · exact .inl (.inr ⟨j, v, hv, by rw [← e]; exact hk⟩)
        · rw [e] at hk; cases hk; exact .inr (Nat.le_refl _)
      · rw [cell_set_ne _ _ _ _ _ (by omega), e1] at hu
        exact .inl (.inr ⟨j, u, hu, hk⟩)
/-- A new one. -/
theorem WsAt.one {B : Nat} (W : World) (hB : B ≤ W.heap.size) : WsAt B W.heap.size [⟨[], false⟩] (W.alloc (.cells #[.pointer none, .slice none 0 0, .bool false] 102)) := by
  have hb : (W.alloc (.cells #[.pointer none, .slice none 0 0, .bool false] 102)).heap[W.heap.size]? = some (.cells #[.pointer none, .slice none 0 0, .bool false] 102 (0, 0)) := heap_alloc_new W _
  have hz : ∀ (i : Nat) (x : Wr), ([⟨[], false⟩] : List Wr)[i]? = some x → i = 0 ∧ x = ⟨[], false⟩ := fun i x hx => by
    rcases i with _ | i
    · simp at hx; exact ⟨rfl, hx.symm⟩
    · simp at hx
  refine ⟨hB, ⟨_, hb, rfl⟩, fun i x hx => ?_, fun i x hx => ?_, fun i x hx => ?_, fun i x v hx _ hv => ?_, fun i j u v k hij hu hv => ?_⟩
  · obtain ⟨rfl, rfl⟩ := hz i x hx
    exact .inl (by rw [Lib.cell_of_heap hb]; rfl)
  · obtain ⟨rfl, rfl⟩ := hz i x hx
    exact ⟨.slice none 0 0, by rw [Lib.cell_of_heap hb]; rfl, World.ownsRow_nil _ _ _ _⟩
  · obtain ⟨rfl, rfl⟩ := hz i x hx
    rw [Lib.cell_of_heap hb]; rfl
  · obtain ⟨rfl, rfl⟩ := hz i x hx
    rw [Lib.cell_of_heap hb] at hv
    exact (Option.some.inj hv).symm
  · rw [Lib.cell_of_heap hb] at hu hv
    have h1 := (Array.getElem?_eq_some_iff.1 hu).1
    have h2 := (Array.getElem?_eq_some_iff.1 hv).1
    simp at h1 h2
    omega
end Go.Proofs.YtbilbgjojdlobaaGreatDoor
/- The document's Light of tables. -/
namespace Go.Proofs.YtbilbgjojdlobaaGreatDoor
open Go.RowKit

theorem below_box (w : World) (v : Value) (t : TypeId) : Below w.heap.size w (w.alloc (Obj.cells #[v] t)) := (Below.refl _ _).alloc (Nat.le_refl _) _

end Go.Proofs.YtbilbgjojdlobaaGreatDoor
/- Rows of pairs of one's own. -/
namespace Go.Proofs.YtbilbgjojdlobaaGreatDoor
open Go.RowKit

def encP (p : Int × Int) : List Value := [.int .i64 p.1, .int .i64 p.2]
def okP (p : Int × Int) : Prop := i64B p.1 ∧ i64B p.2
/-- A row of pairs of one's own, its elements of the type t. -/
def OwnP (t : TypeId) (B : Nat) (l : List (Int × Int)) (v : Value) (W : World) : Prop := W.ownsRow B t 2 v l.length (l.flatMap encP)
theorem flatP_get : ∀ {l : List (Int × Int)} {i c : Nat} {x : Int × Int}, l[i]? = some x → c < 2 → (l.flatMap encP)[i * 2 + c]? = (encP x)[c]?
  | y :: l, 0, c, x, h, hc => by
    simp at h; subst h
    rw [List.flatMap_cons, Nat.zero_mul, Nat.zero_add, List.getElem?_append_left (by simp [encP]; exact hc)]
  | y :: l, i + 1, c, x, h, hc => by
    simp at h
    rw [List.flatMap_cons, List.getElem?_append_right (by simp [encP]; omega)]
    have e : (i + 1) * 2 + c - (encP y).length = i * 2 + c := by simp [encP]; omega
    rw [e]
    exact flatP_get h hc
theorem OwnP.nil (t : TypeId) (B : Nat) (W : World) : OwnP t B [] (.slice none 0 0) W := World.ownsRow_nil W B t 2
theorem OwnP.sl {t : TypeId} {B : Nat} {l : List (Int × Int)} {v : Value} {W : World} (h : OwnP t B l v W) (hok : ∀ x ∈ l, okP x) (hlen : l.length ≤ 140737488351232) : SlG l v W := by
  have h0 := h
  obtain ⟨h1, h2⟩ := h
  rcases h2 with ⟨rfl, hn⟩ | ⟨g, cap, cur, rfl, hB, hg, hcap, hm, hsz, hx⟩
  · obtain rfl : l = [] := List.eq_nil_of_length_eq_zero hn
    exact SlG.nil W
  · have hgl : g < W.heap.size := (Array.getElem?_eq_some_iff.1 hg).1
    refine ⟨some ⟨g, 0, none⟩, cap, rfl, fun i x hi => ⟨g, 0, rfl, hgl, ?_, ?_, hok x (List.mem_of_getElem? hi)⟩, (fun h => by cases h), hcap, hlen⟩
    · have := World.ownsRow.cells h0 (g := g) rfl (i * 2 + 0) (.int .i64 x.1) (by rw [flatP_get hi (by omega)]; rfl)
      rw [add_plain] at this
      simpa using this
    · have := World.ownsRow.cells h0 (g := g) rfl (i * 2 + 1) (.int .i64 x.2) (by rw [flatP_get hi (by omega)]; rfl)
      rw [add_plain] at this
      simpa [Nat.add_assoc] using this
theorem own_apart2 {W : World} {B n k : Nat} {e : TypeId} {v : Value} {xs : List Value} (h : W.ownsRow B e k v n xs) : Apart B v := by
  intro ad m c hv
  rcases h.2 with ⟨rfl, _⟩ | ⟨g, c, cur, rfl, hb, _⟩
  · cases hv
  · cases hv; exact hb
theorem own_slice2 {W : World} {B n k : Nat} {e : TypeId} {v : Value} {xs : List Value} (h : W.ownsRow B e k v n xs) : ∃ a c, v = .slice a n c := by
  rcases h.2 with ⟨rfl, h'⟩ | ⟨g, c, cur, rfl, _⟩
  · exact ⟨none, 0, by rw [h']⟩
  · exact ⟨_, _, rfl⟩
theorem ownsRow_below4 {W W' : World} {B n k : Nat} {e : TypeId} {v : Value} {xs : List Value} (h : W.ownsRow B e k v n xs) (hb : Below W.heap.size W W') : W'.ownsRow B e k v n xs := by
  obtain ⟨h1, h2⟩ := h
  refine ⟨h1, ?_⟩
  rcases h2 with h2 | ⟨g, cap, cur, rfl, hB, hg, rest⟩
  · exact .inl h2
  · exact .inr ⟨g, cap, cur, rfl, hB, (hb.block g (Array.getElem?_eq_some_iff.1 hg).1).trans hg, rest⟩
theorem infoArr2 : (Tryz.prog.info? 38).map (fun i => (i.zero, i.size, i.bytes)) = some (some (.agg #[.int .i64 0, .int .i64 0]), 2, 16) := by kernel_rfl
theorem new_cellP (W : World) (x : Int × Int) (t : TypeId) : ∀ (k : Nat) (u : Value), (encP x)[k]? = some u → (W.alloc (Obj.cells #[.int .i64 x.1, .int .i64 x.2] t)).cell? ((⟨W.heap.size, 0, none⟩ : Addr).add k) = some u := by
  intro k u hk
  rw [add_plain]
  rcases k with _ | _ | k
  · simp [encP] at hk; subst hk; simp
  · simp [encP] at hk; subst hk; simp
  · simp [encP] at hk
theorem sizeTb_acts {l : List Rw} {k : Nat} (hk : k < l.length) : sizeA l[k].acts ≤ sizeTb l := by
  have h1 := sizeTb_succ hk
  have h2 := sizeTb_le l (k + 1)
  unfold sizeR at h1; omega
theorem sizeA_len (l : List Ac) : l.length ≤ sizeA l := by
  induction l with
  | nil => simp [sizeA]
  | cons a l ih => unfold sizeA at *; simp; omega
theorem tornRow_len (n : Int) (l : List Ac) : (tornRow n l).length ≤ sizeA l := by
  unfold tornRow
  rw [List.length_map]
  exact Nat.le_trans (List.length_filter_le _ _) (sizeA_len l)
theorem tornL_len (l : List Rw) : (tornL l).length ≤ sizeTb l := by
  have : ∀ k, k ≤ l.length → (tornL (l.take k)).length ≤ sizeTb (l.take k) := by
    intro k
    induction k with
    | zero => intro _; simp [tornL, sizeTb]
    | succ k ih =>
      intro hk
      rw [tornL_succ hk, sizeTb_succ hk, List.length_append]
      have := ih (by omega)
      have h2 := tornRow_len k l[k].acts
      unfold sizeR; omega
  have h := this l.length (Nat.le_refl _)
  rwa [List.take_of_length_le (Nat.le_refl _)] at h
theorem mem_tornL {l : List Rw} {p : Int × Int} (h : p ∈ tornL l) : ∃ (i : Nat) (hi : i < l.length) (a : Ac), p = ((i : Int), a.look) ∧ a ∈ l[i].acts := by
  unfold tornL at h
  obtain ⟨⟨r, i⟩, hr, hp⟩ := List.mem_flatMap.1 h
  have hg := List.mem_zipIdx_iff_getElem?.1 hr
  simp at hg hp
  unfold tornRow at hp
  obtain ⟨a, ha, rfl⟩ := List.mem_map.1 hp
  obtain ⟨hi, e⟩ := List.getElem?_eq_some_iff.1 hg
  exact ⟨i, hi, a, rfl, by rw [e]; exact (List.mem_filter.1 ha).1⟩
end Go.Proofs.YtbilbgjojdlobaaGreatDoor
/- The document's Torn. -/
namespace Go.Proofs.YtbilbgjojdlobaaGreatDoor
open Go.RowKit

theorem torn_iff (a : Ac) : tornA a = true ↔ 0 < a.red.length ∧ 1 < a.red.length + (if a.to = -1 then 0 else 1) + (if a.acc = true then 1 else 0) := by
  obtain ⟨lk, t, r, c⟩ := a
  unfold tornA
  rcases r with _ | ⟨x, _ | ⟨y, r⟩⟩
  · simp
  · by_cases h : t = -1 <;> cases c <;> simp [h]
  · simp; omega
theorem torn_false {a : Ac} (h : ¬ (0 < a.red.length ∧ 1 < a.red.length + (if a.to = -1 then 0 else 1) + (if a.acc = true then 1 else 0))) : tornA a = false := by
  cases e : tornA a
  · rfl
  · exact absurd ((torn_iff a).1 e) h
theorem ok_torn {l : List Rw} {v : Value} {w : World} (h : SlW l v w) : ∀ p ∈ tornL l, okP p := fun p hp => by
  obtain ⟨i, hi, a, rfl, ha⟩ := mem_tornL hp
  obtain ⟨_, _, rfl, hr, _, _, hb⟩ := h
  obtain ⟨_, _, _, _, _, _, _, _, hA, _⟩ := hr.at (Below.refl _ _) hi
  obtain ⟨_, _, _, hacs, _⟩ := hA
  obtain ⟨k, hk, e⟩ := List.getElem_of_mem ha
  obtain ⟨_, _, _, _, _, _, _, _, _, _, hlk, _⟩ := hacs.at (Below.refl _ _) hk
  refine ⟨?_, by rw [← e]; exact hlk⟩
  show -9223372036854775808 ≤ (i : Int) ∧ (i : Int) ≤ 9223372036854775807
  omega

end Go.Proofs.YtbilbgjojdlobaaGreatDoor
/- Torn of the program. -/
namespace Go.Proofs.YtbilbgjojdlobaaGreatDoor
open Go.RowKit

set_option maxRecDepth 100000 in
set_option maxHeartbeats 1600000 in
theorem isTorn_any (a : Ac) (u : Value) (w : World) (hu : SlI a.red u w) :
    Calls Tryz.prog 38 #[.agg #[.int .i64 a.look, .int .i64 a.to, u, .bool a.acc]] w fun e w' => e = .returned (.bool (tornA a)) ∧ Below w.heap.size w w' := by
  obtain ⟨ua, uc, rfl, _⟩ := hu
  obtain ⟨a0, a1, ar, a3⟩ := a
  simp only at *
  have HTF : Hid (¬ (0 < ar.length ∧ 1 < ar.length + (if a1 = -1 then 0 else 1) + (if a3 = true then 1 else 0)) → tornA ⟨a0, a1, ar, a3⟩ = false) := fun h => torn_false h
  have HTT : Hid ((0 < ar.length ∧ 1 < ar.length + (if a1 = -1 then 0 else 1) + (if a3 = true then 1 else 0)) → tornA ⟨a0, a1, ar, a3⟩ = true) := (torn_iff ⟨a0, a1, ar, a3⟩).2
  have B0 : Below w.heap.size w (w.alloc (Obj.cells #[.int .i64 a0, .int .i64 a1, .slice ua ar.length uc, .bool a3] 45)) := (Below.refl _ _).alloc (Nat.le_refl _) _
  go_enter Tryz.func38, Tryz.ntmps38
  rcases Nat.lt_trichotomy ar.length 1 with h | h | h
  · have h0 : ((ar.length : Int) == 0) = true := by simp; exact List.eq_nil_of_length_eq_zero (by omega)
    have h0' : (ar.length : Int) = 0 := by omega
    have HE : Hid (tornA ⟨a0, a1, ar, a3⟩ = false) := HTF.out (fun q => by have := q.1; omega)
    clear HTF HTT
    go_wp2_with fail
    go_ret
    exact ⟨by rw [HE.out]; rfl, B0⟩
  · have h0 : ((ar.length : Int) == 0) = false := by rw [h]; rfl
    have h0' : ¬ (ar.length : Int) = 0 := by omega
    have h1 : ((ar.length : Int) == 1) = true := by rw [h]; rfl
    have h1' : (ar.length : Int) = 1 := by omega
    by_cases ht : a1 = -1
    · subst ht
      cases a3 with
      | true =>
        have HE : Hid (tornA ⟨a0, -1, ar, true⟩ = true) := HTT.out ⟨by omega, by simp only [reduceIte, Nat.add_zero]; omega⟩
        clear HTF HTT
        go_wp2_with fail
        go_ret
        exact ⟨by rw [HE.out]; rfl, by rw [h] at B0; exact B0⟩
      | false =>
        have HE : Hid (tornA ⟨a0, -1, ar, false⟩ = false) := HTF.out (fun q => by have h2 := q.2; simp only [reduceIte, Bool.false_eq_true, Nat.add_zero] at h2; omega)
        clear HTF HTT
        go_wp2_with fail
        go_ret
        exact ⟨by rw [HE.out]; rfl, by rw [h] at B0; exact B0⟩
    · have ht2 : (a1 != -1) = true := by simpa using ht
      have HE : Hid (tornA ⟨a0, a1, ar, a3⟩ = true) := HTT.out ⟨by omega, by simp only [if_neg ht]; omega⟩
      clear HTF HTT
      go_wp2_with fail
      go_ret
      exact ⟨by rw [HE.out]; rfl, by rw [h] at B0; exact B0⟩
  · have h0 : ((ar.length : Int) == 0) = false := beq_eq_false_iff_ne.2 (by omega)
    have h0' : ¬ (ar.length : Int) = 0 := by omega
    have h1 : ((ar.length : Int) == 1) = false := beq_eq_false_iff_ne.2 (by omega)
    have h1' : ¬ (ar.length : Int) = 1 := by omega
    have HE : Hid (tornA ⟨a0, a1, ar, a3⟩ = true) := HTT.out ⟨by omega, by omega⟩
    clear HTF HTT
    go_wp2_with fail
    go_ret
    exact ⟨by rw [HE.out]; rfl, B0⟩

set_option maxRecDepth 100000 in
set_option maxHeartbeats 4000000 in
theorem torn_any (l : List Rw) (v : Value) (w : World) (hl : SlW l v w) (hsz : sizeTb l ≤ 100000000) :
    Calls Tryz.prog 12 #[.agg #[v]] w fun e w' => ∃ v', e = .returned v' ∧ SlG (tornL l) v' w' ∧ Apart w.heap.size v' ∧ Below w.heap.size w w' := by
  obtain ⟨i0, hi0, hz0, hz1, hz2⟩ := info_parts infoArr2
  have HIS : Hid (∀ (a : Ac) (u : Value) W, SlI a.red u W → Calls Tryz.prog 38 #[.agg #[.int .i64 a.look, .int .i64 a.to, u, .bool a.acc]] W fun e w' => e = .returned (.bool (tornA a)) ∧ Below W.heap.size W w') := fun a u W h => isTorn_any a u W h
  have HL : Hid (∀ W, Below w.heap.size w W → SlW l v W) := fun W hb => hl.next hb
  have HOK : Hid (∀ p ∈ tornL l, okP p) := ok_torn hl
  have HTL : Hid ((tornL l).length ≤ sizeTb l) := tornL_len l
  obtain ⟨la, lc, rfl, _, _, _, hlb⟩ := hl
  have B0 := below_box w (.slice la l.length lc) 30
  go_enter Tryz.func12, Tryz.ntmps12
  go_wp2_with fail
  have HT : Hid (∀ W, Below (w.alloc (Obj.cells #[.slice la l.length lc] 30)).heap.size (w.alloc (Obj.cells #[.slice la l.length lc] 30)) W → Below w.heap.size w W) := fun W hb => below_then B0 hb B0.size
  have HZ : Hid (w.heap.size ≤ (w.alloc (Obj.cells #[.slice la l.length lc] 30)).heap.size) := B0.size
  clear B0
  generalize w.alloc (Obj.cells #[.slice la l.length lc] 30) = w0 at *
  go_loopw [3, 11] (fun ov iv wr => ∃ (i : Nat), iv = .int .i64 i ∧ i ≤ l.length ∧ OwnP 38 w0.heap.size (tornL (l.take i)) ov wr ∧ Below w0.heap.size w0 wr) (fun _ i _ => l.length - (intOf i).toNat)
  case atStart => exact ⟨0, rfl, Nat.zero_le _, by simpa [tornL] using OwnP.nil _ _ _, Below.refl _ _⟩
  case round =>
  obtain ⟨i, rfl, hi, hown, BR⟩ := hrel
  obtain ⟨oa, oc, rfl⟩ := own_slice2 hown
  have HO : Hid (OwnP 38 w0.heap.size (tornL (l.take i)) (.slice oa (tornL (l.take i)).length oc) wr) := hown
  clear hown
  have BW := HT.out _ BR
  by_cases hlt : i < l.length
  case neg =>
    obtain rfl : i = l.length := by omega
    rw [List.take_of_length_le (Nat.le_refl _)] at HO ⊢
    go_wp2_with fail
    go_ret
    exact ⟨_, rfl, OwnP.sl HO.out HOK.out (by have := HTL.out; omega), (own_apart2 HO.out).mono HZ.out, BW⟩
  obtain ⟨_, _, e0, hrws, _⟩ := HL.out _ (Below.refl _ w)
  cases e0
  obtain ⟨b, off, va, vg, rfl, hb, ca0, cg0, hA, hG⟩ := hrws.at (Below.refl _ _) hlt
  have ca := (BW.cell (p := ⟨b, off + i * 2, none⟩) hb).trans ca0
  have cg := (BW.cell (p := ⟨b, off + i * 2 + 1, none⟩) hb).trans cg0
  have HSN : Hid (tornL (l.take (i + 1)) = tornL (l.take i) ++ tornRow i l[i].acts) := tornL_succ hlt
  have hsA : sizeTb (l.take i) + sizeA l[i].acts ≤ 100000000 := by
    have h1 := sizeTb_succ hlt
    have h2 := sizeTb_le l (i + 1)
    unfold sizeR at h1; omega
  have htl : (tornL (l.take i)).length ≤ sizeTb (l.take i) := tornL_len _
  generalize l[i] = r at *
  have HAA : Hid (∀ W, Below w.heap.size w W → SlA r.acts va W) := fun W hb => hA.next hb
  obtain ⟨aa, ac, rfl, _, _, _, hab⟩ := hA
  obtain ⟨ga, gc, rfl, _⟩ := hG
  generalize sizeTb (l.take i) = SZ at *
  generalize tornL (l.take i) = T at *
  clear hrws ca0 cg0
  generalize wr = wx at *
  have BX : Below w0.heap.size w0 (wx.alloc (Obj.cells #[.slice aa r.acts.length ac, .slice ga r.goes.length gc] 68)) := BR.alloc BR.size _
  have HOX : Hid (OwnP 38 w0.heap.size T (.slice oa T.length oc) (wx.alloc (Obj.cells #[.slice aa r.acts.length ac, .slice ga r.goes.length gc] 68))) := World.ownsRow.alloc HO.out _
  go_wp2_with fail
  clear ca cg HO
  generalize wx.alloc (Obj.cells #[.slice aa r.acts.length ac, .slice ga r.goes.length gc] 68) = w2 at *
  go_loopw [3, 19] (fun ov kv wr => ∃ (k : Nat), kv = .int .i64 k ∧ k ≤ r.acts.length ∧ OwnP 38 w0.heap.size (T ++ tornRow i (r.acts.take k)) ov wr ∧ Below w0.heap.size w0 wr) (fun _ i _ => r.acts.length - (intOf i).toNat)
  case atStart => exact ⟨0, rfl, Nat.zero_le _, by simpa [tornRow] using HOX.out, BX⟩
  case round =>
  clear HOX BW BR BX
  obtain ⟨k, rfl, hk, hown, BK⟩ := hrel
  obtain ⟨pa, pc, rfl⟩ := own_slice2 hown
  have hszk := BK.size
  have BW := HT.out _ BK
  by_cases hkl : k < r.acts.length
  case neg =>
    obtain rfl : k = r.acts.length := by omega
    rw [List.take_of_length_le (Nat.le_refl _)] at hown ⊢
    have HO2 : Hid (OwnP 38 w0.heap.size (T ++ tornRow i r.acts) (.slice pa (T ++ tornRow i r.acts).length pc) wr) := hown
    clear hown
    generalize T ++ tornRow i r.acts = T2 at *
    go_wp2_with fail
    exact ⟨⟨i + 1, by go_num, by omega, by rw [HSN.out]; exact HO2.out, BK⟩, by simp [intOf]; omega⟩
  obtain ⟨_, _, e0, hacs, _⟩ := HAA.out _ BW
  cases e0
  obtain ⟨b2, off2, v2, rfl, hb2, a0, a1, a2, a3, hred, _, _, hrb⟩ := hacs.at (Below.refl _ _) hkl
  have HTR : Hid (tornRow i (r.acts.take (k + 1)) = tornRow i (r.acts.take k) ++ (if tornA r.acts[k] then [((i : Int), r.acts[k].look)] else [])) := tornRow_succ hkl
  have hlen2 : (tornRow i (r.acts.take k)).length ≤ sizeA r.acts := Nat.le_trans (tornRow_len _ _) (sizeA_le _ _)
  have hlen3 : (T ++ tornRow i (r.acts.take k)).length ≤ 100000000 := by rw [List.length_append]; omega
  unfold OwnP at hown
  obtain ⟨RL, hRL⟩ : ∃ RL, T ++ tornRow i (r.acts.take k) = RL := ⟨_, rfl⟩
  have HRL : Hid (T ++ tornRow i (r.acts.take k) = RL) := hRL
  rw [hRL] at hown hlen3 ⊢
  clear hRL
  generalize r.acts[k] = x at *
  have HNO : Hid (tornA x = false → T ++ tornRow i (r.acts.take (k + 1)) = RL) := fun h => by
    rw [HTR.out, h, ← HRL.out]; simp
  have HYES : Hid (tornA x = true → T ++ tornRow i (r.acts.take (k + 1)) = RL ++ [((i : Int), x.look)]) := fun h => by
    rw [HTR.out, h, ← HRL.out]; simp
  have HX := HIS.out x v2 (wr.alloc (Obj.cells #[.int .i64 x.look, .int .i64 x.to, v2, .bool x.acc] 45)) (hred.next ((Below.refl _ _).alloc (Nat.le_refl _) _))
  obtain ⟨da, dc, rfl, _⟩ := hred
  have HOX : Hid (OwnP 38 w0.heap.size RL (.slice pa RL.length pc) (wr.alloc (Obj.cells #[.int .i64 x.look, .int .i64 x.to, .slice da x.red.length dc, .bool x.acc] 45))) := World.ownsRow.alloc hown _
  have BX : Below w0.heap.size w0 (wr.alloc (Obj.cells #[.int .i64 x.look, .int .i64 x.to, .slice da x.red.length dc, .bool x.acc] 45)) := BK.alloc hszk _
  have y0 : (wr.alloc (Obj.cells #[.int .i64 x.look, .int .i64 x.to, .slice da x.red.length dc, .bool x.acc] 45)).cell? ⟨wr.heap.size, 0, none⟩ = some (.int .i64 x.look) := by simp
  have yl : wr.heap.size < (wr.alloc (Obj.cells #[.int .i64 x.look, .int .i64 x.to, .slice da x.red.length dc, .bool x.acc] 45)).heap.size := by simp
  clear HTR HRL hown hacs
  go_wp2_with fail
  clear a0 a1 a2 a3
  generalize wr.alloc (Obj.cells #[.int .i64 x.look, .int .i64 x.to, .slice da x.red.length dc, .bool x.acc] 45) = w3 at *
  refine HX.mono ?_
  rintro e w4 ⟨rfl, b4⟩
  have B4 := below_then BX b4 BX.size
  have y4 := (b4.cell (p := ⟨wr.heap.size, 0, none⟩) yl).trans y0
  have hown4 : w4.ownsRow w0.heap.size 38 2 (.slice pa RL.length pc) RL.length (RL.flatMap encP) := ownsRow_below4 HOX.out b4
  have HO4 : Hid (OwnP 38 w0.heap.size RL (.slice pa RL.length pc) w4) := hown4
  obtain ⟨LV, hLV⟩ : ∃ LV, RL.flatMap encP = LV := ⟨_, rfl⟩
  have HLV : Hid (RL.flatMap encP = LV) := hLV
  rw [hLV] at hown4
  have hsz4 := B4.size
  clear hLV HX b4 y0 yl HOX BX
  cases hx : tornA x with
  | false =>
    have HN := HNO.out hx
    have HN2 : Hid (T ++ tornRow i (r.acts.take (k + 1)) = RL) := HN
    clear HNO HYES HN hx
    go_wp2_with fail
    exact ⟨⟨k + 1, by go_num, by omega, by rw [HN2.out]; exact HO4.out, B4⟩, by simp [intOf]; omega⟩
  | true =>
    have HN2 : Hid (T ++ tornRow i (r.acts.take (k + 1)) = RL ++ [((i : Int), x.look)]) := HYES.out hx
    clear HNO HYES hx
    go_wp2_with (at_builtin; refine wpList_append_own _ rfl (.tmp 25) (.tmp 30) 36 rfl w0.heap.size 38 i0 _ 2 16 Tryz.underlying36 hi0 hz0 hz1 hz2 rfl (by decide) _ RL.length LV rfl (World.ownsRow.alloc hown4 _) ⟨w4.heap.size, 0, none⟩ 1 1 (encP ((i : Int), x.look)) rfl rfl (by first | exact new_cellP w4 ((i : Int), x.look) _ | (have := new_cellP w4 ((i : Int), x.look) 38; simpa [encP] using this)) (by intro u hu; simp [encP] at hu; rcases hu with rfl | rfl <;> rfl) (by unfold maxLen; omega) (by omega) (by simp; omega) ?_)
    intro v9 w9 hown9 hg9 _
    have B9 : Below w0.heap.size w0 w9 := (B4.alloc hsz4 _).grown hg9 (by simp; omega) (fun k e => (World.ownsRow.lt hown4 k e).1)
    obtain ⟨a9, c9, rfl⟩ := own_slice2 hown9
    have HW9 : Hid (OwnP 38 w0.heap.size (RL ++ [((i : Int), x.look)]) (.slice a9 (RL.length + 1) c9) w9) := by
      show World.ownsRow _ _ _ _ _ _ _
      have := hown9
      rw [← HLV.out] at this
      simpa [encP] using this
    clear hown9 hg9 hown4 y4
    go_wp2_with fail
    exact ⟨⟨k + 1, by go_num, by omega, by rw [HN2.out]; exact HW9.out, B9⟩, by simp [intOf]; omega⟩
end Go.Proofs.YtbilbgjojdlobaaGreatDoor
/- The document's comparison of acts. -/
namespace Go.Proofs.YtbilbgjojdlobaaGreatDoor
open Go.RowKit

end Go.Proofs.YtbilbgjojdlobaaGreatDoor
