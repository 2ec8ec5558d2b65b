/- Rounds over the productions, till as many in a row as there are have changed nothing. -/
import Derived.Test.YtckbfiigbckmeaaDoorProds
import Derived.Sort.LoopGhostIn
namespace Go.Proofs.YtckbfiigbckmeaaDoor
open Go.RowKit Go.Shelf
attribute [local go_sem] Oper.semAt_some

/-- A world turned in these blocks alone. -/
structure But (D : Nat → Prop) (w w' : World) : Prop where
  os : w'.os = w.os
  tape : w'.tape = w.tape
  output : w'.output = w.output
  size : w.heap.size ≤ w'.heap.size
  block : ∀ k, k < w.heap.size → ¬ D k → w'.heap[k]? = w.heap[k]?
theorem But.refl (D : Nat → Prop) (w : World) : But D w w := ⟨rfl, rfl, rfl, Nat.le_refl _, fun _ _ _ => rfl⟩
theorem But.trans {D : Nat → Prop} {a b c : World} (h : But D a b) (k : But D b c) : But D a c :=
  ⟨k.os.trans h.os, k.tape.trans h.tape, k.output.trans h.output, Nat.le_trans h.size k.size, fun i hi hd => (k.block i (Nat.lt_of_lt_of_le hi h.size) hd).trans (h.block i hi hd)⟩
theorem But.mono {D E : Nat → Prop} {a b : World} (h : But D a b) (hd : ∀ k, k < a.heap.size → D k → E k) : But E a b :=
  ⟨h.os, h.tape, h.output, h.size, fun k hk he => h.block k hk (fun hD => he (hd k hk hD))⟩
theorem But.of_below {n : Nat} {a b : World} (h : Below n a b) : But (fun k => n ≤ k) a b := ⟨h.os, h.tape, h.output, h.size, fun k _ hd => h.block k (by omega)⟩
theorem But.of_next {D : Nat → Prop} {a b : World} (h : Below a.heap.size a b) : But D a b := ⟨h.os, h.tape, h.output, h.size, fun k hk _ => h.block k hk⟩
theorem But.below {n : Nat} {D : Nat → Prop} {a b : World} (h : But D a b) (hn : n ≤ a.heap.size) (hd : ∀ k, D k → n ≤ k) : Below n a b :=
  ⟨h.os, h.tape, h.output, h.size, fun k hk => h.block k (by omega) (fun hD => by have := hd k hD; omega)⟩
theorem But.cell {D : Nat → Prop} {a b : World} (h : But D a b) {p : Addr} (hp : p.block < a.heap.size) (hd : ¬ D p.block) : b.cell? p = a.cell? p := World.cell?_of_block (h.block _ hp hd)
theorem But.frozen {D : Nat → Prop} {a b : World} (h : But D a b) {p : Addr} (hp : p.block < a.heap.size) (hd : ¬ D p.block) : b.frozen? p = a.frozen? p := World.frozen?_of_block (h.block _ hp hd)
theorem But.keeps {D : Nat → Prop} {a b : World} (h : But D a b) {B : Nat} (hd : ∀ k, D k → k < B) : KeepsFrom B a b :=
  ⟨h.size, fun k o hB hk _ => (h.block k (Array.getElem?_eq_some_iff.1 hk).1 (fun hD => by have := hd k hD; omega)).trans hk⟩
theorem But.kpC {D E : Nat → Prop} {a b : World} (h : But D a b) (hd : ∀ k, E k → ¬ D k) : KpC E a b := fun ad v he hv => by
  obtain ⟨o, ho, _⟩ := cells_of_cell hv
  rw [h.cell (Array.getElem?_eq_some_iff.1 ho).1 (hd _ he)]; exact hv

theorem But.drew {D : Nat → Prop} {a b : World} (h : But D a b) : But D a b.drew := ⟨h.os, h.tape, h.output, h.size, h.block⟩
theorem But.drewN {D : Nat → Prop} {a b : World} (h : But D a b) (n : Nat) : But D a (b.drewN n) := ⟨h.os, h.tape, h.output, h.size, h.block⟩
/-- Closed at production i, where c rounds in a row up to place j have changed nothing. -/
def LastC (n j c i : Nat) : Prop := (i < j ∧ j - i ≤ c) ∨ (j ≤ i ∧ j + n - i ≤ c)

def mark (d : Nat) : Deferred := { target := .collected d, args := #[] }
/-- Blocks for deferred calls that hold none, one for each loop that is over. -/
def Mk (B : Nat) (Ds : List Nat) (W : World) : Prop := Ds.Nodup ∧ ∀ d ∈ Ds, B ≤ d ∧ W.heap[d]? = some (.deferred (some []))
theorem leaves_marks {F : Fence} {n : Nat} {P : Program} {fn : Func} {tmps : Array Value} {B : Nat} {Rw : World → Prop} (hres : ∀ W, ∃ v, (results fn tmps).run P W = .ok v W)
    (hR : ∀ W d, B ≤ d → W.heap[d]? = some (.deferred (some [])) → Rw W → Rw (W.putObj d (.deferred none))) :
    ∀ (Ds : List Nat) (W : World), Mk B Ds W → Rw W → LeavesInM F n P fn tmps (fun e W' => (∃ v, e = .returned v) ∧ Rw W') (Ds.map mark) .returning W
  | [], W, _, h => by
    obtain ⟨v, hv⟩ := hres W
    exact ⟨v, hv, ⟨_, rfl⟩, h⟩
  | d :: Ds, W, hM, h => by
    obtain ⟨hB, hd⟩ := hM.2 d (by simp)
    have hn := List.nodup_cons.1 hM.1
    refine ⟨by simp, .inl ⟨d, _, rfl, run_takeDeferred hd, ?_⟩⟩
    refine leaves_marks hres hR Ds _ ⟨hn.2, fun e he => ?_⟩ (hR W d hB hd h)
    have := hM.2 e (by simp [he])
    exact ⟨this.1, (World.putObj_heap_other (fun h' => hn.1 (by rw [← h']; exact he))).trans this.2⟩

/-- The cells of settle's own variables. -/
structure SC (M : Nat) (v0 v1 v2 v3 : Value) (c : Nat) (W : World) : Prop where
  f0 : W.cell? ⟨M, 0, none⟩ = some v0
  f1 : W.cell? ⟨M, 1, none⟩ = some v1
  f2 : W.cell? ⟨M, 2, none⟩ = some v2
  g0 : W.cell? ⟨M + 1, 0, none⟩ = some v3
  st : W.cell? ⟨M + 1 + 1, 0, none⟩ = some (.int .i64 c)
  fz : W.frozen? ⟨M + 1 + 1, 0, none⟩ = false
theorem SC.lt {M v0 v1 v2 v3 c W} (h : SC M v0 v1 v2 v3 c W) : M + 1 + 1 < W.heap.size := World.block_lt_of_cell? W _ h.st
theorem SC.kept {M v0 v1 v2 v3 c W W'} {row : Option Nat} (h : SC M v0 v1 v2 v3 c W) (hg : W.grownBy W' row) (hr : ∀ r, row = some r → ∃ o : Obj, W.heap[r]? = some o ∧ o.isCells = false) : SC M v0 v1 v2 v3 c W' :=
  ⟨cell_kept h.f0 hg hr, cell_kept h.f1 hg hr, cell_kept h.f2 hg hr, cell_kept h.g0 hg hr, cell_kept h.st hg hr, (frozen_kept h.st hg hr).trans h.fz⟩
theorem SC.but {M v0 v1 v2 v3 c W W'} {D : Nat → Prop} (h : SC M v0 v1 v2 v3 c W) (hb : But D W W') (hD : ∀ k, D k → k < M) : SC M v0 v1 v2 v3 c W' := by
  have hl := h.lt
  have e : ∀ {k o v}, M ≤ k → k ≤ M + 1 + 1 → W.cell? ⟨k, o, none⟩ = some v → W'.cell? ⟨k, o, none⟩ = some v := fun {k o v} h1 h2 hv => (hb.cell (p := ⟨k, o, none⟩) (by show k < _; omega) (fun hd => by have := hD _ hd; simp only at this; omega)).trans hv
  exact ⟨e (by omega) (by omega) h.f0, e (by omega) (by omega) h.f1, e (by omega) (by omega) h.f2, e (by omega) (by omega) h.g0, e (by omega) (by omega) h.st, (hb.frozen (p := ⟨M + 1 + 1, 0, none⟩) hl (fun hd => by have := hD _ hd; simp only at this; omega)).trans h.fz⟩
theorem SC.set {M v0 v1 v2 v3 c W} (h : SC M v0 v1 v2 v3 c W) (c' : Nat) : SC M v0 v1 v2 v3 c' (W.setCell ⟨M + 1 + 1, 0, none⟩ (.int .i64 c')) := by
  have o : ∀ {k o v}, k ≠ M + 1 + 1 → W.cell? ⟨k, o, none⟩ = some v → (W.setCell ⟨M + 1 + 1, 0, none⟩ (.int .i64 c')).cell? ⟨k, o, none⟩ = some v := fun {k o v} hk hv => (World.cell?_of_block (w := W) (Below.heap_setCell W ⟨M + 1 + 1, 0, none⟩ _ k hk)).trans hv
  exact ⟨o (by omega) h.f0, o (by omega) h.f1, o (by omega) h.f2, o (by omega) h.g0, World.cell?_setCell_same _ _ _ h.st, by rw [World.frozen?_setCell]; exact h.fz⟩
theorem But.setCell {D : Nat → Prop} {a b : World} (h : But D a b) (p : Addr) (v : Value) (hp : a.heap.size ≤ p.block ∨ D p.block) : But D a (b.setCell p v) :=
  ⟨h.os, h.tape, h.output, by simpa using h.size, fun k hk hd => (Below.heap_setCell b p v k (fun e => by rcases hp with h1 | h1; omega; exact hd (e ▸ h1))).trans (h.block k hk hd)⟩
theorem But.grown {D : Nat → Prop} {a b c : World} (h : But D a b) {row : Option Nat} (hg : b.grownBy c row) (hr : ∀ r, row = some r → a.heap.size ≤ r) : But D a c :=
  ⟨hg.os.trans h.os, hg.tape.trans h.tape, hg.output.trans h.output, Nat.le_trans h.size hg.size, fun k hk hd => (hg.block k (Nat.lt_of_lt_of_le hk h.size) (fun e => by have := hr k e.symm; omega)).trans (h.block k hk hd)⟩
theorem Mk.grown {B : Nat} {Ds : List Nat} {W W' : World} {row : Option Nat} (h : Mk B Ds W) (hg : W.grownBy W' row) (hr : ∀ r, row = some r → ∀ d ∈ Ds, d ≠ r) : Mk B Ds W' :=
  ⟨h.1, fun d hd => ⟨(h.2 d hd).1, (hg.block d (Array.getElem?_eq_some_iff.1 (h.2 d hd).2).1 (fun e => hr d e.symm d hd rfl)).trans (h.2 d hd).2⟩⟩
theorem Mk.but {B : Nat} {Ds : List Nat} {W W' : World} {D : Nat → Prop} (h : Mk B Ds W) (hb : But D W W') (hD : ∀ k, D k → k < B) : Mk B Ds W' :=
  ⟨h.1, fun d hd => ⟨(h.2 d hd).1, (hb.block d (Array.getElem?_eq_some_iff.1 (h.2 d hd).2).1 (fun e => by have := hD d e; have := (h.2 d hd).1; omega)).trans (h.2 d hd).2⟩⟩
theorem Mk.lt {B : Nat} {Ds : List Nat} {W : World} (h : Mk B Ds W) : ∀ d ∈ Ds, d < W.heap.size := fun d hd => (Array.getElem?_eq_some_iff.1 (h.2 d hd).2).1
theorem wrap_succ {c N : Nat} (h : c < N) (hN : N ≤ 400) : wrap64 ((c : Int) + 1) = c + 1 := IntWalk.wrap64_in _ (by omega)
theorem succ_dec {c N : Nat} : (((c + 1 : Nat) : Int) == (N : Int)) = decide (c + 1 = N) := by
  rw [Bool.eq_iff_iff]; simp; omega
theorem LastC.all {n c i : Nat} (hc : n ≤ c) (j : Nat) (hj : j ≤ n) (_hi : i < n) : LastC n j c i := by unfold LastC; omega
theorem LastC.zero {n j i : Nat} (hi : i < n) (h : LastC n j 0 i) : False := by unfold LastC at h; omega
theorem LastC.step {n j c i : Nat} (_hi : i < n) (h : LastC n (j + 1) (c + 1) i) : i = j ∨ LastC n j c i := by unfold LastC at *; omega
theorem LastC.wrap {n c i : Nat} (h : LastC n 0 c i) (hi : i < n) : LastC n n c i := by unfold LastC at *; omega

set_option maxRecDepth 100000 in
set_option maxHeartbeats 2000000 in
theorem settle_in {σ : Type} (n : Nat) (hn : 6 ≤ n) (f : Fl) (a : FlA) (g : Nat) (lb : Array Value) (eg : ∀ args w, (callFunc g args).run Tryd.prog w = .ok (.enter g args) w) (S : σ → World → Prop) (D : Nat → Prop) (μ : σ → Nat) (Cl : Nat → σ → Prop)
    (w : World) (hp : FitP f) (hfl : ∀ s W, S s W → FlAt f a W) (hS : ∀ s W W', S s W → Below w.heap.size W W' → S s W') (hD : ∀ k, D k → k < w.heap.size) (hDa : 0 < f.prods.length → ∀ ad, a.pa = some ad → ¬ D ad.block)
    (hg : ∀ (j : Nat) (hj : j < f.prods.length) (s : σ) (W : World) (v : Value), S s W → SlT f.prods[j].right v W → w.heap.size ≤ W.heap.size → (∃ pb off, a.pa = some ⟨pb, off, none⟩ ∧ w.cell? ⟨pb, off + j * 3 + 1, none⟩ = some v) → Calls Tryd.prog g (#[.int .i64 f.prods[j].left, v] ++ lb) W fun e W' => ∃ s' b, e = .returned (.bool b) ∧ S s' W' ∧ But D W W' ∧ (b = true → μ s' < μ s) ∧ (b = false → s' = s ∧ Cl j s))
    (s0 : σ) (h0 : S s0 w) :
    CallsIn Fence.wide n Tryd.prog 46 #[a.val f, .func (.func g) #[] lb] w fun e W' => (∃ v, e = .returned v) ∧ ∃ s, S s W' ∧ (∀ j, j < f.prods.length → Cl j s) ∧ But D w W' := by
  obtain ⟨ta, tc, na, nc, pa, pc⟩ := a
  -- the productions' cells, as they lie all along
  have HQ : Hid (0 < f.prods.length → ∃ (pb off : Nat) (q : Nat → (Int × Int) × Option Addr × Nat × Nat), pa = some ⟨pb, off, none⟩ ∧ pb < w.heap.size ∧ ∀ x, ∃ (j : Nat) (hj : j < f.prods.length), (x < f.prods.length → j = x) ∧
      w.cell? ⟨pb, off + j * 3, none⟩ = some (.int .i64 (q x).1.1) ∧ w.cell? ⟨pb, off + j * 3 + 1, none⟩ = some (.slice (q x).2.1 (q x).2.2.1 (q x).2.2.2) ∧ w.cell? ⟨pb, off + j * 3 + 2, none⟩ = some (.int .i64 (q x).1.2) ∧ (q x).1.1 = f.prods[j].left) := fun hpos => by
    obtain ⟨_, _, h2, _⟩ := hfl _ _ h0
    obtain ⟨pb, off, _, hpa, hpb, _⟩ := h2 0 _ (List.getElem?_eq_getElem hpos)
    simp only at hpa
    have hall : ∀ x : Nat, ∃ q : (Int × Int) × Option Addr × Nat × Nat, ∃ (j : Nat) (hj : j < f.prods.length), (x < f.prods.length → j = x) ∧
      w.cell? ⟨pb, off + j * 3, none⟩ = some (.int .i64 q.1.1) ∧ w.cell? ⟨pb, off + j * 3 + 1, none⟩ = some (.slice q.2.1 q.2.2.1 q.2.2.2) ∧ w.cell? ⟨pb, off + j * 3 + 2, none⟩ = some (.int .i64 q.1.2) ∧ q.1.1 = f.prods[j].left := fun x => by
      have key : ∀ j, (hj : j < f.prods.length) → ∃ q : (Int × Int) × Option Addr × Nat × Nat, w.cell? ⟨pb, off + j * 3, none⟩ = some (.int .i64 q.1.1) ∧ w.cell? ⟨pb, off + j * 3 + 1, none⟩ = some (.slice q.2.1 q.2.2.1 q.2.2.2) ∧ w.cell? ⟨pb, off + j * 3 + 2, none⟩ = some (.int .i64 q.1.2) ∧ q.1.1 = f.prods[j].left := fun j hj => by
        obtain ⟨b, o, v, e, _, k0, k1, k2, hv, _⟩ := h2 j _ (List.getElem?_eq_getElem hj)
        obtain ⟨ra, rc, rfl, _⟩ := hv
        simp only at e
        rw [hpa] at e
        cases e
        exact ⟨((f.prods[j].left, f.prods[j].prec), ra, f.prods[j].right.length, rc), k0, k1, k2, rfl⟩
      by_cases hx : x < f.prods.length
      · obtain ⟨q, hq⟩ := key x hx
        exact ⟨q, x, hx, fun _ => rfl, hq⟩
      · obtain ⟨q, hq⟩ := key 0 hpos
        exact ⟨q, 0, hpos, fun h => absurd h hx, hq⟩
    obtain ⟨q, hq⟩ := Classical.axiomOfChoice hall
    exact ⟨pb, off, q, hpa, hpb, hq⟩
  have HSL : Hid (∀ (pb off : Nat), pa = some ⟨pb, off, none⟩ → ∀ (j : Nat) (hj : j < f.prods.length) (v : Value) (s : σ) (W : World), w.cell? ⟨pb, off + j * 3 + 1, none⟩ = some v → S s W → But D w W → SlT f.prods[j].right v W) := fun pb off hpa j hj v s W hv hs hB => by
    obtain ⟨_, _, h2, _⟩ := hfl _ _ hs
    obtain ⟨b, o, v', e, _, _, k1, _, hv', _⟩ := h2 j _ (List.getElem?_eq_getElem hj)
    simp only at e
    rw [hpa] at e
    cases e
    rw [hB.cell (p := ⟨pb, off + j * 3 + 1, none⟩) (World.block_lt_of_cell? w _ hv) (by have := hDa (by omega) _ hpa; exact this), hv] at k1
    cases k1
    exact hv'
  have HS : Hid (∀ s W W', S s W → Below w.heap.size W W' → S s W') := hS
  have HD : Hid (∀ k, D k → k < w.heap.size) := hD
  have HDA : Hid (0 < f.prods.length → ∀ ad, pa = some ad → ¬ D ad.block) := hDa
  have HGR : Hid (∀ (j : Nat) (hj : j < f.prods.length) (s : σ) (W : World) (v : Value), S s W → SlT f.prods[j].right v W → w.heap.size ≤ W.heap.size → (∃ pb off, pa = some ⟨pb, off, none⟩ ∧ w.cell? ⟨pb, off + j * 3 + 1, none⟩ = some v) → Calls Tryd.prog g (#[.int .i64 f.prods[j].left, v] ++ lb) W fun e W' => ∃ s' b, e = .returned (.bool b) ∧ S s' W' ∧ But D W W' ∧ (b = true → μ s' < μ s) ∧ (b = false → s' = s ∧ Cl j s)) := hg
  have HPR : Hid (∀ W, Calls Tryd.prog 65 #[.agg #[.slice ta f.terms.length tc, .slice na f.nons.length nc, .slice pa f.prods.length pc]] W fun e w' => e = .returned (.func (.func 81) #[] #[.pointer (some ⟨W.heap.size, 0, none⟩)]) ∧ w' = W.alloc (Obj.cells #[.slice ta f.terms.length tc, .slice na f.nons.length nc, .slice pa f.prods.length pc] 25)) := fun W => prods_any f ⟨ta, tc, na, nc, pa, pc⟩ W
  have hN4 := hp.prods
  have h1 : 1 ≤ n := by omega
  unfold FlA.val
  simp only
  clear hfl hg hS hD hDa hp
  refine callsIn_of_wp_marks Tryd.func46 rfl trivial ?_ rfl
  simp only [Tryd.ntmps46, List.size_toArray, List.length_cons, List.length_nil, Nat.reduceAdd, Nat.reduceSub, Array.replicate_succ, Array.replicate_zero, List.push_toArray, List.append_toArray, List.nil_append, List.cons_append]
  gi_wp2
  refine wpIn_scope_wide ?_
  gi_wp2
  refine wpIn_label ?_
  gi_wp2
  refine wpIn_loop_ghost (fun m a' W => ∃ (t7 t8 t9 t10 t11 t12 : Value) (Ds : List Nat) (s : σ) (c : Nat), a' = { tmps := #[Value.agg #[.slice ta f.terms.length tc, .slice na f.nons.length nc, .slice pa f.prods.length pc], .func (.func g) #[] lb, .pointer (some ⟨w.heap.size, 0, none⟩), .pointer (some ⟨w.heap.size + 1, 0, none⟩), .pointer (some ⟨w.heap.size + 1 + 1, 0, none⟩), undef, undef, t7, t8, t9, t10, t11, t12, undef, undef, undef, undef, undef, undef, undef, undef, undef, undef, undef, undef, undef], defers := Ds.map mark } ∧ m = μ s ∧ Mk w.heap.size Ds W ∧ S s W ∧ SC w.heap.size (.slice ta f.terms.length tc) (.slice na f.nons.length nc) (.slice pa f.prods.length pc) (.func (.func g) #[] lb) c W ∧ But D w W ∧ (c = 0 ∨ c < f.prods.length) ∧ ∀ i, i < f.prods.length → LastC f.prods.length 0 c i → Cl i s) (μ s0) ?start ?round
  case start =>
    have hb : Below w.heap.size w (((w.alloc (Obj.cells #[.slice ta f.terms.length tc, .slice na f.nons.length nc, .slice pa f.prods.length pc] 25)).alloc (Obj.cells #[Value.func (Fn.func g) #[] lb] 76)).alloc (Obj.cells #[Value.int IntKind.i64 0] 3)) := (((Below.refl _ _).alloc (Nat.le_refl _) _).alloc (by simp) _).alloc (by simp <;> omega) _
    refine ⟨undef, undef, undef, undef, undef, undef, [], s0, 0, rfl, rfl, ⟨List.nodup_nil, by simp⟩, HS.out _ _ _ h0 hb, ?_, But.of_next hb, .inl rfl, fun i hi h => (h.zero hi).elim⟩
    constructor <;> go_simp
  case round =>
    clear h0
    rintro m a' W ⟨t7, t8, t9, t10, t11, t12, Ds, s, c, rfl, rfl, hM, hs, hC, hB, hc, hcl⟩
    have HE : Hid (∀ W d, w.heap.size ≤ d → W.heap[d]? = some (.deferred (some [])) → (∃ s, S s W ∧ (∀ j, j < f.prods.length → Cl j s) ∧ But D w W) → (∃ s, S s (W.putObj d (.deferred none)) ∧ (∀ j, j < f.prods.length → Cl j s) ∧ But D w (W.putObj d (.deferred none)))) := fun W d hd hh ⟨s, h1, h2, h3⟩ =>
      ⟨s, HS.out _ _ _ h1 ((Below.refl _ W).grown (grownBy_putObj' W d _) (Nat.le_trans h3.size (Nat.le_refl _)) (fun k e => by cases e; exact hd)), h2, h3.grown (grownBy_putObj' W d _) (fun r e => by cases e; exact hd)⟩
    by_cases hN : f.prods.length = 0
    · obtain ⟨c0, c1, c2, c3, c4, c5⟩ := hC
      have HF : Hid (∃ s, S s W ∧ (∀ j, j < f.prods.length → Cl j s) ∧ But D w W) := ⟨s, hs, fun j hj => by omega, hB⟩
      rw [hN] at c2 ⊢
      gi_wp2
      exact leaves_marks (fun W => ⟨_, results_none rfl _ _ _⟩) HE.out Ds W hM HF.out
    · obtain ⟨pb, off, q, rfl, hpb, hq⟩ := HQ.out (by omega)
      clear HQ
      have hCl := hC.lt
      have hB' : Below W.heap.size W (W.alloc (Obj.cells #[.slice ta f.terms.length tc, .slice na f.nons.length nc, .slice (some ⟨pb, off, none⟩) f.prods.length pc] 25)) := (Below.refl _ _).alloc (Nat.le_refl _) _
      have hcells : ∀ j, j < f.prods.length → (W.alloc (Obj.cells #[.slice ta f.terms.length tc, .slice na f.nons.length nc, .slice (some ⟨pb, off, none⟩) f.prods.length pc] 25)).cell? ⟨pb, off + j * 3, none⟩ = some (.int .i64 (q j).1.1) ∧ (W.alloc (Obj.cells #[.slice ta f.terms.length tc, .slice na f.nons.length nc, .slice (some ⟨pb, off, none⟩) f.prods.length pc] 25)).cell? ⟨pb, off + j * 3 + 1, none⟩ = some (.slice (q j).2.1 (q j).2.2.1 (q j).2.2.2) ∧ (W.alloc (Obj.cells #[.slice ta f.terms.length tc, .slice na f.nons.length nc, .slice (some ⟨pb, off, none⟩) f.prods.length pc] 25)).cell? ⟨pb, off + j * 3 + 2, none⟩ = some (.int .i64 (q j).1.2) := fun j hj => by
        obtain ⟨i, hi, hij, k0, k1, k2, _⟩ := hq j
        have := hij hj
        subst this
        have hd := HDA.out (by omega) _ rfl
        have hz := hB.size
        have e : ∀ {o v}, w.cell? ⟨pb, o, none⟩ = some v → (W.alloc (Obj.cells #[.slice ta f.terms.length tc, .slice na f.nons.length nc, .slice (some ⟨pb, off, none⟩) f.prods.length pc] 25)).cell? ⟨pb, o, none⟩ = some v := fun {o v} h => (hB'.cell (p := ⟨pb, o, none⟩) (by show pb < _; omega)).trans ((hB.cell (p := ⟨pb, o, none⟩) hpb hd).trans h)
        exact ⟨e k0, e k1, e k2⟩
      have hbox : (W.alloc (Obj.cells #[.slice ta f.terms.length tc, .slice na f.nons.length nc, .slice (some ⟨pb, off, none⟩) f.prods.length pc] 25)).cell? ⟨W.heap.size, 2, none⟩ = some (.slice (some ⟨pb, off, none⟩) f.prods.length pc) := by simp
      have hC0 := hC.kept (World.grownBy_alloc W (Obj.cells #[.slice ta f.terms.length tc, .slice na f.nons.length nc, .slice (some ⟨pb, off, none⟩) f.prods.length pc] 25) none) (fun _ e => by cases e)
      have hM0 := hM.grown (World.grownBy_alloc W (Obj.cells #[.slice ta f.terms.length tc, .slice na f.nons.length nc, .slice (some ⟨pb, off, none⟩) f.prods.length pc] 25) none) (fun _ e => by cases e)
      have hB0 := hB.grown (World.grownBy_alloc W (Obj.cells #[.slice ta f.terms.length tc, .slice na f.nons.length nc, .slice (some ⟨pb, off, none⟩) f.prods.length pc] 25) none) (fun _ e => by cases e)
      have hs0 := HS.out _ _ _ hs (hB'.mono hB.size)
      have hDs : ∀ d ∈ Ds, d < W.heap.size := hM.lt
      have hsz : (W.alloc (Obj.cells #[.slice ta f.terms.length tc, .slice na f.nons.length nc, .slice (some ⟨pb, off, none⟩) f.prods.length pc] 25)).heap.size = W.heap.size + 1 := by simp
      have hwz := hB.size
      obtain ⟨c0, c1, c2, c3, c4, c5⟩ := hC
      have hpos : (0 : Int) < f.prods.length := by omega
      clear hM hs hB hB'
      gi_wp2_with fail
      refine ⟨trivial, ?_⟩
      refine (callsIn_wide.2 (HPR.out _)).mono ?_
      rintro e w1 ⟨rfl, rfl⟩
      clear c0 c1 c2 c3 c4 c5
      generalize (W.alloc (Obj.cells #[.slice ta f.terms.length tc, .slice na f.nons.length nc, .slice (some ⟨pb, off, none⟩) f.prods.length pc] 25)) = W0 at *
      gi_wp2
      have hcN : c < f.prods.length := by omega
      refine wpIn_rangeFunc_ownH (α := Nat) rfl h1 (gf := 81) (lb := #[.pointer (some ⟨W.heap.size, 0, none⟩)]) rfl trivial (enters_of Tryd.func81 (by kernel_rfl) rfl)
        (prods_stops (n - 1) (by omega) W.heap.size pb off f.prods.length pc (fun x => (q x).1.1) (fun x => (q x).2.1) (fun x => (q x).2.2.1) (fun x => (q x).2.2.2) (fun x => (q x).1.2) hN4 W0 (by omega) (by omega) hbox hcells)
        KpC.trans (fun W l o o' _ h hc _ => KpC.putObj W l o o' h hc) (Below.refl _ _) (fun _ => rfl)
        (fun pre V => (∃ s2 c2, S s2 V ∧ SC w.heap.size (.slice ta f.terms.length tc) (.slice na f.nons.length nc) (.slice (some ⟨pb, off, none⟩) f.prods.length pc) (.func (.func g) #[] lb) c2 V ∧ c2 < f.prods.length ∧ (pre = List.range pre.length → (∀ i, i < f.prods.length → LastC f.prods.length pre.length c2 i → Cl i s2) ∧ (μ s2 < μ s ∨ (s2 = s ∧ c2 = c + pre.length)))) ∧ Mk w.heap.size Ds V ∧ But D w V)
        (fun cc pre V => (cc = .exit 0 ∧ ∃ s2, S s2 V ∧ (pre = List.range pre.length → ∀ i, i < f.prods.length → Cl i s2)) ∧ Mk w.heap.size Ds V ∧ But D w V)
        (fun pre A B row hs hg hr => ?_) (fun cc pre A B row hs hg hr => ?_)
        ⟨⟨s, c, hs0, hC0, hcN, fun _ => ⟨fun i hi h => hcl i hi (by simpa using h), .inr ⟨rfl, by simp⟩⟩⟩, hM0, hB0⟩
        (fun x a' V => a' = { tmps := #[Value.agg #[.slice ta f.terms.length tc, .slice na f.nons.length nc, .slice (some ⟨pb, off, none⟩) f.prods.length pc], .func (.func g) #[] lb, .pointer (some ⟨w.heap.size, 0, none⟩), .pointer (some ⟨w.heap.size + 1, 0, none⟩), .pointer (some ⟨w.heap.size + 1 + 1, 0, none⟩), .int .i64 (q x).1.1, .slice (q x).2.1 (q x).2.2.1 (q x).2.2.2, .pointer (some ⟨w.heap.size, 2, none⟩), .slice (some ⟨pb, off, none⟩) f.prods.length pc, .int .i64 f.prods.length, .bool true, Value.agg #[.slice ta f.terms.length tc, .slice na f.nons.length nc, .slice (some ⟨pb, off, none⟩) f.prods.length pc], .func (.func 81) #[] #[.pointer (some ⟨W.heap.size, 0, none⟩)], .int .i64 (q x).1.1, .slice (q x).2.1 (q x).2.2.1 (q x).2.2.2, undef, undef, undef, undef, undef, undef, undef, undef, undef, undef, undef], defers := [] })
        (fun x a' _ X Y row hs hg hr => hs)
        ?assign ?body ?done ?stop
      · obtain ⟨⟨s2, c2, k1, k2, k3, k4⟩, k5, k6⟩ := hs
        exact ⟨⟨s2, c2, HS.out _ _ _ k1 ((Below.refl _ A).grown hg k6.size (fun k e => by have := (hr k e).1; omega)), k2.kept hg (fun r e => (hr r e).2), k3, k4⟩, k5.grown hg (fun r e d hd => by have := (hr r e).1; have := hDs d hd; omega), k6.grown hg (fun r e => by have := (hr r e).1; omega)⟩
      · obtain ⟨⟨k0, s2, k1, k2⟩, k5, k6⟩ := hs
        exact ⟨⟨k0, s2, HS.out _ _ _ k1 ((Below.refl _ A).grown hg k6.size (fun k e => by have := (hr k e).1; omega)), k2⟩, k5.grown hg (fun r e d hd => by have := (hr r e).1; have := hDs d hd; omega), k6.grown hg (fun r e => by have := (hr r e).1; omega)⟩
      case assign =>
        rintro l pre x V K hI hK
        gi_wp2
        exact hK _ _ (KeepsFrom.refl _ _) (KpC.refl _ _) hI rfl
      case body =>
        rintro l pre x a' V hl hr ⟨⟨s2, c2, k1, k2, k3, k4⟩, k5, k6⟩ rfl hlt
        obtain ⟨j, hj, hjx, e0, e1, e2, e3⟩ := hq x
        have hcall := HGR.out j hj s2 V _ k1 (HSL.out pb off rfl j hj _ s2 V e1 k1 k6) k6.size ⟨pb, off, rfl, e1⟩
        have hDM : ∀ k, D k → k < w.heap.size := HD.out
        have hnd := HDA.out (by omega) _ rfl
        have hX : Hid (pre ++ [x] = List.range (pre ++ [x]).length → pre = List.range pre.length ∧ x = pre.length) := fun h => by
          rw [List.length_append, List.length_singleton, List.range_succ] at h
          have := List.append_inj' h rfl
          exact ⟨this.1, by simpa using this.2⟩
        obtain ⟨c0, c1, c2', c3, c4, c5⟩ := id k2
        have HK2 : Hid (∀ V2, But D V V2 → SC w.heap.size (.slice ta f.terms.length tc) (.slice na f.nons.length nc) (.slice (some ⟨pb, off, none⟩) f.prods.length pc) (.func (.func g) #[] lb) c2 V2) := fun V2 hb => k2.but hb hDM
        have hlV := k2.lt
        clear e0 e1 e2 hcells hbox k2 hq
        gi_wp2_with fail
        refine ⟨trivial, fun _ => by omega, ?_⟩
        refine (CallsIn.inRound l (callsIn_wide.2 hcall)).mono ?_
        rintro e V2 ⟨s3, b, rfl, g1, g2, g3, g4⟩
        have K3 := HK2.out _ g2
        have hM2 := k5.but g2 hDM
        have hB2 := k6.trans g2
        have hzz := g2.size
        clear c0 c1 c2' c3 c4 c5
        obtain ⟨c0, c1, c2', c3, c4, c5⟩ := id K3
        have HST : Hid (∀ c' : Nat, S s3 (V2.setCell ⟨w.heap.size + 1 + 1, 0, none⟩ (.int .i64 c')) ∧ KeepsFrom W0.heap.size V (V2.setCell ⟨w.heap.size + 1 + 1, 0, none⟩ (.int .i64 c')) ∧ KpC (fun k => k = W.heap.size ∨ k = pb) V (V2.setCell ⟨w.heap.size + 1 + 1, 0, none⟩ (.int .i64 c')) ∧ Mk w.heap.size Ds (V2.setCell ⟨w.heap.size + 1 + 1, 0, none⟩ (.int .i64 c')) ∧ But D w (V2.setCell ⟨w.heap.size + 1 + 1, 0, none⟩ (.int .i64 c')) ∧ SC w.heap.size (.slice ta f.terms.length tc) (.slice na f.nons.length nc) (.slice (some ⟨pb, off, none⟩) f.prods.length pc) (.func (.func g) #[] lb) c' (V2.setCell ⟨w.heap.size + 1 + 1, 0, none⟩ (.int .i64 c'))) := fun c' => by
          refine ⟨HS.out _ _ _ g1 ((Below.refl _ V2).setCell (p := ⟨w.heap.size + 1 + 1, 0, none⟩) (by show w.heap.size ≤ w.heap.size + 1 + 1; omega) _), (g2.keeps (fun k hk => by have := hDM k hk; omega)).trans ((KeepsOthers.setCell _ _ _).from _), ?_, ⟨hM2.1, fun d hd => ⟨(hM2.2 d hd).1, (KeepsOthers.setCell V2 ⟨w.heap.size + 1 + 1, 0, none⟩ _).same d _ (hM2.2 d hd).2 rfl⟩⟩, hB2.setCell _ _ (.inl (by show w.heap.size ≤ w.heap.size + 1 + 1; omega)), K3.set c'⟩
          refine (g2.kpC (E := fun k => k = W.heap.size ∨ k = pb) (fun k hk hd => ?_)).trans (fun ad v hk hv => ?_)
          · rcases hk with rfl | rfl
            · have := hDM _ hd; omega
            · exact hnd hd
          · exact (World.cell?_of_block (w := V2) (Below.heap_setCell V2 ⟨w.heap.size + 1 + 1, 0, none⟩ _ _ (by rcases hk with h | h <;> rw [h] <;> simp only [] <;> omega))).trans hv
        clear hM2 hB2 g1 HK2 hcall
        cases b with
        | true =>
          obtain ⟨z1, z2, z3, z4, z5, z6⟩ := HST.out 0
          have HR : Hid (μ s3 < μ s2) := g3 rfl
          have HK4 : Hid (pre = List.range pre.length → (∀ i, i < f.prods.length → LastC f.prods.length pre.length c2 i → Cl i s2) ∧ (μ s2 < μ s ∨ (s2 = s ∧ c2 = c + pre.length))) := k4
          clear k4 HST K3
          gi_wp2
          refine ⟨z2, z3, ⟨s3, 0, z1, z6, by omega, fun hx => ⟨fun i hi h => (h.zero hi).elim, .inl ?_⟩⟩, z4, z5⟩
          have h4 := (HK4.out (hX.out hx).1).2
          have h5 := HR.out
          rcases h4 with h4 | h4
          · omega
          · rw [h4.1] at h5; exact h5
        | false =>
          obtain ⟨rfl, hclj⟩ := g4 rfl
          obtain ⟨z1, z2, z3, z4, z5, z6⟩ := HST.out (c2 + 1)
          have HK4 : Hid (pre ++ [x] = List.range (pre ++ [x]).length → (∀ i, i < f.prods.length → LastC f.prods.length (pre ++ [x]).length (c2 + 1) i → Cl i s3) ∧ (μ s3 < μ s ∨ (s3 = s ∧ c2 + 1 = c + (pre ++ [x]).length))) := fun hx => by
            obtain ⟨hx1, hx2⟩ := hX.out hx
            obtain ⟨q1, q2⟩ := k4 hx1
            have hjx' : j = x := hjx (by omega)
            rw [List.length_append, List.length_singleton]
            refine ⟨fun i hi h => ?_, ?_⟩
            · rcases h.step hi with h' | h'
              · have : i = j := by omega
                subst this
                exact hclj
              · exact q1 i hi h'
            · rcases q2 with q2 | ⟨q2, q3⟩
              · exact .inl q2
              · exact .inr ⟨q2, by omega⟩
          have HPL : Hid ((pre ++ [x]).length ≤ f.prods.length) := by show _ ≤ _; simp; omega
          obtain ⟨z, hz⟩ : ∃ z : Int, wrap64 ((c2 : Int) + 1) = z := ⟨_, rfl⟩
          have hze : z = ((c2 + 1 : Nat) : Int) := by rw [← hz]; exact wrap_succ k3 hN4
          have hzn : (z == f.prods.length) = decide (c2 + 1 = f.prods.length) := by rw [hze]; exact succ_dec
          have HZE : Hid (((c2 + 1 : Nat) : Int) = z) := hze.symm
          rw [HZE.out] at z1 z2 z3 z4 z5 z6
          have HK3 : Hid (c2 < f.prods.length) := k3
          have HZ6 : Hid (SC w.heap.size (.slice ta f.terms.length tc) (.slice na f.nons.length nc) (.slice (some ⟨pb, off, none⟩) f.prods.length pc) (.func (.func g) #[] lb) (c2 + 1) (V2.setCell ⟨w.heap.size + 1 + 1, 0, none⟩ (.int .i64 z))) := by
            have := (HST.out (c2 + 1)).2.2.2.2.2
            rw [HZE.out] at this
            exact this
          clear k4 HST K3 g3 g4 hclj hze z6 k3
          by_cases hc2 : c2 + 1 = f.prods.length
          · have HZ : Hid (∀ j, j ≤ f.prods.length → ∀ i, i < f.prods.length → LastC f.prods.length j (c2 + 1) i) := fun j hj i hi => LastC.all (by omega) j hj hi
            have hce : (z == (f.prods.length : Int)) = true := by rw [hzn]; exact decide_eq_true hc2
            clear hc2 hzn
            gi_wp2
            exact ⟨z2, ⟨rfl, s3, z1, fun hx i hi => (HK4.out hx).1 i hi (HZ.out _ HPL.out i hi)⟩, z4, z5⟩
          · have hce : (z == (f.prods.length : Int)) = false := by rw [hzn]; exact decide_eq_false hc2
            have HZ : Hid (c2 + 1 < f.prods.length) := by have := HK3.out; show _ < _; omega
            clear hc2 hzn
            gi_wp2
            exact ⟨z2, z3, ⟨s3, c2 + 1, z1, HZ6.out, HZ.out, HK4.out⟩, z4, z5⟩
      case done =>
        rintro d xs V hd rfl ⟨⟨s2, c2, k1, k2, k3, k4⟩, k5, k6⟩ hK
        obtain ⟨q1, q2⟩ := k4 (by simp)
        rw [List.length_range] at q1 q2
        have hlt : μ s2 < μ s := by
          rcases q2 with h | ⟨h, h'⟩
          · exact h
          · omega
        have hMd : Mk w.heap.size (d :: Ds) V := ⟨List.nodup_cons.2 ⟨fun h => by have := hDs d h; omega, k5.1⟩, fun e he => by
          rcases List.mem_cons.1 he with rfl | he
          · exact ⟨by omega, hK⟩
          · exact k5.2 e he⟩
        have HQ1 : Hid (∀ i, i < f.prods.length → LastC f.prods.length 0 c2 i → Cl i s2) := fun i hi h => q1 i hi (h.wrap hi)
        clear q1 q2 k4 k5 hq HGR HSL HPR hcells
        gi_wp2
        exact ⟨μ s2, hlt, _, _, _, _, _, _, d :: Ds, s2, c2, rfl, rfl, hMd, k1, k2, k6, .inr k3, HQ1.out⟩
      case stop =>
        rintro d cc pre V hd hpre ⟨⟨rfl, s2, k1, k2⟩, k5, k6⟩ hK
        have hpr : pre = List.range pre.length := by
          have h := List.prefix_iff_eq_take.1 hpre
          rw [List.take_range] at h
          have hl := hpre.length_le
          rw [List.length_range] at hl
          rw [Nat.min_eq_left hl] at h
          exact h
        have hMd : Mk w.heap.size (d :: Ds) V := ⟨List.nodup_cons.2 ⟨fun h => by have := hDs d h; omega, k5.1⟩, fun e he => by
          rcases List.mem_cons.1 he with rfl | he
          · exact ⟨by omega, hK⟩
          · exact k5.2 e he⟩
        have HF : Hid (∃ s, S s V ∧ (∀ j, j < f.prods.length → Cl j s) ∧ But D w V) := ⟨s2, k1, k2 hpr, k6⟩
        clear k5 k2 hq HGR HSL HPR hcells
        gi_wp2
        exact leaves_marks (fun W => ⟨_, results_none rfl _ _ _⟩) HE.out (d :: Ds) V hMd HF.out

theorem settle_any {σ : Type} (f : Fl) (a : FlA) (g : Nat) (lb : Array Value) (eg : ∀ args w, (callFunc g args).run Tryd.prog w = .ok (.enter g args) w) (S : σ → World → Prop) (D : Nat → Prop) (μ : σ → Nat) (Cl : Nat → σ → Prop)
    (w : World) (hp : FitP f) (hfl : ∀ s W, S s W → FlAt f a W) (hS : ∀ s W W', S s W → Below w.heap.size W W' → S s W') (hD : ∀ k, D k → k < w.heap.size) (hDa : 0 < f.prods.length → ∀ ad, a.pa = some ad → ¬ D ad.block)
    (hg : ∀ (j : Nat) (hj : j < f.prods.length) (s : σ) (W : World) (v : Value), S s W → SlT f.prods[j].right v W → w.heap.size ≤ W.heap.size → (∃ pb off, a.pa = some ⟨pb, off, none⟩ ∧ w.cell? ⟨pb, off + j * 3 + 1, none⟩ = some v) → Calls Tryd.prog g (#[.int .i64 f.prods[j].left, v] ++ lb) W fun e W' => ∃ s' b, e = .returned (.bool b) ∧ S s' W' ∧ But D W W' ∧ (b = true → μ s' < μ s) ∧ (b = false → s' = s ∧ Cl j s))
    (s0 : σ) (h0 : S s0 w) :
    Calls Tryd.prog 46 #[a.val f, .func (.func g) #[] lb] w fun e W' => (∃ v, e = .returned v) ∧ ∃ s, S s W' ∧ (∀ j, j < f.prods.length → Cl j s) ∧ But D w W' :=
  (callsIn_wide (n := 6)).1 (settle_in 6 (by omega) f a g lb eg S D μ Cl w hp hfl hS hD hDa hg s0 h0)
end Go.Proofs.YtckbfiigbckmeaaDoor
