/- The rounds of Follow: what is done at one production. -/
import Derived.Test.YtckbfiigbckmeaaDoorFolMath
import Derived.Test.YtckbfiigbckmeaaDoorBackward
import Derived.Test.YtckbfiigbckmeaaDoorView
import Derived.Test.YtckbfiigbckmeaaDoorRound
import Derived.Laws.CopyRow
namespace Go.Proofs.YtckbfiigbckmeaaDoor
open Go.RowKit Go.Shelf
attribute [local go_sem] Oper.semAt_some

/-- What Follow's closure works on: the view (all of it below block X), its own sets, the set of what stands behind; the three boxes that it has captured. -/
structure FAt (f : Fl) (a : FlA) (m X : Nat) (w0 : World) (V E G : Nat) (bs : List Nat) (L : List Bool) (R : List (List Nat)) (K1 K2 K3 H c : Nat) (bo : List Nat) (O : List (List Nat)) (B : List Nat) (W : World) : Prop where
  ok : VOk f a m w0 V E G bs L R W
  k1 : W.cell? ⟨K1, 0, none⟩ = some (.slice (some ⟨c, 0, none⟩) m m)
  k2 : W.cell? ⟨K2, 0, none⟩ = some (.slice (some ⟨H, 0, none⟩) f.n f.n)
  k3 : W.cell? ⟨K3, 0, none⟩ = some (.pointer (some ⟨V, 0, none⟩))
  s : SetsB H m bo O W
  b : SetB c m B W
  xv : V < X
  xe : E < X
  xg : G < X
  xb : ∀ b ∈ bs, b < X
  xo : ∀ b ∈ bo, X ≤ b
  xc : X ≤ c
  xl : w0.heap.size ≤ X
  n1 : K1 ∉ bo ∧ K1 ≠ c
  n2 : K2 ∉ bo ∧ K2 ≠ c
  n3 : K3 ∉ bo ∧ K3 ≠ c
  nh : H ≠ c
  nc : c ∉ bo
/-- The blocks that are written. -/
def Dk (bo : List Nat) (c k : Nat) : Prop := k ∈ bo ∨ k = c
/-- Kept, where none of its blocks has turned. -/
theorem FAt.but {f a m X w0 V E G bs L R K1 K2 K3 H c bo O B W W'} {D : Nat → Prop} (h : FAt f a m X w0 V E G bs L R K1 K2 K3 H c bo O B W) (hb : But D W W') (h0 : ∀ k, D k → X ≤ k) (h1 : ¬ D K1) (h2 : ¬ D K2) (h3 : ¬ D K3) (hH : ¬ D H) (hc : ¬ D c) (ho : ∀ b ∈ bo, ¬ D b) : FAt f a m X w0 V E G bs L R K1 K2 K3 H c bo O B W' := by
  have hx : ∀ k, k < X → ¬ D k := fun k hk hd => by have := h0 k hd; omega
  refine ⟨⟨h.ok.v.but hb (hx _ h.xv), h.ok.e.but hb (hx _ h.xe), h.ok.s.but hb (hx _ h.xg) (fun b hb' => hx _ (h.xb b hb')), h.ok.vb, h.ok.eb, h.ok.vl, h.ok.el, h.ok.gl, h.ok.bl, h.ok.ve, h.ok.vg, h.ok.eg, below_but h.ok.below hb (fun k hk => Nat.le_trans h.xl (h0 k hk))⟩,
    (hb.cell (p := ⟨K1, 0, none⟩) (World.block_lt_of_cell? W _ h.k1) h1).trans h.k1, (hb.cell (p := ⟨K2, 0, none⟩) (World.block_lt_of_cell? W _ h.k2) h2).trans h.k2, (hb.cell (p := ⟨K3, 0, none⟩) (World.block_lt_of_cell? W _ h.k3) h3).trans h.k3, h.s.but hb hH ho, h.b.but hb hc, h.xv, h.xe, h.xg, h.xb, h.xo, h.xc, h.xl, h.n1, h.n2, h.n3, h.nh, h.nc⟩
theorem FAt.next {f a m X w0 V E G bs L R K1 K2 K3 H c bo O B W W'} (h : FAt f a m X w0 V E G bs L R K1 K2 K3 H c bo O B W) (hb : But (fun _ => False) W W') : FAt f a m X w0 V E G bs L R K1 K2 K3 H c bo O B W' :=
  h.but hb (fun _ h => h.elim) (fun h => h) (fun h => h) (fun h => h) (fun h => h) (fun h => h) (fun _ _ h => h)
/-- One of the sets turned. -/
theorem FAt.turnO {f a m X w0 V E G bs L R K1 K2 K3 H c bo O B W W' l A} (h : FAt f a m X w0 V E G bs L R K1 K2 K3 H c bo O B W) (hl : l < O.length) (hb : But (fun k => k = bo.getD l 0) W W') (hA : SetB (bo.getD l 0) m A W') : FAt f a m X w0 V E G bs L R K1 K2 K3 H c bo (O.set l A) B W' := by
  have hm := h.s.mem hl
  have hx : ∀ k, k < X → ¬ k = bo.getD l 0 := fun k hk hd => by have := h.xo _ hm; omega
  refine ⟨⟨h.ok.v.but hb (hx _ h.xv), h.ok.e.but hb (hx _ h.xe), h.ok.s.but hb (hx _ h.xg) (fun b hb' => hx _ (h.xb b hb')), h.ok.vb, h.ok.eb, h.ok.vl, h.ok.el, h.ok.gl, h.ok.bl, h.ok.ve, h.ok.vg, h.ok.eg, below_but h.ok.below hb (fun k hk => by rw [hk]; exact Nat.le_trans h.xl (h.xo _ hm))⟩,
    (hb.cell (p := ⟨K1, 0, none⟩) (World.block_lt_of_cell? W _ h.k1) (fun e => h.n1.1 (by rw [show K1 = bo.getD l 0 from e]; exact hm))).trans h.k1, (hb.cell (p := ⟨K2, 0, none⟩) (World.block_lt_of_cell? W _ h.k2) (fun e => h.n2.1 (by rw [show K2 = bo.getD l 0 from e]; exact hm))).trans h.k2, (hb.cell (p := ⟨K3, 0, none⟩) (World.block_lt_of_cell? W _ h.k3) (fun e => h.n3.1 (by rw [show K3 = bo.getD l 0 from e]; exact hm))).trans h.k3, h.s.turn hl hb hA, h.b.but hb (fun e => h.nc (by rw [show c = bo.getD l 0 from e]; exact hm)), h.xv, h.xe, h.xg, h.xb, h.xo, h.xc, h.xl, h.n1, h.n2, h.n3, h.nh, h.nc⟩
/-- What stands behind turned. -/
theorem FAt.turnB {f a m X w0 V E G bs L R K1 K2 K3 H c bo O B B' W W'} (h : FAt f a m X w0 V E G bs L R K1 K2 K3 H c bo O B W) (hb : But (fun k => k = c) W W') (hB : SetB c m B' W') : FAt f a m X w0 V E G bs L R K1 K2 K3 H c bo O B' W' := by
  have hx : ∀ k, k < X → ¬ k = c := fun k hk hd => by have := h.xc; omega
  refine ⟨⟨h.ok.v.but hb (hx _ h.xv), h.ok.e.but hb (hx _ h.xe), h.ok.s.but hb (hx _ h.xg) (fun b hb' => hx _ (h.xb b hb')), h.ok.vb, h.ok.eb, h.ok.vl, h.ok.el, h.ok.gl, h.ok.bl, h.ok.ve, h.ok.vg, h.ok.eg, below_but h.ok.below hb (fun k hk => by rw [hk]; exact Nat.le_trans h.xl h.xc)⟩,
    (hb.cell (p := ⟨K1, 0, none⟩) (World.block_lt_of_cell? W _ h.k1) h.n1.2).trans h.k1, (hb.cell (p := ⟨K2, 0, none⟩) (World.block_lt_of_cell? W _ h.k2) h.n2.2).trans h.k2, (hb.cell (p := ⟨K3, 0, none⟩) (World.block_lt_of_cell? W _ h.k3) h.n3.2).trans h.k3, h.s.but hb h.nh (fun b hb' e => h.nc (e ▸ hb')), hB, h.xv, h.xe, h.xg, h.xb, h.xo, h.xc, h.xl, h.n1, h.n2, h.n3, h.nh, h.nc⟩
theorem setRow_set {b m : Nat} {ws ws' : List Nat} {W : World} (h : SetB b m ws W) (hw : Words m ws') : SetB b m ws' (W.setRow b (ws'.map encU).toArray) ∧ But (fun k => k = b) W (W.setRow b (ws'.map encU).toArray) :=
  ⟨⟨setRow_heap W b _ _ 39 _ h.1, hw⟩, ⟨rfl, rfl, rfl, by simp [World.setRow], fun k _ hk => setRow_other W b k _ hk⟩⟩
theorem one39 : (Tryd.prog.info? 39).map (·.size) = some 1 := by kernel_rfl
theorem run_copySet {b c m : Nat} {ws ws' : List Nat} {W : World} (hb : SetB b m ws W) (hc : SetB c m ws' W) (ty : TypeId) :
    (Builtin.copy_ #[61, 61] ty #[.slice (some ⟨b, 0, none⟩) m m, .slice (some ⟨c, 0, none⟩) m m]).run Tryd.prog W = .ok (goInt m) (W.setRow b (ws'.map encU).toArray) := by
  have h := run_copy_row (P := Tryd.prog) W 61 61 ty 39 b 0 m m ⟨c, 0, none⟩ m m (ws.map encU).toArray 39 (ws'.map encU) Tryd.underlying61 one39 hb.1 (by rw [List.length_map, hc.2.1]; exact (Nat.min_self m).symm)
    (fun j v hj => by
      rw [List.getElem?_map] at hj
      have hjl : j < ws'.length := by
        rcases Nat.lt_or_ge j ws'.length with h | h
        · exact h
        · rw [List.getElem?_eq_none h] at hj; cases hj
      rw [List.getElem?_eq_getElem hjl] at hj
      simp only [Option.map_some, Option.some.injEq] at hj
      rw [add_plain, Nat.zero_add, hc.cell (by rw [← hc.2.1]; exact hjl), wOf_get hjl, ← hj]
      rfl)
    (by simp [hb.2.1, hc.2.1]) (fun v hv => by obtain ⟨x, _, rfl⟩ := List.mem_map.1 hv; rfl)
  rw [h, List.length_map, hc.2.1, List.drop_of_length_le (by simp [hb.2.1])]
  simp
theorem run_clearSet {b m : Nat} {ws : List Nat} {W : World} (hb : SetB b m ws W) (hm : 0 < m) (ty : TypeId) :
    (Builtin.clear_ #[61] ty #[.slice (some ⟨b, 0, none⟩) m m]).run Tryd.prog W = .ok (.tuple #[]) (W.setRow b ((List.replicate m 0).map encU).toArray) := by
  obtain ⟨k, rfl⟩ : ∃ k, m = k + 1 := ⟨m - 1, by omega⟩
  have hz := Tryd.zeroValue39 W
  have e : (Builtin.zeroCells (Value.cells (.int .u64 0)) (k + 1)).toList = (List.replicate (k + 1) 0).map encU := by
    unfold Builtin.zeroCells
    simp only [Value.cells, List.size_toArray, List.length_cons, List.length_nil, Nat.zero_add, Nat.mul_one, Nat.mod_one, Array.toList_map, Array.toList_range]
    apply List.ext_getElem (by simp)
    intro i h1 h2
    simp [encU]
  have hst := run_storeCells_at Tryd.prog b 0 39 ((List.replicate (k + 1) 0).map encU) 0 (ws.map encU).toArray W hb.1 (by simp [hb.2.1]) (fun v hv => by obtain ⟨x, _, rfl⟩ := List.mem_map.1 hv; rfl)
  have hu := Tryd.underlying61
  simp [Builtin.clear_, run_underlying hu, hz, e]
  rw [List.map_replicate, List.length_replicate, List.drop_of_length_le (by simp [hb.2.1])] at hst
  rw [hst]
  simp [Result.andThen]
end Go.Proofs.YtckbfiigbckmeaaDoor
