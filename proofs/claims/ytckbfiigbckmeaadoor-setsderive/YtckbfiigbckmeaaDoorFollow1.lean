/- The closure of Follow: one production, its items from the last one on. -/
import Derived.Test.YtckbfiigbckmeaaDoorFollow0
namespace Go.Proofs.YtckbfiigbckmeaaDoor
open Go.RowKit Go.Shelf
attribute [local go_sem] Oper.semAt_some

set_option maxRecDepth 100000 in
set_option maxHeartbeats 2000000 in
theorem follow1_in (n : Nat) (hn : 6 ≤ n) (f : Fl) (a : FlA) (m X : Nat) (w0 : World) (V E G : Nat) (bs : List Nat) (L : List Bool) (R : List (List Nat)) (K1 K2 K3 H c : Nat) (bo : List Nat) (O0 : List (List Nat)) (B0 : List Nat) (l : Nat) (r : List It) (vr : Value) (w : World)
    (hp : FitP f) (hm : m ≤ 20) (hm0 : 0 < m) (hF : FAt f a m X w0 V E G bs L R K1 K2 K3 H c bo O0 B0 w) (hO : StO2 f m O0) (hR : WOk m f.n R) (hRm : ∀ s, s < f.n → ∀ t, t ∈ listW (WR R s) ↔ FstP f s t) (hE : ∀ s, s < f.n → (onb L s = true ↔ EmpP f s))
    (hl : l < f.n) (hg : (l, r.map fun x => x.sym.toNat) ∈ f.gr) (hsy : ∀ x ∈ r, 0 ≤ x.sym ∧ x.sym < (f.n : Int)) (hv : SlT r vr w) (hr : r.length ≤ 64) (hvx : ∀ (k : Nat) (ao : Addr), vr = .slice (some ao) r.length k → r ≠ [] → ao.block < X) :
    CallsIn Fence.wide n Tryd.prog 54 #[.int .i64 l, vr, .pointer (some ⟨K1, 0, none⟩), .pointer (some ⟨K2, 0, none⟩), .pointer (some ⟨K3, 0, none⟩)] w fun e w' => ∃ O' B' g, e = .returned (.bool g) ∧ FAt f a m X w0 V E G bs L R K1 K2 K3 H c bo O' B' w' ∧ FI f m O0 l (r.map fun x => x.sym.toNat) r.length O' B' g ∧ But (Dk bo c) w w' := by
  have h1 : 1 ≤ n := by omega
  obtain ⟨va, vc, rfl, hI, _⟩ := hv
  have hOl : O0.length = f.n := hO.ok.len
  have hlO : l < O0.length := by rw [hOl]; exact hl
  have hn6 : f.n ≤ 600 := hp.size
  obtain ⟨Wg, hWg⟩ : ∃ Wg, w.alloc (Obj.cells #[Value.bool false] 4) = Wg := ⟨_, rfl⟩
  have hbg : Below w.heap.size w Wg := by rw [← hWg]; exact (Below.refl _ _).alloc (Nat.le_refl _) _
  have hgc : Wg.cell? ⟨w.heap.size, 0, none⟩ = some (.bool false) := by rw [← hWg]; simp
  have hgf : Wg.frozen? ⟨w.heap.size, 0, none⟩ = false := by rw [← hWg]; simp
  have hgz : Wg.heap.size = w.heap.size + 1 := by rw [← hWg]; simp
  have HWg : Hid (w.alloc (Obj.cells #[Value.bool false] 4) = Wg) := hWg
  clear hWg
  have FG : FAt f a m X w0 V E G bs L R K1 K2 K3 H c bo O0 B0 Wg := hF.next (But.of_next hbg)
  have hcw : c < w.heap.size := hF.b.lt
  have hbow := hF.s.blk
  have hK1w := World.block_lt_of_cell? w _ hF.k1
  have hK2w := World.block_lt_of_cell? w _ hF.k2
  have hK3w := World.block_lt_of_cell? w _ hF.k3
  have hHw := hF.s.lt
  have hXw : ∀ k, k < X → k < w.heap.size := fun k hk => by have := hF.xc; omega
  have y1 := FG.k1
  have y2 := FG.k2
  have y3 := FG.s.cell hlO
  have hcopy := run_copySet (W := Wg.drew) (b := c) (c := bo.getD l 0) (m := m) ⟨FG.b.1, FG.b.2⟩ ⟨(FG.s.each l hlO).1, (FG.s.each l hlO).2⟩ 3
  have hset := setRow_set (W := Wg.drew) (ws' := WR O0 l) (b := c) (m := m) ⟨FG.b.1, FG.b.2⟩ (hO.ok.words l hl)
  obtain ⟨bl, hbl⟩ : ∃ bl, bo.getD l 0 = bl := ⟨_, rfl⟩
  rw [hbl] at y3 hcopy
  obtain ⟨W2, hW2⟩ : ∃ W2, Wg.drew.setRow c ((WR O0 l).map encU).toArray = W2 := ⟨_, rfl⟩
  rw [hW2] at hset hcopy
  have hb2 : But (fun k => k = c) Wg W2 := ((But.refl _ Wg).drew).trans hset.2
  have F2 : FAt f a m X w0 V E G bs L R K1 K2 K3 H c bo O0 (WR O0 l) W2 := FG.turnB hb2 hset.1
  have hg2 : W2.cell? ⟨w.heap.size, 0, none⟩ = some (.bool false) := (hb2.cell (p := ⟨w.heap.size, 0, none⟩) (by show w.heap.size < _; omega) (by show w.heap.size ≠ c; omega)).trans hgc
  have hgf2 : W2.frozen? ⟨w.heap.size, 0, none⟩ = false := (hb2.frozen (p := ⟨w.heap.size, 0, none⟩) (by show w.heap.size < _; omega) (by show w.heap.size ≠ c; omega)).trans hgf
  have B2 : But (Dk bo c) w W2 := (But.of_next hbg).trans (hb2.mono (fun k _ hk => .inr hk))
  have hz2 : w.heap.size + 1 ≤ W2.heap.size := by have := hb2.size; omega
  have HS2 : Hid ((fun W => W.cell? ⟨K1, 0, none⟩ = some (.slice (some ⟨c, 0, none⟩) m m) ∧ W.cell? ⟨K2, 0, none⟩ = some (.slice (some ⟨H, 0, none⟩) f.n f.n) ∧ W.cell? ⟨H, l, none⟩ = some (.slice (some ⟨bl, 0, none⟩) m m)) Wg.drew) := ⟨y1, y2, y3⟩
  have HS2' : Hid ((fun W => W.cell? ⟨K1, 0, none⟩ = some (.slice (some ⟨c, 0, none⟩) m m) ∧ W.cell? ⟨K2, 0, none⟩ = some (.slice (some ⟨H, 0, none⟩) f.n f.n) ∧ W.cell? ⟨H, l, none⟩ = some (.slice (some ⟨bl, 0, none⟩) m m)) W2) := ⟨F2.k1, F2.k2, by have := F2.s.cell hlO; rw [hbl] at this; exact this⟩
  clear hset hb2 FG hgc hgf hW2 hbl y1 y2 y3
  refine callsIn_of_wp_marks Tryd.func54 rfl trivial ?_ rfl
  simp only [Tryd.ntmps54, List.size_toArray, List.length_cons, List.length_nil, Nat.reduceAdd, Nat.reduceSub, Array.replicate_succ, Array.replicate_zero, List.push_toArray, List.append_toArray, List.nil_append, List.cons_append]
  gi_wp2
  rw [HWg.out]
  refine wpIn_wide.2 ?_
  refine wp_region_noPanic ?_
  refine wp_region_L (fun W => W.cell? ⟨K1, 0, none⟩ = some (.slice (some ⟨c, 0, none⟩) m m) ∧ W.cell? ⟨K2, 0, none⟩ = some (.slice (some ⟨H, 0, none⟩) f.n f.n) ∧ W.cell? ⟨H, l, none⟩ = some (.slice (some ⟨bl, 0, none⟩) m m)) 6 (by kernel_rfl) 6 rfl ?_
  refine wpL_take (v := ?_) (oi := { dst := some 11, op := Op.load 61 (Operand.tmp 2), type := 61, pos := "view.go:66", after := #[], guard := none }) (by decide) rfl (by kernel_rfl) (by kernel_rfl) (by kernel_rfl) (by kernel_rfl) (fun _ _ _ h => h) (Or.inl ⟨by rfl, ?_⟩) HS2.out ?_
  rotate_left
  · intro W hSW
    go_simp
    try with_reducible rfl
  simp only [Act.put, List.setIfInBounds_toArray, List.set_cons_zero, List.set_cons_succ]
  refine wpL_take (v := ?_) (oi := { dst := some 12, op := Op.load 52 (Operand.tmp 3), type := 52, pos := "view.go:66", after := #[], guard := none }) (by decide) rfl (by kernel_rfl) (by kernel_rfl) (by kernel_rfl) (by kernel_rfl) (fun _ _ _ h => h) (Or.inl ⟨by rfl, ?_⟩) HS2.out ?_
  rotate_left
  · intro W hSW
    go_simp
    try with_reducible rfl
  simp only [Act.put, List.setIfInBounds_toArray, List.set_cons_zero, List.set_cons_succ]
  refine wpL_take (v := ?_) (oi := { dst := some 13, op := Op.move (Operand.tmp 0), type := 3, pos := "view.go:66", after := #[], guard := none }) (by decide) rfl (by kernel_rfl) (by kernel_rfl) (by kernel_rfl) (by kernel_rfl) (fun _ _ _ h => h) (Or.inl ⟨by rfl, ?_⟩) HS2.out ?_
  rotate_left
  · intro W hSW
    go_simp
    try with_reducible rfl
  simp only [Act.put, List.setIfInBounds_toArray, List.set_cons_zero, List.set_cons_succ]
  refine wpL_take (v := ?_) (oi := { dst := some 14, op := Op.indexAddr 52 (Operand.tmp 12) (Operand.tmp 13), type := 0, pos := "view.go:66", after := #[{ on := 1, ground := Ground.data }, { on := 2, ground := Ground.data }], guard := none }) (by decide) rfl (by kernel_rfl) (by kernel_rfl) (by kernel_rfl) (by kernel_rfl) (fun _ _ _ h => h) (Or.inl ⟨by rfl, ?_⟩) HS2.out ?_
  rotate_left
  · intro W hSW
    go_simp
    try with_reducible rfl
  simp only [Act.put, List.setIfInBounds_toArray, List.set_cons_zero, List.set_cons_succ]
  refine wpL_take (v := ?_) (oi := { dst := some 15, op := Op.load 61 (Operand.tmp 14), type := 61, pos := "view.go:66", after := #[{ on := 3, ground := Ground.data }], guard := none }) (by decide) rfl (by kernel_rfl) (by kernel_rfl) (by kernel_rfl) (by kernel_rfl) (fun _ _ _ h => h) (Or.inl ⟨by rfl, ?_⟩) HS2.out ?_
  rotate_left
  · intro W hSW
    go_simp
    try with_reducible rfl
  simp only [Act.put, List.setIfInBounds_toArray, List.set_cons_zero, List.set_cons_succ]
  refine wpL_one (o := { dst := some 16, op := Op.call { callee := Callee.builtin Builtin.copy, args := #[Operand.tmp 11, Operand.tmp 15], argTypes := #[61, 61] }, type := 3, pos := "view.go:66", after := #[{ on := 0, ground := Ground.data }, { on := 4, ground := Ground.data }], guard := none }) (by decide) (by kernel_rfl) rfl (fun K hK => ?_)
  go_simp
  refine hK.out _ _ (fun _ => HS2'.out) ?_
  clear hK
  refine wpAnyL_done (by kernel_rfl) ?_ _
  refine NoPanic.normal ?_
  clear HS2 HS2' hcopy
  gi_wp2
  refine ⟨trivial, ?_⟩
  refine (callsIn_wide.2 (back_any _ _ ⟨_, _, _, rfl⟩)).mono ?_
  rintro e w1 ⟨rfl, rfl⟩
  gi_wp2
  obtain ⟨it, hit, hmem⟩ : ∃ it : Nat → It, (∀ x, x < r.length → r[r.length - 1 - x]? = some (it x)) ∧ (r ≠ [] → ∀ x, it x ∈ r) := by
    cases r with
    | nil => exact ⟨fun _ => ⟨0, ByteArray.empty, ByteArray.empty⟩, fun x hx => by simp at hx, fun h => absurd rfl h⟩
    | cons y r => exact ⟨fun x => (y :: r)[(y :: r).length - 1 - x]'(by simp; omega), fun x _ => List.getElem?_eq_getElem _, fun _ x => List.getElem_mem _⟩
  have hbz : Below W2.heap.size W2 (W2.alloc (Obj.cells #[.slice va r.length vc] 26)) := (Below.refl _ _).alloc (Nat.le_refl _) _
  have hsz : (W2.alloc (Obj.cells #[.slice va r.length vc] 26)).heap.size = W2.heap.size + 1 := by simp
  have hbx : (W2.alloc (Obj.cells #[.slice va r.length vc] 26)).cell? ⟨W2.heap.size, 0, none⟩ = some (.slice va r.length vc) := by simp
  have hvb : ∀ ad, va = some ad → r.length ≠ 0 → ad.block < X := fun ad e h => hvx vc ad (by rw [e]) (fun h' => h (by rw [h']; rfl))
  have hXD : ∀ k, k < X → ¬ Dk bo c k := fun k hk hd => by
    rcases hd with h | h
    · have := hF.xo k h; omega
    · have := hF.xc; omega
  have hIc : ∀ x, x < r.length → ∃ b off, va = some ⟨b, off, none⟩ ∧ (W2.alloc (Obj.cells #[.slice va r.length vc] 26)).cell? ⟨b, off + (r.length - 1 - x) * 3, none⟩ = some (.int .i64 (it x).sym) ∧ (W2.alloc (Obj.cells #[.slice va r.length vc] 26)).cell? ⟨b, off + (r.length - 1 - x) * 3 + 1, none⟩ = some (.string (it x).fld) ∧ (W2.alloc (Obj.cells #[.slice va r.length vc] 26)).cell? ⟨b, off + (r.length - 1 - x) * 3 + 2, none⟩ = some (.string (it x).als) := fun x hx => by
    obtain ⟨b, off, e0, e1, e2, e3, e4, _⟩ := hI _ _ (hit x hx)
    have hbX : b < X := hvb _ e0 (by omega)
    have e : ∀ {o v}, w.cell? ⟨b, o, none⟩ = some v → (W2.alloc (Obj.cells #[.slice va r.length vc] 26)).cell? ⟨b, o, none⟩ = some v := fun {o v} h => (hbz.cell (p := ⟨b, o, none⟩) (by show b < _; omega)).trans ((B2.cell (p := ⟨b, o, none⟩) e1 (hXD b hbX)).trans h)
    exact ⟨b, off, e0, e e2, e e3, e e4⟩
  have hvl : ∀ ad, va = some ad → r.length ≠ 0 → ad.block < (W2.alloc (Obj.cells #[.slice va r.length vc] 26)).heap.size := fun ad e h => by have := hXw _ (hvb ad e h); rw [hsz]; omega
  have FZ := F2.next (But.of_next hbz)
  have hgZ := (hbz.cell (p := ⟨w.heap.size, 0, none⟩) (by show w.heap.size < _; omega)).trans hg2
  have hfZ := (hbz.frozen (p := ⟨w.heap.size, 0, none⟩) (by show w.heap.size < _; omega)).trans hgf2
  have BZ := B2.trans (But.of_next hbz)
  generalize (W2.alloc (Obj.cells #[.slice va r.length vc] 26)) = Wz at *
  have HKX : Hid (∀ O B A C, FAt f a m X w0 V E G bs L R K1 K2 K3 H c bo O B A → w.heap.size + 1 ≤ A.heap.size → Below (w.heap.size + 1) A C → FAt f a m X w0 V E G bs L R K1 K2 K3 H c bo O B C) := fun O B A C h hs hb => by
    refine h.but (But.of_below hb) (fun k hk => ?_) ?_ ?_ ?_ ?_ ?_ (fun b hb' => ?_)
    · have := hF.xc; omega
    all_goals try omega
    have := hbow b hb'
    omega
  refine wpIn_rangeFunc_ownH (α := Nat) rfl h1 (gf := 67) (lb := #[.pointer (some ⟨W2.heap.size, 0, none⟩)]) rfl trivial (enters_of Tryd.func67 (by kernel_rfl) rfl)
    (back_stops (n - 1) (by omega) W2.heap.size r.length vc va it (by omega) Wz (by omega) hvl hbx hIc)
    KpC.trans (fun W l o o' _ h hc _ => KpC.putObj W l o o' h hc) (Below.refl _ _) (fun _ => rfl)
    (fun pre Y => ∃ O B g, FAt f a m X w0 V E G bs L R K1 K2 K3 H c bo O B Y ∧ Y.cell? ⟨w.heap.size, 0, none⟩ = some (.bool g) ∧ Y.frozen? ⟨w.heap.size, 0, none⟩ = false ∧ O.length = f.n ∧ (pre = List.range pre.length → FI f m O0 l (r.map fun x => x.sym.toNat) pre.length O B g) ∧ But (Dk bo c) w Y)
    (fun _ _ _ => False)
    (fun pre A C row hs hg hr => ?_) (fun cc pre A C row hs hg hr => hs)
    ⟨O0, WR O0 l, false, FZ, hgZ, hfZ, hOl, fun _ => FI.start hO hl, BZ⟩
    (fun x a' Y => ∃ Z, a' = { tmps := #[.int .i64 l, .slice va r.length vc, .pointer (some ⟨K1, 0, none⟩), .pointer (some ⟨K2, 0, none⟩), .pointer (some ⟨K3, 0, none⟩), undef, undef, .bool false, .pointer (some ⟨w.heap.size, 0, none⟩), undef, .pointer (some ⟨Z, 0, none⟩), .slice (some ⟨c, 0, none⟩) m m, .slice (some ⟨H, 0, none⟩) f.n f.n, .int .i64 l, .pointer (some ⟨H, l, none⟩), .slice (some ⟨bl, 0, none⟩) m m, .int .i64 m, .slice va r.length vc, .func (.func 67) #[] #[.pointer (some ⟨W2.heap.size, 0, none⟩)], .int .i64 ((r.length - 1 - x : Nat) : Int), .agg #[.int .i64 (it x).sym, .string (it x).fld, .string (it x).als], undef, undef, undef, undef, undef, undef, undef, undef, undef, undef, undef, undef, undef, undef, undef, undef, undef, undef, undef, undef, undef, undef, undef, undef, undef, undef, undef, undef, undef, undef, undef, undef, undef, undef, undef, undef, undef, undef], defers := [] } ∧ Y.cell? ⟨Z, 0, none⟩ = some (.int .i64 (it x).sym) ∧ w.heap.size + 1 ≤ Z)
    (fun x a' _ A C row hs hg hr => ?_)
    ?assign ?body ?done ?stop
  · obtain ⟨O, B, g, k1, k2, k3, k4, k5, k6⟩ := hs
    have hA := World.block_lt_of_cell? A _ k2
    simp only at hA
    have hb : Below (w.heap.size + 1) A C := (Below.refl _ A).grown hg (by omega) (fun k e => by have := (hr k e).1; omega)
    exact ⟨O, B, g, HKX.out _ _ _ _ k1 (by omega) hb, (hb.cell (p := ⟨w.heap.size, 0, none⟩) (Nat.lt_succ_self _)).trans k2, (hb.frozen (p := ⟨w.heap.size, 0, none⟩) (Nat.lt_succ_self _)).trans k3, k4, k5, k6.grown hg (fun r e => by have := (hr r e).1; omega)⟩
  · obtain ⟨Z, k1, k2, k3⟩ := hs
    exact ⟨Z, k1, cell_kept k2 hg (fun r e => (hr r e).2), k3⟩
  case assign =>
    clear hF
    rintro lp pre x Y K ⟨O, B, g, k1, k2, k3, k4, k5, k6⟩ hK
    have hA := World.block_lt_of_cell? Y _ k2
    simp only at hA
    have hK' := fun a' Y' (hb : Below Y.heap.size Y Y') => hK a' Y' ((But.of_next (D := fun _ => False) hb).keeps (fun _ h => h.elim)) ((But.of_next (D := fun _ => False) hb).kpC (fun _ _ h => h)) ⟨O, B, g, k1.next (But.of_next hb), (hb.cell (p := ⟨w.heap.size, 0, none⟩) hA).trans k2, (hb.frozen (p := ⟨w.heap.size, 0, none⟩) hA).trans k3, k4, k5, k6.trans (But.of_next hb)⟩
    have HK' : Hid (∀ a' Y', Below Y.heap.size Y Y' → (∃ Z, a' = { tmps := #[.int .i64 l, .slice va r.length vc, .pointer (some ⟨K1, 0, none⟩), .pointer (some ⟨K2, 0, none⟩), .pointer (some ⟨K3, 0, none⟩), undef, undef, .bool false, .pointer (some ⟨w.heap.size, 0, none⟩), undef, .pointer (some ⟨Z, 0, none⟩), .slice (some ⟨c, 0, none⟩) m m, .slice (some ⟨H, 0, none⟩) f.n f.n, .int .i64 l, .pointer (some ⟨H, l, none⟩), .slice (some ⟨bl, 0, none⟩) m m, .int .i64 m, .slice va r.length vc, .func (.func 67) #[] #[.pointer (some ⟨W2.heap.size, 0, none⟩)], .int .i64 ((r.length - 1 - x : Nat) : Int), .agg #[.int .i64 (it x).sym, .string (it x).fld, .string (it x).als], undef, undef, undef, undef, undef, undef, undef, undef, undef, undef, undef, undef, undef, undef, undef, undef, undef, undef, undef, undef, undef, undef, undef, undef, undef, undef, undef, undef, undef, undef, undef, undef, undef, undef, undef, undef, undef, undef], defers := [] } ∧ Y'.cell? ⟨Z, 0, none⟩ = some (.int .i64 (it x).sym) ∧ w.heap.size + 1 ≤ Z) → K a' Y') := hK'
    clear hK hK' k1 k2 k3 k4 k5 k6 HKX hIc
    dsimp only [encBk]
    gi_wp2
    exact HK'.out _ _ ((Below.refl _ _).alloc (Nat.le_refl _) _) ⟨_, rfl, by simp, by omega⟩
  case body =>
    rintro lp pre x a' Y hlp hrl ⟨O, B, g, k1, k2, k3, k4, k5, k6⟩ ⟨Z, rfl, hZ, hZl⟩ hlt
    have hxm := hmem (fun h => by rw [h] at hlt; simp at hlt) x
    have hxs := hsy _ hxm
    obtain ⟨q, hq⟩ : ∃ q : Nat, (it x).sym = q := ⟨(it x).sym.toNat, by omega⟩
    have hqn : q < f.n := by omega
    have hqO : q < O.length := by omega
    have hYz := World.block_lt_of_cell? Y _ k2
    simp only at hYz
    have hZz := World.block_lt_of_cell? Y _ hZ
    simp only at hZz
    rw [hq] at hZ
    -- what is to be shown at the end
    have HFIN : Hid (∀ Y', FAt f a m X w0 V E G bs L R K1 K2 K3 H c bo (folO f O B q) (folB (WR R) (onb L) m B q) Y' → Y'.cell? ⟨w.heap.size, 0, none⟩ = some (.bool (folG f O B g q)) → Y'.frozen? ⟨w.heap.size, 0, none⟩ = false → But (fun k => Dk bo c k ∨ k = w.heap.size) Y Y' →
        KeepsFrom Wz.heap.size Y Y' ∧ KpC (fun k => k = W2.heap.size ∨ ∃ ad, va = some ad ∧ ad.block = k) Y Y' ∧ ∃ O B g, FAt f a m X w0 V E G bs L R K1 K2 K3 H c bo O B Y' ∧ Y'.cell? ⟨w.heap.size, 0, none⟩ = some (.bool g) ∧ Y'.frozen? ⟨w.heap.size, 0, none⟩ = false ∧ O.length = f.n ∧ (pre ++ [x] = List.range (pre ++ [x]).length → FI f m O0 l (r.map fun x => x.sym.toNat) (pre ++ [x]).length O B g) ∧ But (Dk bo c) w Y') := by
      intro Y' j1 j2 j3 j4
      refine ⟨j4.keeps (fun k hk => ?_), j4.kpC (fun k hk hd => ?_), _, _, _, j1, j2, j3, ?_, fun hx => ?_, ?_⟩
      · rcases hk with (h | h) | h
        · have := hbow k h; omega
        · omega
        · omega
      · rcases hk with rfl | ⟨ad, e, rfl⟩
        · rcases hd with (h | h) | h
          · have := hbow _ h; omega
          · omega
          · omega
        · have hx1 := hvb ad e (by omega)
          rcases hd with h | h
          · exact hXD _ hx1 h
          · have := hXw _ hx1; omega
      · unfold folO; split
        · rw [List.length_set]; exact k4
        · exact k4
      · rw [List.length_append, List.length_singleton, List.range_succ] at hx
        have hx2 := List.append_inj' hx rfl
        have hx3 : x = pre.length := by simpa using hx2.2
        rw [List.length_append, List.length_singleton]
        refine (k5 hx2.1).step hO hl hg (by rw [List.length_map]; exact hlt) ?_ hqn (hR.words q hqn) (hRm q hqn) (hE q hqn)
        rw [List.length_map, List.getElem?_map, ← hx3, hit x (by omega), Option.map_some, hq]
        rfl
      · exact ⟨j4.os.trans k6.os, j4.tape.trans k6.tape, j4.output.trans k6.output, Nat.le_trans k6.size j4.size, fun k hk hd => (j4.block k (by have := k6.size; omega) (fun h => h.elim hd (fun e => by omega))).trans (k6.block k hk hd)⟩
    clear k5
    have hnH : n - 1 - 1 = n - 2 := by omega
    have x3 := k1.k3
    obtain ⟨v0, v1, v2, v3, v4⟩ := id k1.ok.v
    have HS5 : Hid ((fun W => W.cell? ⟨K3, 0, none⟩ = some (.pointer (some ⟨V, 0, none⟩)) ∧ W.cell? ⟨V, 0, none⟩ = some (.slice a.ta f.terms.length a.tc) ∧ W.cell? ⟨V, 1, none⟩ = some (.slice a.na f.nons.length a.nc) ∧ W.cell? ⟨V, 2, none⟩ = some (.slice a.pa f.prods.length a.pc) ∧ W.cell? ⟨Z, 0, none⟩ = some (.int .i64 q)) Y.drew) := ⟨x3, v0, v1, v2, hZ⟩
    have HS5' : Hid (∀ W', Below Y.heap.size Y W' → (fun W => W.cell? ⟨K3, 0, none⟩ = some (.pointer (some ⟨V, 0, none⟩)) ∧ W.cell? ⟨V, 0, none⟩ = some (.slice a.ta f.terms.length a.tc) ∧ W.cell? ⟨V, 1, none⟩ = some (.slice a.na f.nons.length a.nc) ∧ W.cell? ⟨V, 2, none⟩ = some (.slice a.pa f.prods.length a.pc) ∧ W.cell? ⟨Z, 0, none⟩ = some (.int .i64 q)) W') := fun W' hb => ⟨(hb.cell (p := ⟨K3, 0, none⟩) (by show K3 < _; omega)).trans x3, (hb.cell (p := ⟨V, 0, none⟩) k1.ok.v.lt).trans v0, (hb.cell (p := ⟨V, 1, none⟩) k1.ok.v.lt).trans v1, (hb.cell (p := ⟨V, 2, none⟩) k1.ok.v.lt).trans v2, (hb.cell (p := ⟨Z, 0, none⟩) hZz).trans hZ⟩
    have hJ := isNon_any f a (q : Int) Y.drew
    unfold FlA.val at hJ
    have HJ : Hid (Calls Tryd.prog 56 #[.agg #[Value.slice a.ta f.terms.length a.tc, Value.slice a.na f.nons.length a.nc, Value.slice a.pa f.prods.length a.pc], .int .i64 q] Y.drew fun e w' => e = .returned (.bool (decide (f.terms.length ≤ q))) ∧ Hid (Below Y.heap.size Y w')) := by
      refine hJ.mono ?_
      rintro e w' ⟨rfl, h2⟩
      refine ⟨?_, (Below.refl _ Y).drew.trans h2⟩
      simp
    clear hJ x3 v0 v1 v2 v3 v4 HKX hI hIc hvl FZ hgZ hfZ BZ HWg hbz hbx F2 hg2 hgf2 B2
    gi_wp2
    refine wpIn_region_L (fun W => W.cell? ⟨K3, 0, none⟩ = some (.pointer (some ⟨V, 0, none⟩)) ∧ W.cell? ⟨V, 0, none⟩ = some (.slice a.ta f.terms.length a.tc) ∧ W.cell? ⟨V, 1, none⟩ = some (.slice a.na f.nons.length a.nc) ∧ W.cell? ⟨V, 2, none⟩ = some (.slice a.pa f.prods.length a.pc) ∧ W.cell? ⟨Z, 0, none⟩ = some (.int .i64 q)) 7 (by kernel_rfl) 7 rfl (by kernel_rfl) (by rintro ⟨_, _, h⟩; exact h) ?_
    refine wpL_take (v := ?_) (oi := { dst := some 21, op := Op.load 55 (Operand.tmp 4), type := 55, pos := "view.go:68", after := #[], guard := none }) (by decide) rfl (by kernel_rfl) (by kernel_rfl) (by kernel_rfl) (by kernel_rfl) (fun _ _ _ h => h) (Or.inl ⟨by rfl, ?_⟩) HS5.out ?_
    rotate_left
    · intro W hSW
      go_simp
      try with_reducible rfl
    simp only [Act.put, List.setIfInBounds_toArray, List.set_cons_zero, List.set_cons_succ]
    refine wpL_take (v := ?_) (oi := { dst := some 22, op := Op.nilCheck (Operand.tmp 21), type := 0, pos := "view.go:68", after := #[{ on := 0, ground := Ground.data }], guard := none }) (by decide) rfl (by kernel_rfl) (by kernel_rfl) (by kernel_rfl) (by kernel_rfl) (fun _ _ _ h => h) (Or.inl ⟨by rfl, ?_⟩) HS5.out ?_
    rotate_left
    · intro W hSW
      go_simp
      try with_reducible rfl
    simp only [Act.put, List.setIfInBounds_toArray, List.set_cons_zero, List.set_cons_succ]
    refine wpL_take (v := ?_) (oi := { dst := some 23, op := Op.fieldAddr 54 (Operand.tmp 22) 0, type := 0, pos := "view.go:68", after := #[{ on := 1, ground := Ground.data }], guard := none }) (by decide) rfl (by kernel_rfl) (by kernel_rfl) (by kernel_rfl) (by kernel_rfl) (fun _ _ _ h => h) (Or.inl ⟨by rfl, ?_⟩) HS5.out ?_
    rotate_left
    · intro W hSW
      go_simp
      try with_reducible rfl
    simp only [Act.put, List.setIfInBounds_toArray, List.set_cons_zero, List.set_cons_succ]
    refine wpL_take (v := ?_) (oi := { dst := some 24, op := Op.load 25 (Operand.tmp 23), type := 25, pos := "view.go:68", after := #[{ on := 2, ground := Ground.data }], guard := none }) (by decide) rfl (by kernel_rfl) (by kernel_rfl) (by kernel_rfl) (by kernel_rfl) (fun _ _ _ h => h) (Or.inl ⟨by rfl, ?_⟩) HS5.out ?_
    rotate_left
    · intro W hSW
      go_simp
      try with_reducible rfl
    simp only [Act.put, List.setIfInBounds_toArray, List.set_cons_zero, List.set_cons_succ]
    refine wpL_take (v := ?_) (oi := { dst := some 25, op := Op.fieldAddr 48 (Operand.tmp 10) 0, type := 0, pos := "view.go:68", after := #[], guard := none }) (by decide) rfl (by kernel_rfl) (by kernel_rfl) (by kernel_rfl) (by kernel_rfl) (fun _ _ _ h => h) (Or.inl ⟨by rfl, ?_⟩) HS5.out ?_
    rotate_left
    · intro W hSW
      go_simp
      try with_reducible rfl
    simp only [Act.put, List.setIfInBounds_toArray, List.set_cons_zero, List.set_cons_succ]
    refine wpL_take (v := ?_) (oi := { dst := some 26, op := Op.load 3 (Operand.tmp 25), type := 3, pos := "view.go:68", after := #[{ on := 4, ground := Ground.data }], guard := none }) (by decide) rfl (by kernel_rfl) (by kernel_rfl) (by kernel_rfl) (by kernel_rfl) (fun _ _ _ h => h) (Or.inl ⟨by rfl, ?_⟩) HS5.out ?_
    rotate_left
    · intro W hSW
      go_simp
      try with_reducible rfl
    simp only [Act.put, List.setIfInBounds_toArray, List.set_cons_zero, List.set_cons_succ]
    refine wpL_one (o := { dst := some 27, op := Op.call { callee := Callee.value (Operand.func 56), args := #[Operand.tmp 24, Operand.tmp 26], argTypes := #[25, 3] }, type := 4, pos := "view.go:68", after := #[{ on := 3, ground := Ground.data }, { on := 5, ground := Ground.data }], guard := none }) (by decide) (by kernel_rfl) rfl (fun K hK => ?_)
    go_simp
    refine HJ.out.mono ?_
    rintro e w5 ⟨rfl, hb5⟩
    refine hK.out _ _ (fun _ => HS5'.out _ hb5.out) ?_
    clear hK HS5'
    refine wpAnyL_done (by kernel_rfl) ?_ _
    have F5 := k1.next (But.of_next hb5.out)
    have c5 := (hb5.out.cell (p := ⟨w.heap.size, 0, none⟩) hYz).trans k2
    have f5 := (hb5.out.frozen (p := ⟨w.heap.size, 0, none⟩) hYz).trans k3
    have Z5 := (hb5.out.cell (p := ⟨Z, 0, none⟩) hZz).trans hZ
    have B5 : But (fun k => Dk bo c k ∨ k = w.heap.size) Y w5 := But.of_next hb5.out
    have hz5 := hb5.out.size
    clear HJ HS5 hb5 k1 k2 k3 k6 hZ
    have hFO : folO f O B q = if f.terms.length ≤ q then O.set q (orW (WR O q) B) else O := rfl
    have hFG : folG f O B g q = if f.terms.length ≤ q then (newW (WR O q) B || g) else g := rfl
    obtain ⟨O1, hO1⟩ : ∃ O1, folO f O B q = O1 := ⟨_, rfl⟩
    obtain ⟨g1, hg1⟩ : ∃ g1, folG f O B g q = g1 := ⟨_, rfl⟩
    rw [hO1] at hFO HFIN
    rw [hg1] at hFG HFIN
    clear hO1 hg1
    by_cases hT : f.terms.length ≤ q
    · rw [decide_eq_true hT]
      rw [if_pos hT] at hFO hFG
      have hOq := F5.s.each q hqO
      have hbqm := F5.s.mem hqO
      have hqz := hbow _ hbqm
      have hqne : bo.getD q 0 ≠ c := fun h => F5.nc (h ▸ hbqm)
      have x2 := F5.k2
      have x1 := F5.k1
      have xq := F5.s.cell hqO
      have HJN : Hid (Calls Tryd.prog 57 #[.slice (some ⟨bo.getD q 0, 0, none⟩) m m, .slice (some ⟨c, 0, none⟩) m m] w5.drew fun e w2 => e = .returned (.bool (newW (WR O q) B)) ∧ Hid (FAt f a m X w0 V E G bs L R K1 K2 K3 H c bo O1 B w2 ∧ But (fun k => k = bo.getD q 0) w5 w2)) := by
        refine (join_any (WR O q) B (bo.getD q 0) c m w5.drew ⟨hOq.1, hOq.2⟩ ⟨F5.b.1, F5.b.2⟩ (by omega)).mono ?_
        rintro e w2 ⟨rfl, h1, h2⟩
        have h3 : But (fun k => k = bo.getD q 0) w5 w2 := ((But.refl _ w5).drew).trans h2
        rw [hFO]
        exact ⟨rfl, F5.turnO hqO h3 h1, h3⟩
      obtain ⟨bq, hbq⟩ : ∃ bq, bo.getD q 0 = bq := ⟨_, rfl⟩
      rw [hbq] at xq HJN hqne hqz hbqm
      have HS6 : Hid ((fun W => W.cell? ⟨K2, 0, none⟩ = some (.slice (some ⟨H, 0, none⟩) f.n f.n) ∧ W.cell? ⟨Z, 0, none⟩ = some (.int .i64 q) ∧ W.cell? ⟨H, q, none⟩ = some (.slice (some ⟨bq, 0, none⟩) m m) ∧ W.cell? ⟨K1, 0, none⟩ = some (.slice (some ⟨c, 0, none⟩) m m) ∧ W.cell? ⟨w.heap.size, 0, none⟩ = some (.bool g) ∧ W.frozen? ⟨w.heap.size, 0, none⟩ = false) w5.drew) := ⟨x2, Z5, xq, x1, c5, f5⟩
      have HS6' : Hid (∀ w2, FAt f a m X w0 V E G bs L R K1 K2 K3 H c bo O1 B w2 → But (fun k => k = bq) w5 w2 → (fun W => W.cell? ⟨K2, 0, none⟩ = some (.slice (some ⟨H, 0, none⟩) f.n f.n) ∧ W.cell? ⟨Z, 0, none⟩ = some (.int .i64 q) ∧ W.cell? ⟨H, q, none⟩ = some (.slice (some ⟨bq, 0, none⟩) m m) ∧ W.cell? ⟨K1, 0, none⟩ = some (.slice (some ⟨c, 0, none⟩) m m) ∧ W.cell? ⟨w.heap.size, 0, none⟩ = some (.bool g) ∧ W.frozen? ⟨w.heap.size, 0, none⟩ = false) w2) := fun w2 h1 h2 => by
        refine ⟨h1.k2, (h2.cell (p := ⟨Z, 0, none⟩) (by show Z < _; omega) (by show Z ≠ bq; omega)).trans Z5, ?_, h1.k1, (h2.cell (p := ⟨w.heap.size, 0, none⟩) (by show w.heap.size < _; omega) (by show w.heap.size ≠ bq; omega)).trans c5, (h2.frozen (p := ⟨w.heap.size, 0, none⟩) (by show w.heap.size < _; omega) (by show w.heap.size ≠ bq; omega)).trans f5⟩
        have := h1.s.cell (s := q) (by rw [hFO, List.length_set]; exact hqO)
        rw [hbq] at this
        exact this
      have HE6 : Hid (∀ w2 gb, FAt f a m X w0 V E G bs L R K1 K2 K3 H c bo O1 B w2 → But (fun k => k = bq) w5 w2 → FAt f a m X w0 V E G bs L R K1 K2 K3 H c bo O1 B (w2.setCell ⟨w.heap.size, 0, none⟩ gb) ∧ But (fun k => Dk bo c k ∨ k = w.heap.size) Y (w2.setCell ⟨w.heap.size, 0, none⟩ gb) ∧ w2.cell? ⟨Z, 0, none⟩ = some (.int .i64 q)) := fun w2 gb h1 h2 => by
        refine ⟨?_, (B5.trans (h2.mono (fun k _ hk => .inl (.inl (by rw [hk]; exact hbqm))))).setCell _ _ (.inr (.inr rfl)), (h2.cell (p := ⟨Z, 0, none⟩) (by show Z < _; omega) (by show Z ≠ bq; omega)).trans Z5⟩
        refine h1.but (D := fun k => k = w.heap.size) ((But.refl _ w2).setCell _ _ (.inr rfl)) ?_ ?_ ?_ ?_ ?_ ?_ ?_
        · intro k hk; have := hF.xc; omega
        all_goals try (intro h; omega)
        intro b hb h
        have := hbow b hb
        omega
      clear x1 x2 xq hOq F5 hbq hFO
      generalize newW (WR O q) B = nb at *
      cases nb with
      | true =>
        rw [Bool.true_or] at hFG
        gi_wp2
        refine wpIn_region_L (fun W => W.cell? ⟨K2, 0, none⟩ = some (.slice (some ⟨H, 0, none⟩) f.n f.n) ∧ W.cell? ⟨Z, 0, none⟩ = some (.int .i64 q) ∧ W.cell? ⟨H, q, none⟩ = some (.slice (some ⟨bq, 0, none⟩) m m) ∧ W.cell? ⟨K1, 0, none⟩ = some (.slice (some ⟨c, 0, none⟩) m m) ∧ W.cell? ⟨w.heap.size, 0, none⟩ = some (.bool g) ∧ W.frozen? ⟨w.heap.size, 0, none⟩ = false) 10 (by kernel_rfl) 11 rfl (by kernel_rfl) (by rintro ⟨_, _, h⟩; exact h) ?_
        refine wpL_take (v := ?_) (oi := { dst := some 28, op := Op.load 52 (Operand.tmp 3), type := 52, pos := "view.go:69", after := #[], guard := none }) (by decide) rfl (by kernel_rfl) (by kernel_rfl) (by kernel_rfl) (by kernel_rfl) (fun _ _ _ h => h) (Or.inl ⟨by rfl, ?_⟩) HS6.out ?_
        rotate_left
        · intro W hSW
          go_simp
          try with_reducible rfl
        simp only [Act.put, List.setIfInBounds_toArray, List.set_cons_zero, List.set_cons_succ]
        refine wpL_take (v := ?_) (oi := { dst := some 29, op := Op.fieldAddr 48 (Operand.tmp 10) 0, type := 0, pos := "view.go:69", after := #[], guard := none }) (by decide) rfl (by kernel_rfl) (by kernel_rfl) (by kernel_rfl) (by kernel_rfl) (fun _ _ _ h => h) (Or.inl ⟨by rfl, ?_⟩) HS6.out ?_
        rotate_left
        · intro W hSW
          go_simp
          try with_reducible rfl
        simp only [Act.put, List.setIfInBounds_toArray, List.set_cons_zero, List.set_cons_succ]
        refine wpL_take (v := ?_) (oi := { dst := some 30, op := Op.load 3 (Operand.tmp 29), type := 3, pos := "view.go:69", after := #[{ on := 1, ground := Ground.data }], guard := none }) (by decide) rfl (by kernel_rfl) (by kernel_rfl) (by kernel_rfl) (by kernel_rfl) (fun _ _ _ h => h) (Or.inl ⟨by rfl, ?_⟩) HS6.out ?_
        rotate_left
        · intro W hSW
          go_simp
          try with_reducible rfl
        simp only [Act.put, List.setIfInBounds_toArray, List.set_cons_zero, List.set_cons_succ]
        refine wpL_take (v := ?_) (oi := { dst := some 31, op := Op.indexAddr 52 (Operand.tmp 28) (Operand.tmp 30), type := 0, pos := "view.go:69", after := #[{ on := 0, ground := Ground.data }, { on := 2, ground := Ground.data }], guard := none }) (by decide) rfl (by kernel_rfl) (by kernel_rfl) (by kernel_rfl) (by kernel_rfl) (fun _ _ _ h => h) (Or.inl ⟨by rfl, ?_⟩) HS6.out ?_
        rotate_left
        · intro W hSW
          go_simp
          try with_reducible rfl
        simp only [Act.put, List.setIfInBounds_toArray, List.set_cons_zero, List.set_cons_succ]
        refine wpL_take (v := ?_) (oi := { dst := some 32, op := Op.load 61 (Operand.tmp 31), type := 61, pos := "view.go:69", after := #[{ on := 3, ground := Ground.data }], guard := none }) (by decide) rfl (by kernel_rfl) (by kernel_rfl) (by kernel_rfl) (by kernel_rfl) (fun _ _ _ h => h) (Or.inl ⟨by rfl, ?_⟩) HS6.out ?_
        rotate_left
        · intro W hSW
          go_simp
          try with_reducible rfl
        simp only [Act.put, List.setIfInBounds_toArray, List.set_cons_zero, List.set_cons_succ]
        refine wpL_take (v := ?_) (oi := { dst := some 33, op := Op.load 61 (Operand.tmp 2), type := 61, pos := "view.go:69", after := #[], guard := none }) (by decide) rfl (by kernel_rfl) (by kernel_rfl) (by kernel_rfl) (by kernel_rfl) (fun _ _ _ h => h) (Or.inl ⟨by rfl, ?_⟩) HS6.out ?_
        rotate_left
        · intro W hSW
          go_simp
          try with_reducible rfl
        simp only [Act.put, List.setIfInBounds_toArray, List.set_cons_zero, List.set_cons_succ]
        refine wpL_one (o := { dst := some 34, op := Op.call { callee := Callee.value (Operand.func 57), args := #[Operand.tmp 32, Operand.tmp 33], argTypes := #[61, 61] }, type := 4, pos := "view.go:69", after := #[{ on := 4, ground := Ground.data }, { on := 5, ground := Ground.data }], guard := none }) (by decide) (by kernel_rfl) rfl (fun K hK => ?_)
        go_simp
        refine HJN.out.mono ?_
        rintro e w2 ⟨rfl, h6⟩
        have HS7 := HS6'.out w2 h6.out.1 h6.out.2
        refine hK.out _ _ (fun _ => HS7) ?_
        clear hK
        refine wpL_take (v := ?_) (oi := { dst := some 35, op := Op.move (Operand.tmp 34), type := 4, pos := "view.go:69", after := #[{ on := 6, ground := Ground.data }, { on := 6, ground := Ground.chain }], guard := none }) (by decide) rfl (by kernel_rfl) (by kernel_rfl) (by kernel_rfl) (by kernel_rfl) (fun _ _ _ h => h) (Or.inl ⟨by rfl, ?_⟩) HS7 ?_
        rotate_left
        · intro W hSW
          go_simp
          try with_reducible rfl
        simp only [Act.put, List.setIfInBounds_toArray, List.set_cons_zero, List.set_cons_succ]
        refine wpL_take (v := undef) (oi := { dst := some 36, op := Op.load 4 (Operand.tmp 8), type := 4, pos := "view.go:69", after := #[{ on := 7, ground := Ground.guard }], guard := some (7, false) }) (by decide) rfl (by kernel_rfl) (by kernel_rfl) (by kernel_rfl) (by kernel_rfl) (fun _ _ _ h => h) (Or.inr ⟨by rfl, rfl⟩) HS7 ?_
        simp only [Act.put, List.setIfInBounds_toArray, List.set_cons_zero, List.set_cons_succ]
        refine wpL_take (v := ?_) (oi := { dst := some 37, op := Op.pick (Operand.tmp 35) (Operand.const (Value.bool true)) (Operand.tmp 36), type := 4, pos := "view.go:69", after := #[{ on := 7, ground := Ground.data }, { on := 8, ground := Ground.data }], guard := none }) (by decide) rfl (by kernel_rfl) (by kernel_rfl) (by kernel_rfl) (by kernel_rfl) (fun _ _ _ h => h) (Or.inl ⟨by rfl, ?_⟩) HS7 ?_
        rotate_left
        · intro W hSW
          go_simp
          try with_reducible rfl
        simp only [Act.put, List.setIfInBounds_toArray, List.set_cons_zero, List.set_cons_succ]
        refine wpL_one (o := { dst := none, op := Op.store 4 (Operand.tmp 8) (Operand.tmp 37), type := 0, pos := "view.go:69", after := #[{ on := 9, ground := Ground.data }, { on := 7, ground := Ground.chain }, { on := 0, ground := Ground.phase }, { on := 1, ground := Ground.phase }, { on := 2, ground := Ground.phase }, { on := 3, ground := Ground.phase }, { on := 4, ground := Ground.phase }, { on := 5, ground := Ground.phase }, { on := 6, ground := Ground.phase }, { on := 7, ground := Ground.phase }, { on := 8, ground := Ground.phase }, { on := 9, ground := Ground.phase }], guard := none }) (by decide) (by kernel_rfl) rfl (fun K hK => ?_)
        obtain ⟨y1, y2, y3, y4, y5, y6⟩ := id HS7
        go_simp
        refine hK.out _ _ (fun h => absurd h (by decide)) ?_
        clear hK
        refine wpAnyL_done (by kernel_rfl) ?_ _
        obtain ⟨F6, B6, Z6⟩ := HE6.out w2 (.bool true) h6.out.1 h6.out.2
        have c6 : (w2.setCell ⟨w.heap.size, 0, none⟩ (.bool true)).cell? ⟨w.heap.size, 0, none⟩ = some (.bool g1) := by rw [hFG]; exact World.cell?_setCell_same _ _ _ y5
        have f6 : (w2.setCell ⟨w.heap.size, 0, none⟩ (.bool true)).frozen? ⟨w.heap.size, 0, none⟩ = false := by rw [World.frozen?_setCell]; exact y6
        have Z6' : (w2.setCell ⟨w.heap.size, 0, none⟩ (.bool true)).cell? ⟨Z, 0, none⟩ = some (.int .i64 q) := (World.cell?_of_block (w := w2) (Below.heap_setCell w2 ⟨w.heap.size, 0, none⟩ _ Z (by show Z ≠ w.heap.size; omega))).trans Z6
        generalize w2.setCell ⟨w.heap.size, 0, none⟩ (.bool true) = w6 at *
        clear y1 y2 y3 y4 y5 y6 HS7 h6 HJN HS6 HS6' HE6 c5 f5 Z5 B5 hFG Z6 hbqm hqz hqne
        have HS7 : Hid ((fun W => W.cell? ⟨K3, 0, none⟩ = some (.pointer (some ⟨V, 0, none⟩)) ∧ W.cell? ⟨V, 3, none⟩ = some (.slice (some ⟨E, 0, none⟩) f.n f.n) ∧ W.cell? ⟨Z, 0, none⟩ = some (.int .i64 q) ∧ W.cell? ⟨E, q, none⟩ = some (.bool (onb L q))) w6.drew) := ⟨F6.k3, F6.ok.v.c3, Z6', F6.ok.e.cell hqn⟩
        have hz6 : w.heap.size < w6.heap.size := World.block_lt_of_cell? w6 _ c6
        have hZ6 : Z < w6.heap.size := World.block_lt_of_cell? w6 _ Z6'
        gi_wp2
        refine wpIn_region_L (fun W => W.cell? ⟨K3, 0, none⟩ = some (.pointer (some ⟨V, 0, none⟩)) ∧ W.cell? ⟨V, 3, none⟩ = some (.slice (some ⟨E, 0, none⟩) f.n f.n) ∧ W.cell? ⟨Z, 0, none⟩ = some (.int .i64 q) ∧ W.cell? ⟨E, q, none⟩ = some (.bool (onb L q))) 9 (by kernel_rfl) 9 rfl (by kernel_rfl) (by rintro ⟨_, _, h⟩; exact h) ?_
        refine wpL_take (v := ?_) (oi := { dst := some 38, op := Op.load 55 (Operand.tmp 4), type := 55, pos := "view.go:71", after := #[], guard := none }) (by decide) rfl (by kernel_rfl) (by kernel_rfl) (by kernel_rfl) (by kernel_rfl) (fun _ _ _ h => h) (Or.inl ⟨by rfl, ?_⟩) HS7.out ?_
        rotate_left
        · intro W hSW
          go_simp
          try with_reducible rfl
        simp only [Act.put, List.setIfInBounds_toArray, List.set_cons_zero, List.set_cons_succ]
        refine wpL_take (v := ?_) (oi := { dst := some 39, op := Op.nilCheck (Operand.tmp 38), type := 0, pos := "view.go:71", after := #[{ on := 0, ground := Ground.data }], guard := none }) (by decide) rfl (by kernel_rfl) (by kernel_rfl) (by kernel_rfl) (by kernel_rfl) (fun _ _ _ h => h) (Or.inl ⟨by rfl, ?_⟩) HS7.out ?_
        rotate_left
        · intro W hSW
          go_simp
          try with_reducible rfl
        simp only [Act.put, List.setIfInBounds_toArray, List.set_cons_zero, List.set_cons_succ]
        refine wpL_take (v := ?_) (oi := { dst := some 40, op := Op.fieldAddr 54 (Operand.tmp 39) 1, type := 0, pos := "view.go:71", after := #[{ on := 1, ground := Ground.data }], guard := none }) (by decide) rfl (by kernel_rfl) (by kernel_rfl) (by kernel_rfl) (by kernel_rfl) (fun _ _ _ h => h) (Or.inl ⟨by rfl, ?_⟩) HS7.out ?_
        rotate_left
        · intro W hSW
          go_simp
          try with_reducible rfl
        simp only [Act.put, List.setIfInBounds_toArray, List.set_cons_zero, List.set_cons_succ]
        refine wpL_take (v := ?_) (oi := { dst := some 41, op := Op.load 31 (Operand.tmp 40), type := 31, pos := "view.go:71", after := #[{ on := 2, ground := Ground.data }], guard := none }) (by decide) rfl (by kernel_rfl) (by kernel_rfl) (by kernel_rfl) (by kernel_rfl) (fun _ _ _ h => h) (Or.inl ⟨by rfl, ?_⟩) HS7.out ?_
        rotate_left
        · intro W hSW
          go_simp
          try with_reducible rfl
        simp only [Act.put, List.setIfInBounds_toArray, List.set_cons_zero, List.set_cons_succ]
        refine wpL_take (v := ?_) (oi := { dst := some 42, op := Op.fieldAddr 48 (Operand.tmp 10) 0, type := 0, pos := "view.go:71", after := #[], guard := none }) (by decide) rfl (by kernel_rfl) (by kernel_rfl) (by kernel_rfl) (by kernel_rfl) (fun _ _ _ h => h) (Or.inl ⟨by rfl, ?_⟩) HS7.out ?_
        rotate_left
        · intro W hSW
          go_simp
          try with_reducible rfl
        simp only [Act.put, List.setIfInBounds_toArray, List.set_cons_zero, List.set_cons_succ]
        refine wpL_take (v := ?_) (oi := { dst := some 43, op := Op.load 3 (Operand.tmp 42), type := 3, pos := "view.go:71", after := #[{ on := 4, ground := Ground.data }], guard := none }) (by decide) rfl (by kernel_rfl) (by kernel_rfl) (by kernel_rfl) (by kernel_rfl) (fun _ _ _ h => h) (Or.inl ⟨by rfl, ?_⟩) HS7.out ?_
        rotate_left
        · intro W hSW
          go_simp
          try with_reducible rfl
        simp only [Act.put, List.setIfInBounds_toArray, List.set_cons_zero, List.set_cons_succ]
        refine wpL_take (v := ?_) (oi := { dst := some 44, op := Op.indexAddr 31 (Operand.tmp 41) (Operand.tmp 43), type := 0, pos := "view.go:71", after := #[{ on := 3, ground := Ground.data }, { on := 5, ground := Ground.data }], guard := none }) (by decide) rfl (by kernel_rfl) (by kernel_rfl) (by kernel_rfl) (by kernel_rfl) (fun _ _ _ h => h) (Or.inl ⟨by rfl, ?_⟩) HS7.out ?_
        rotate_left
        · intro W hSW
          go_simp
          try with_reducible rfl
        simp only [Act.put, List.setIfInBounds_toArray, List.set_cons_zero, List.set_cons_succ]
        refine wpL_take (v := ?_) (oi := { dst := some 45, op := Op.load 4 (Operand.tmp 44), type := 4, pos := "view.go:71", after := #[{ on := 6, ground := Ground.data }], guard := none }) (by decide) rfl (by kernel_rfl) (by kernel_rfl) (by kernel_rfl) (by kernel_rfl) (fun _ _ _ h => h) (Or.inl ⟨by rfl, ?_⟩) HS7.out ?_
        rotate_left
        · intro W hSW
          go_simp
          try with_reducible rfl
        simp only [Act.put, List.setIfInBounds_toArray, List.set_cons_zero, List.set_cons_succ]
        refine wpL_take (v := ?_) (oi := { dst := some 46, op := Op.unOp UnOp.not 4 (Operand.tmp 45), type := 4, pos := "view.go:71", after := #[{ on := 7, ground := Ground.data }], guard := none }) (by decide) rfl (by kernel_rfl) (by kernel_rfl) (by kernel_rfl) (by kernel_rfl) (fun _ _ _ h => h) (Or.inl ⟨by rfl, ?_⟩) HS7.out ?_
        rotate_left
        · intro W hSW
          go_simp
          try with_reducible rfl
        simp only [Act.put, List.setIfInBounds_toArray, List.set_cons_zero, List.set_cons_succ]
        refine wpAnyL_done (by kernel_rfl) ?_ _
        have d6 : But (fun _ => False) w6 w6.drew := (But.refl _ w6).drew
        have F7 := F6.next d6
        have B7 := B6.drew
        have c7 : w6.drew.cell? ⟨w.heap.size, 0, none⟩ = some (.bool g1) := c6
        have f7 : w6.drew.frozen? ⟨w.heap.size, 0, none⟩ = false := f6
        have Z7 : w6.drew.cell? ⟨Z, 0, none⟩ = some (.int .i64 q) := Z6'
        have hz7 : w.heap.size < w6.drew.heap.size := hz6
        have hZ7 : Z < w6.drew.heap.size := hZ6
        clear HS7 d6 F6 B6 c6 f6 Z6' hz6 hZ6
        generalize w6.drew = w7 at *
        have HFB : Hid (folB (WR R) (onb L) m B q = orW (if onb L q then B else List.replicate m 0) (WR R q)) := rfl
        cases ho : onb L q with
        | true =>
          rw [ho, if_pos rfl] at HFB
          gi_wp2
          have F8 := F7
          have B8 := B7
          have c8 := c7
          have f8 := f7
          have Z8 := Z7
          have hz8 := hz7
          clear F7 B7 c7 f7 Z7 hz7 hZ7
          have hZ8 : Z < w7.heap.size := World.block_lt_of_cell? w7 _ Z8
          have hqR : q < R.length := by rw [hR.len]; exact hqn
          have hRq := F8.ok.s.each q hqR
          have xq := F8.ok.s.cell hqR
          have hne : bs.getD q 0 ≠ c := fun h => by have := F8.xb _ (F8.ok.s.mem hqR); have := F8.xc; omega
          have HJ9 : Hid (Calls Tryd.prog 57 #[.slice (some ⟨c, 0, none⟩) m m, .slice (some ⟨bs.getD q 0, 0, none⟩) m m] w7.drew fun e w2 => (∃ nb, e = .returned (.bool nb)) ∧ Hid (FAt f a m X w0 V E G bs L R K1 K2 K3 H c bo O1 (folB (WR R) (onb L) m B q) w2 ∧ But (fun k => k = c) w7 w2)) := by
            rw [HFB.out]
            refine (join_any _ (WR R q) c (bs.getD q 0) m w7.drew ⟨F8.b.1, F8.b.2⟩ ⟨hRq.1, hRq.2⟩ (by omega)).mono ?_
            rintro e w2 ⟨rfl, h1, h2⟩
            have h3 : But (fun k => k = c) w7 w2 := ((But.refl _ w7).drew).trans h2
            exact ⟨⟨_, rfl⟩, F8.turnB h3 h1, h3⟩
          obtain ⟨bq, hbq⟩ : ∃ bq, bs.getD q 0 = bq := ⟨_, rfl⟩
          rw [hbq] at xq HJ9 hne
          have HS9 : Hid ((fun W => W.cell? ⟨K1, 0, none⟩ = some (.slice (some ⟨c, 0, none⟩) m m) ∧ W.cell? ⟨K3, 0, none⟩ = some (.pointer (some ⟨V, 0, none⟩)) ∧ W.cell? ⟨V, 4, none⟩ = some (.slice (some ⟨G, 0, none⟩) f.n f.n) ∧ W.cell? ⟨Z, 0, none⟩ = some (.int .i64 q) ∧ W.cell? ⟨G, q, none⟩ = some (.slice (some ⟨bq, 0, none⟩) m m)) w7.drew) := ⟨F8.k1, F8.k3, F8.ok.v.c4, Z8, xq⟩
          have HS9' : Hid (∀ O B w2, FAt f a m X w0 V E G bs L R K1 K2 K3 H c bo O B w2 → But (fun k => k = c) w7 w2 → (fun W => W.cell? ⟨K1, 0, none⟩ = some (.slice (some ⟨c, 0, none⟩) m m) ∧ W.cell? ⟨K3, 0, none⟩ = some (.pointer (some ⟨V, 0, none⟩)) ∧ W.cell? ⟨V, 4, none⟩ = some (.slice (some ⟨G, 0, none⟩) f.n f.n) ∧ W.cell? ⟨Z, 0, none⟩ = some (.int .i64 q) ∧ W.cell? ⟨G, q, none⟩ = some (.slice (some ⟨bq, 0, none⟩) m m)) w2) := fun O B w2 h1 h2 => by
            refine ⟨h1.k1, h1.k3, h1.ok.v.c4, (h2.cell (p := ⟨Z, 0, none⟩) hZ8 (by show Z ≠ c; omega)).trans Z8, ?_⟩
            have := h1.ok.s.cell hqR
            rw [hbq] at this
            exact this
          clear hRq xq hbq
          refine wpIn_region_L (fun W => W.cell? ⟨K1, 0, none⟩ = some (.slice (some ⟨c, 0, none⟩) m m) ∧ W.cell? ⟨K3, 0, none⟩ = some (.pointer (some ⟨V, 0, none⟩)) ∧ W.cell? ⟨V, 4, none⟩ = some (.slice (some ⟨G, 0, none⟩) f.n f.n) ∧ W.cell? ⟨Z, 0, none⟩ = some (.int .i64 q) ∧ W.cell? ⟨G, q, none⟩ = some (.slice (some ⟨bq, 0, none⟩) m m)) 10 (by kernel_rfl) 10 rfl (by kernel_rfl) (by rintro ⟨_, _, h⟩; exact h) ?_
          refine wpL_take (v := ?_) (oi := { dst := some 48, op := Op.load 61 (Operand.tmp 2), type := 61, pos := "view.go:74", after := #[], guard := none }) (by decide) rfl (by kernel_rfl) (by kernel_rfl) (by kernel_rfl) (by kernel_rfl) (fun _ _ _ h => h) (Or.inl ⟨by rfl, ?_⟩) HS9.out ?_
          rotate_left
          · intro W hSW
            go_simp
            try with_reducible rfl
          simp only [Act.put, List.setIfInBounds_toArray, List.set_cons_zero, List.set_cons_succ]
          refine wpL_take (v := ?_) (oi := { dst := some 49, op := Op.load 55 (Operand.tmp 4), type := 55, pos := "view.go:74", after := #[], guard := none }) (by decide) rfl (by kernel_rfl) (by kernel_rfl) (by kernel_rfl) (by kernel_rfl) (fun _ _ _ h => h) (Or.inl ⟨by rfl, ?_⟩) HS9.out ?_
          rotate_left
          · intro W hSW
            go_simp
            try with_reducible rfl
          simp only [Act.put, List.setIfInBounds_toArray, List.set_cons_zero, List.set_cons_succ]
          refine wpL_take (v := ?_) (oi := { dst := some 50, op := Op.nilCheck (Operand.tmp 49), type := 0, pos := "view.go:74", after := #[{ on := 1, ground := Ground.data }], guard := none }) (by decide) rfl (by kernel_rfl) (by kernel_rfl) (by kernel_rfl) (by kernel_rfl) (fun _ _ _ h => h) (Or.inl ⟨by rfl, ?_⟩) HS9.out ?_
          rotate_left
          · intro W hSW
            go_simp
            try with_reducible rfl
          simp only [Act.put, List.setIfInBounds_toArray, List.set_cons_zero, List.set_cons_succ]
          refine wpL_take (v := ?_) (oi := { dst := some 51, op := Op.fieldAddr 54 (Operand.tmp 50) 2, type := 0, pos := "view.go:74", after := #[{ on := 2, ground := Ground.data }], guard := none }) (by decide) rfl (by kernel_rfl) (by kernel_rfl) (by kernel_rfl) (by kernel_rfl) (fun _ _ _ h => h) (Or.inl ⟨by rfl, ?_⟩) HS9.out ?_
          rotate_left
          · intro W hSW
            go_simp
            try with_reducible rfl
          simp only [Act.put, List.setIfInBounds_toArray, List.set_cons_zero, List.set_cons_succ]
          refine wpL_take (v := ?_) (oi := { dst := some 52, op := Op.load 52 (Operand.tmp 51), type := 52, pos := "view.go:74", after := #[{ on := 3, ground := Ground.data }], guard := none }) (by decide) rfl (by kernel_rfl) (by kernel_rfl) (by kernel_rfl) (by kernel_rfl) (fun _ _ _ h => h) (Or.inl ⟨by rfl, ?_⟩) HS9.out ?_
          rotate_left
          · intro W hSW
            go_simp
            try with_reducible rfl
          simp only [Act.put, List.setIfInBounds_toArray, List.set_cons_zero, List.set_cons_succ]
          refine wpL_take (v := ?_) (oi := { dst := some 53, op := Op.fieldAddr 48 (Operand.tmp 10) 0, type := 0, pos := "view.go:74", after := #[], guard := none }) (by decide) rfl (by kernel_rfl) (by kernel_rfl) (by kernel_rfl) (by kernel_rfl) (fun _ _ _ h => h) (Or.inl ⟨by rfl, ?_⟩) HS9.out ?_
          rotate_left
          · intro W hSW
            go_simp
            try with_reducible rfl
          simp only [Act.put, List.setIfInBounds_toArray, List.set_cons_zero, List.set_cons_succ]
          refine wpL_take (v := ?_) (oi := { dst := some 54, op := Op.load 3 (Operand.tmp 53), type := 3, pos := "view.go:74", after := #[{ on := 5, ground := Ground.data }], guard := none }) (by decide) rfl (by kernel_rfl) (by kernel_rfl) (by kernel_rfl) (by kernel_rfl) (fun _ _ _ h => h) (Or.inl ⟨by rfl, ?_⟩) HS9.out ?_
          rotate_left
          · intro W hSW
            go_simp
            try with_reducible rfl
          simp only [Act.put, List.setIfInBounds_toArray, List.set_cons_zero, List.set_cons_succ]
          refine wpL_take (v := ?_) (oi := { dst := some 55, op := Op.indexAddr 52 (Operand.tmp 52) (Operand.tmp 54), type := 0, pos := "view.go:74", after := #[{ on := 4, ground := Ground.data }, { on := 6, ground := Ground.data }], guard := none }) (by decide) rfl (by kernel_rfl) (by kernel_rfl) (by kernel_rfl) (by kernel_rfl) (fun _ _ _ h => h) (Or.inl ⟨by rfl, ?_⟩) HS9.out ?_
          rotate_left
          · intro W hSW
            go_simp
            try with_reducible rfl
          simp only [Act.put, List.setIfInBounds_toArray, List.set_cons_zero, List.set_cons_succ]
          refine wpL_take (v := ?_) (oi := { dst := some 56, op := Op.load 61 (Operand.tmp 55), type := 61, pos := "view.go:74", after := #[{ on := 7, ground := Ground.data }], guard := none }) (by decide) rfl (by kernel_rfl) (by kernel_rfl) (by kernel_rfl) (by kernel_rfl) (fun _ _ _ h => h) (Or.inl ⟨by rfl, ?_⟩) HS9.out ?_
          rotate_left
          · intro W hSW
            go_simp
            try with_reducible rfl
          simp only [Act.put, List.setIfInBounds_toArray, List.set_cons_zero, List.set_cons_succ]
          refine wpL_one (o := { dst := some 57, op := Op.call { callee := Callee.value (Operand.func 57), args := #[Operand.tmp 48, Operand.tmp 56], argTypes := #[61, 61] }, type := 4, pos := "view.go:74", after := #[{ on := 0, ground := Ground.data }, { on := 8, ground := Ground.data }], guard := none }) (by decide) (by kernel_rfl) rfl (fun K hK => ?_)
          go_simp
          refine HJ9.out.mono ?_
          rintro e w9 ⟨⟨nb9, rfl⟩, h9⟩
          refine hK.out _ _ (fun _ => HS9'.out _ _ _ h9.out.1 h9.out.2) ?_
          clear hK
          refine wpAnyL_done (by kernel_rfl) ?_ _
          have hend := HFIN.out w9 h9.out.1 ((h9.out.2.cell (p := ⟨w.heap.size, 0, none⟩) hz8 (by show w.heap.size ≠ c; omega)).trans c8) ((h9.out.2.frozen (p := ⟨w.heap.size, 0, none⟩) hz8 (by show w.heap.size ≠ c; omega)).trans f8) (B8.trans (h9.out.2.mono (fun k _ hk => Or.inl (Or.inr hk))))
          clear HS9 HS9' HJ9 F8 HFIN
          gi_wp2
          exact hend
        | false =>
          rw [ho, if_neg (by simp)] at HFB
          have hclear := run_clearSet (W := w7) F7.b hm0 0
          have hset := setRow_set (W := w7) F7.b (words_zero m)
          have x1 := F7.k1
          obtain ⟨w8, hw8⟩ : ∃ w8, w7.setRow c ((List.replicate m 0).map encU).toArray = w8 := ⟨_, rfl⟩
          rw [hw8] at hclear hset
          clear hw8
          gi_wp2
          have F8 := F7.turnB hset.2 hset.1
          have B8 := B7.trans (hset.2.mono (fun k _ hk => Or.inl (Or.inr hk)))
          have c8 := (hset.2.cell (p := ⟨w.heap.size, 0, none⟩) hz7 (by show w.heap.size ≠ c; omega)).trans c7
          have f8 := (hset.2.frozen (p := ⟨w.heap.size, 0, none⟩) hz7 (by show w.heap.size ≠ c; omega)).trans f7
          have Z8 := (hset.2.cell (p := ⟨Z, 0, none⟩) hZ7 (by show Z ≠ c; omega)).trans Z7
          have hz8 : w.heap.size < w8.heap.size := World.block_lt_of_cell? w8 _ c8
          clear F7 B7 c7 f7 Z7 hz7 hZ7 hset hclear x1
          generalize List.replicate m 0 = B1 at *
          generalize w8 = w7 at *
          have hZ8 : Z < w7.heap.size := World.block_lt_of_cell? w7 _ Z8
          have hqR : q < R.length := by rw [hR.len]; exact hqn
          have hRq := F8.ok.s.each q hqR
          have xq := F8.ok.s.cell hqR
          have hne : bs.getD q 0 ≠ c := fun h => by have := F8.xb _ (F8.ok.s.mem hqR); have := F8.xc; omega
          have HJ9 : Hid (Calls Tryd.prog 57 #[.slice (some ⟨c, 0, none⟩) m m, .slice (some ⟨bs.getD q 0, 0, none⟩) m m] w7.drew fun e w2 => (∃ nb, e = .returned (.bool nb)) ∧ Hid (FAt f a m X w0 V E G bs L R K1 K2 K3 H c bo O1 (folB (WR R) (onb L) m B q) w2 ∧ But (fun k => k = c) w7 w2)) := by
            rw [HFB.out]
            refine (join_any _ (WR R q) c (bs.getD q 0) m w7.drew ⟨F8.b.1, F8.b.2⟩ ⟨hRq.1, hRq.2⟩ (by omega)).mono ?_
            rintro e w2 ⟨rfl, h1, h2⟩
            have h3 : But (fun k => k = c) w7 w2 := ((But.refl _ w7).drew).trans h2
            exact ⟨⟨_, rfl⟩, F8.turnB h3 h1, h3⟩
          obtain ⟨bq, hbq⟩ : ∃ bq, bs.getD q 0 = bq := ⟨_, rfl⟩
          rw [hbq] at xq HJ9 hne
          have HS9 : Hid ((fun W => W.cell? ⟨K1, 0, none⟩ = some (.slice (some ⟨c, 0, none⟩) m m) ∧ W.cell? ⟨K3, 0, none⟩ = some (.pointer (some ⟨V, 0, none⟩)) ∧ W.cell? ⟨V, 4, none⟩ = some (.slice (some ⟨G, 0, none⟩) f.n f.n) ∧ W.cell? ⟨Z, 0, none⟩ = some (.int .i64 q) ∧ W.cell? ⟨G, q, none⟩ = some (.slice (some ⟨bq, 0, none⟩) m m)) w7.drew) := ⟨F8.k1, F8.k3, F8.ok.v.c4, Z8, xq⟩
          have HS9' : Hid (∀ O B w2, FAt f a m X w0 V E G bs L R K1 K2 K3 H c bo O B w2 → But (fun k => k = c) w7 w2 → (fun W => W.cell? ⟨K1, 0, none⟩ = some (.slice (some ⟨c, 0, none⟩) m m) ∧ W.cell? ⟨K3, 0, none⟩ = some (.pointer (some ⟨V, 0, none⟩)) ∧ W.cell? ⟨V, 4, none⟩ = some (.slice (some ⟨G, 0, none⟩) f.n f.n) ∧ W.cell? ⟨Z, 0, none⟩ = some (.int .i64 q) ∧ W.cell? ⟨G, q, none⟩ = some (.slice (some ⟨bq, 0, none⟩) m m)) w2) := fun O B w2 h1 h2 => by
            refine ⟨h1.k1, h1.k3, h1.ok.v.c4, (h2.cell (p := ⟨Z, 0, none⟩) hZ8 (by show Z ≠ c; omega)).trans Z8, ?_⟩
            have := h1.ok.s.cell hqR
            rw [hbq] at this
            exact this
          clear hRq xq hbq
          refine wpIn_region_L (fun W => W.cell? ⟨K1, 0, none⟩ = some (.slice (some ⟨c, 0, none⟩) m m) ∧ W.cell? ⟨K3, 0, none⟩ = some (.pointer (some ⟨V, 0, none⟩)) ∧ W.cell? ⟨V, 4, none⟩ = some (.slice (some ⟨G, 0, none⟩) f.n f.n) ∧ W.cell? ⟨Z, 0, none⟩ = some (.int .i64 q) ∧ W.cell? ⟨G, q, none⟩ = some (.slice (some ⟨bq, 0, none⟩) m m)) 10 (by kernel_rfl) 10 rfl (by kernel_rfl) (by rintro ⟨_, _, h⟩; exact h) ?_
          refine wpL_take (v := ?_) (oi := { dst := some 48, op := Op.load 61 (Operand.tmp 2), type := 61, pos := "view.go:74", after := #[], guard := none }) (by decide) rfl (by kernel_rfl) (by kernel_rfl) (by kernel_rfl) (by kernel_rfl) (fun _ _ _ h => h) (Or.inl ⟨by rfl, ?_⟩) HS9.out ?_
          rotate_left
          · intro W hSW
            go_simp
            try with_reducible rfl
          simp only [Act.put, List.setIfInBounds_toArray, List.set_cons_zero, List.set_cons_succ]
          refine wpL_take (v := ?_) (oi := { dst := some 49, op := Op.load 55 (Operand.tmp 4), type := 55, pos := "view.go:74", after := #[], guard := none }) (by decide) rfl (by kernel_rfl) (by kernel_rfl) (by kernel_rfl) (by kernel_rfl) (fun _ _ _ h => h) (Or.inl ⟨by rfl, ?_⟩) HS9.out ?_
          rotate_left
          · intro W hSW
            go_simp
            try with_reducible rfl
          simp only [Act.put, List.setIfInBounds_toArray, List.set_cons_zero, List.set_cons_succ]
          refine wpL_take (v := ?_) (oi := { dst := some 50, op := Op.nilCheck (Operand.tmp 49), type := 0, pos := "view.go:74", after := #[{ on := 1, ground := Ground.data }], guard := none }) (by decide) rfl (by kernel_rfl) (by kernel_rfl) (by kernel_rfl) (by kernel_rfl) (fun _ _ _ h => h) (Or.inl ⟨by rfl, ?_⟩) HS9.out ?_
          rotate_left
          · intro W hSW
            go_simp
            try with_reducible rfl
          simp only [Act.put, List.setIfInBounds_toArray, List.set_cons_zero, List.set_cons_succ]
          refine wpL_take (v := ?_) (oi := { dst := some 51, op := Op.fieldAddr 54 (Operand.tmp 50) 2, type := 0, pos := "view.go:74", after := #[{ on := 2, ground := Ground.data }], guard := none }) (by decide) rfl (by kernel_rfl) (by kernel_rfl) (by kernel_rfl) (by kernel_rfl) (fun _ _ _ h => h) (Or.inl ⟨by rfl, ?_⟩) HS9.out ?_
          rotate_left
          · intro W hSW
            go_simp
            try with_reducible rfl
          simp only [Act.put, List.setIfInBounds_toArray, List.set_cons_zero, List.set_cons_succ]
          refine wpL_take (v := ?_) (oi := { dst := some 52, op := Op.load 52 (Operand.tmp 51), type := 52, pos := "view.go:74", after := #[{ on := 3, ground := Ground.data }], guard := none }) (by decide) rfl (by kernel_rfl) (by kernel_rfl) (by kernel_rfl) (by kernel_rfl) (fun _ _ _ h => h) (Or.inl ⟨by rfl, ?_⟩) HS9.out ?_
          rotate_left
          · intro W hSW
            go_simp
            try with_reducible rfl
          simp only [Act.put, List.setIfInBounds_toArray, List.set_cons_zero, List.set_cons_succ]
          refine wpL_take (v := ?_) (oi := { dst := some 53, op := Op.fieldAddr 48 (Operand.tmp 10) 0, type := 0, pos := "view.go:74", after := #[], guard := none }) (by decide) rfl (by kernel_rfl) (by kernel_rfl) (by kernel_rfl) (by kernel_rfl) (fun _ _ _ h => h) (Or.inl ⟨by rfl, ?_⟩) HS9.out ?_
          rotate_left
          · intro W hSW
            go_simp
            try with_reducible rfl
          simp only [Act.put, List.setIfInBounds_toArray, List.set_cons_zero, List.set_cons_succ]
          refine wpL_take (v := ?_) (oi := { dst := some 54, op := Op.load 3 (Operand.tmp 53), type := 3, pos := "view.go:74", after := #[{ on := 5, ground := Ground.data }], guard := none }) (by decide) rfl (by kernel_rfl) (by kernel_rfl) (by kernel_rfl) (by kernel_rfl) (fun _ _ _ h => h) (Or.inl ⟨by rfl, ?_⟩) HS9.out ?_
          rotate_left
          · intro W hSW
            go_simp
            try with_reducible rfl
          simp only [Act.put, List.setIfInBounds_toArray, List.set_cons_zero, List.set_cons_succ]
          refine wpL_take (v := ?_) (oi := { dst := some 55, op := Op.indexAddr 52 (Operand.tmp 52) (Operand.tmp 54), type := 0, pos := "view.go:74", after := #[{ on := 4, ground := Ground.data }, { on := 6, ground := Ground.data }], guard := none }) (by decide) rfl (by kernel_rfl) (by kernel_rfl) (by kernel_rfl) (by kernel_rfl) (fun _ _ _ h => h) (Or.inl ⟨by rfl, ?_⟩) HS9.out ?_
          rotate_left
          · intro W hSW
            go_simp
            try with_reducible rfl
          simp only [Act.put, List.setIfInBounds_toArray, List.set_cons_zero, List.set_cons_succ]
          refine wpL_take (v := ?_) (oi := { dst := some 56, op := Op.load 61 (Operand.tmp 55), type := 61, pos := "view.go:74", after := #[{ on := 7, ground := Ground.data }], guard := none }) (by decide) rfl (by kernel_rfl) (by kernel_rfl) (by kernel_rfl) (by kernel_rfl) (fun _ _ _ h => h) (Or.inl ⟨by rfl, ?_⟩) HS9.out ?_
          rotate_left
          · intro W hSW
            go_simp
            try with_reducible rfl
          simp only [Act.put, List.setIfInBounds_toArray, List.set_cons_zero, List.set_cons_succ]
          refine wpL_one (o := { dst := some 57, op := Op.call { callee := Callee.value (Operand.func 57), args := #[Operand.tmp 48, Operand.tmp 56], argTypes := #[61, 61] }, type := 4, pos := "view.go:74", after := #[{ on := 0, ground := Ground.data }, { on := 8, ground := Ground.data }], guard := none }) (by decide) (by kernel_rfl) rfl (fun K hK => ?_)
          go_simp
          refine HJ9.out.mono ?_
          rintro e w9 ⟨⟨nb9, rfl⟩, h9⟩
          refine hK.out _ _ (fun _ => HS9'.out _ _ _ h9.out.1 h9.out.2) ?_
          clear hK
          refine wpAnyL_done (by kernel_rfl) ?_ _
          have hend := HFIN.out w9 h9.out.1 ((h9.out.2.cell (p := ⟨w.heap.size, 0, none⟩) hz8 (by show w.heap.size ≠ c; omega)).trans c8) ((h9.out.2.frozen (p := ⟨w.heap.size, 0, none⟩) hz8 (by show w.heap.size ≠ c; omega)).trans f8) (B8.trans (h9.out.2.mono (fun k _ hk => Or.inl (Or.inr hk))))
          clear HS9 HS9' HJ9 F8 HFIN
          gi_wp2
          exact hend
      | false =>
        rw [Bool.false_or] at hFG
        gi_wp2
        refine wpIn_region_L (fun W => W.cell? ⟨K2, 0, none⟩ = some (.slice (some ⟨H, 0, none⟩) f.n f.n) ∧ W.cell? ⟨Z, 0, none⟩ = some (.int .i64 q) ∧ W.cell? ⟨H, q, none⟩ = some (.slice (some ⟨bq, 0, none⟩) m m) ∧ W.cell? ⟨K1, 0, none⟩ = some (.slice (some ⟨c, 0, none⟩) m m) ∧ W.cell? ⟨w.heap.size, 0, none⟩ = some (.bool g) ∧ W.frozen? ⟨w.heap.size, 0, none⟩ = false) 10 (by kernel_rfl) 11 rfl (by kernel_rfl) (by rintro ⟨_, _, h⟩; exact h) ?_
        refine wpL_take (v := ?_) (oi := { dst := some 28, op := Op.load 52 (Operand.tmp 3), type := 52, pos := "view.go:69", after := #[], guard := none }) (by decide) rfl (by kernel_rfl) (by kernel_rfl) (by kernel_rfl) (by kernel_rfl) (fun _ _ _ h => h) (Or.inl ⟨by rfl, ?_⟩) HS6.out ?_
        rotate_left
        · intro W hSW
          go_simp
          try with_reducible rfl
        simp only [Act.put, List.setIfInBounds_toArray, List.set_cons_zero, List.set_cons_succ]
        refine wpL_take (v := ?_) (oi := { dst := some 29, op := Op.fieldAddr 48 (Operand.tmp 10) 0, type := 0, pos := "view.go:69", after := #[], guard := none }) (by decide) rfl (by kernel_rfl) (by kernel_rfl) (by kernel_rfl) (by kernel_rfl) (fun _ _ _ h => h) (Or.inl ⟨by rfl, ?_⟩) HS6.out ?_
        rotate_left
        · intro W hSW
          go_simp
          try with_reducible rfl
        simp only [Act.put, List.setIfInBounds_toArray, List.set_cons_zero, List.set_cons_succ]
        refine wpL_take (v := ?_) (oi := { dst := some 30, op := Op.load 3 (Operand.tmp 29), type := 3, pos := "view.go:69", after := #[{ on := 1, ground := Ground.data }], guard := none }) (by decide) rfl (by kernel_rfl) (by kernel_rfl) (by kernel_rfl) (by kernel_rfl) (fun _ _ _ h => h) (Or.inl ⟨by rfl, ?_⟩) HS6.out ?_
        rotate_left
        · intro W hSW
          go_simp
          try with_reducible rfl
        simp only [Act.put, List.setIfInBounds_toArray, List.set_cons_zero, List.set_cons_succ]
        refine wpL_take (v := ?_) (oi := { dst := some 31, op := Op.indexAddr 52 (Operand.tmp 28) (Operand.tmp 30), type := 0, pos := "view.go:69", after := #[{ on := 0, ground := Ground.data }, { on := 2, ground := Ground.data }], guard := none }) (by decide) rfl (by kernel_rfl) (by kernel_rfl) (by kernel_rfl) (by kernel_rfl) (fun _ _ _ h => h) (Or.inl ⟨by rfl, ?_⟩) HS6.out ?_
        rotate_left
        · intro W hSW
          go_simp
          try with_reducible rfl
        simp only [Act.put, List.setIfInBounds_toArray, List.set_cons_zero, List.set_cons_succ]
        refine wpL_take (v := ?_) (oi := { dst := some 32, op := Op.load 61 (Operand.tmp 31), type := 61, pos := "view.go:69", after := #[{ on := 3, ground := Ground.data }], guard := none }) (by decide) rfl (by kernel_rfl) (by kernel_rfl) (by kernel_rfl) (by kernel_rfl) (fun _ _ _ h => h) (Or.inl ⟨by rfl, ?_⟩) HS6.out ?_
        rotate_left
        · intro W hSW
          go_simp
          try with_reducible rfl
        simp only [Act.put, List.setIfInBounds_toArray, List.set_cons_zero, List.set_cons_succ]
        refine wpL_take (v := ?_) (oi := { dst := some 33, op := Op.load 61 (Operand.tmp 2), type := 61, pos := "view.go:69", after := #[], guard := none }) (by decide) rfl (by kernel_rfl) (by kernel_rfl) (by kernel_rfl) (by kernel_rfl) (fun _ _ _ h => h) (Or.inl ⟨by rfl, ?_⟩) HS6.out ?_
        rotate_left
        · intro W hSW
          go_simp
          try with_reducible rfl
        simp only [Act.put, List.setIfInBounds_toArray, List.set_cons_zero, List.set_cons_succ]
        refine wpL_one (o := { dst := some 34, op := Op.call { callee := Callee.value (Operand.func 57), args := #[Operand.tmp 32, Operand.tmp 33], argTypes := #[61, 61] }, type := 4, pos := "view.go:69", after := #[{ on := 4, ground := Ground.data }, { on := 5, ground := Ground.data }], guard := none }) (by decide) (by kernel_rfl) rfl (fun K hK => ?_)
        go_simp
        refine HJN.out.mono ?_
        rintro e w2 ⟨rfl, h6⟩
        have HS7 := HS6'.out w2 h6.out.1 h6.out.2
        refine hK.out _ _ (fun _ => HS7) ?_
        clear hK
        refine wpL_take (v := ?_) (oi := { dst := some 35, op := Op.move (Operand.tmp 34), type := 4, pos := "view.go:69", after := #[{ on := 6, ground := Ground.data }, { on := 6, ground := Ground.chain }], guard := none }) (by decide) rfl (by kernel_rfl) (by kernel_rfl) (by kernel_rfl) (by kernel_rfl) (fun _ _ _ h => h) (Or.inl ⟨by rfl, ?_⟩) HS7 ?_
        rotate_left
        · intro W hSW
          go_simp
          try with_reducible rfl
        simp only [Act.put, List.setIfInBounds_toArray, List.set_cons_zero, List.set_cons_succ]
        refine wpL_take (v := ?_) (oi := { dst := some 36, op := Op.load 4 (Operand.tmp 8), type := 4, pos := "view.go:69", after := #[{ on := 7, ground := Ground.guard }], guard := some (7, false) }) (by decide) rfl (by kernel_rfl) (by kernel_rfl) (by kernel_rfl) (by kernel_rfl) (fun _ _ _ h => h) (Or.inl ⟨by rfl, ?_⟩) HS7 ?_
        rotate_left
        · intro W hSW
          go_simp
          try with_reducible rfl
        simp only [Act.put, List.setIfInBounds_toArray, List.set_cons_zero, List.set_cons_succ]
        refine wpL_take (v := ?_) (oi := { dst := some 37, op := Op.pick (Operand.tmp 35) (Operand.const (Value.bool true)) (Operand.tmp 36), type := 4, pos := "view.go:69", after := #[{ on := 7, ground := Ground.data }, { on := 8, ground := Ground.data }], guard := none }) (by decide) rfl (by kernel_rfl) (by kernel_rfl) (by kernel_rfl) (by kernel_rfl) (fun _ _ _ h => h) (Or.inl ⟨by rfl, ?_⟩) HS7 ?_
        rotate_left
        · intro W hSW
          go_simp
          try with_reducible rfl
        simp only [Act.put, List.setIfInBounds_toArray, List.set_cons_zero, List.set_cons_succ]
        refine wpL_one (o := { dst := none, op := Op.store 4 (Operand.tmp 8) (Operand.tmp 37), type := 0, pos := "view.go:69", after := #[{ on := 9, ground := Ground.data }, { on := 7, ground := Ground.chain }, { on := 0, ground := Ground.phase }, { on := 1, ground := Ground.phase }, { on := 2, ground := Ground.phase }, { on := 3, ground := Ground.phase }, { on := 4, ground := Ground.phase }, { on := 5, ground := Ground.phase }, { on := 6, ground := Ground.phase }, { on := 7, ground := Ground.phase }, { on := 8, ground := Ground.phase }, { on := 9, ground := Ground.phase }], guard := none }) (by decide) (by kernel_rfl) rfl (fun K hK => ?_)
        obtain ⟨y1, y2, y3, y4, y5, y6⟩ := id HS7
        go_simp
        refine hK.out _ _ (fun h => absurd h (by decide)) ?_
        clear hK
        refine wpAnyL_done (by kernel_rfl) ?_ _
        obtain ⟨F6, B6, Z6⟩ := HE6.out w2 (.bool g) h6.out.1 h6.out.2
        have c6 : (w2.setCell ⟨w.heap.size, 0, none⟩ (.bool g)).cell? ⟨w.heap.size, 0, none⟩ = some (.bool g1) := by rw [hFG]; exact World.cell?_setCell_same _ _ _ y5
        have f6 : (w2.setCell ⟨w.heap.size, 0, none⟩ (.bool g)).frozen? ⟨w.heap.size, 0, none⟩ = false := by rw [World.frozen?_setCell]; exact y6
        have Z6' : (w2.setCell ⟨w.heap.size, 0, none⟩ (.bool g)).cell? ⟨Z, 0, none⟩ = some (.int .i64 q) := (World.cell?_of_block (w := w2) (Below.heap_setCell w2 ⟨w.heap.size, 0, none⟩ _ Z (by show Z ≠ w.heap.size; omega))).trans Z6
        generalize w2.setCell ⟨w.heap.size, 0, none⟩ (.bool g) = w6 at *
        clear y1 y2 y3 y4 y5 y6 HS7 h6 HJN HS6 HS6' HE6 c5 f5 Z5 B5 hFG Z6 hbqm hqz hqne
        have HS7 : Hid ((fun W => W.cell? ⟨K3, 0, none⟩ = some (.pointer (some ⟨V, 0, none⟩)) ∧ W.cell? ⟨V, 3, none⟩ = some (.slice (some ⟨E, 0, none⟩) f.n f.n) ∧ W.cell? ⟨Z, 0, none⟩ = some (.int .i64 q) ∧ W.cell? ⟨E, q, none⟩ = some (.bool (onb L q))) w6.drew) := ⟨F6.k3, F6.ok.v.c3, Z6', F6.ok.e.cell hqn⟩
        have hz6 : w.heap.size < w6.heap.size := World.block_lt_of_cell? w6 _ c6
        have hZ6 : Z < w6.heap.size := World.block_lt_of_cell? w6 _ Z6'
        gi_wp2
        refine wpIn_region_L (fun W => W.cell? ⟨K3, 0, none⟩ = some (.pointer (some ⟨V, 0, none⟩)) ∧ W.cell? ⟨V, 3, none⟩ = some (.slice (some ⟨E, 0, none⟩) f.n f.n) ∧ W.cell? ⟨Z, 0, none⟩ = some (.int .i64 q) ∧ W.cell? ⟨E, q, none⟩ = some (.bool (onb L q))) 9 (by kernel_rfl) 9 rfl (by kernel_rfl) (by rintro ⟨_, _, h⟩; exact h) ?_
        refine wpL_take (v := ?_) (oi := { dst := some 38, op := Op.load 55 (Operand.tmp 4), type := 55, pos := "view.go:71", after := #[], guard := none }) (by decide) rfl (by kernel_rfl) (by kernel_rfl) (by kernel_rfl) (by kernel_rfl) (fun _ _ _ h => h) (Or.inl ⟨by rfl, ?_⟩) HS7.out ?_
        rotate_left
        · intro W hSW
          go_simp
          try with_reducible rfl
        simp only [Act.put, List.setIfInBounds_toArray, List.set_cons_zero, List.set_cons_succ]
        refine wpL_take (v := ?_) (oi := { dst := some 39, op := Op.nilCheck (Operand.tmp 38), type := 0, pos := "view.go:71", after := #[{ on := 0, ground := Ground.data }], guard := none }) (by decide) rfl (by kernel_rfl) (by kernel_rfl) (by kernel_rfl) (by kernel_rfl) (fun _ _ _ h => h) (Or.inl ⟨by rfl, ?_⟩) HS7.out ?_
        rotate_left
        · intro W hSW
          go_simp
          try with_reducible rfl
        simp only [Act.put, List.setIfInBounds_toArray, List.set_cons_zero, List.set_cons_succ]
        refine wpL_take (v := ?_) (oi := { dst := some 40, op := Op.fieldAddr 54 (Operand.tmp 39) 1, type := 0, pos := "view.go:71", after := #[{ on := 1, ground := Ground.data }], guard := none }) (by decide) rfl (by kernel_rfl) (by kernel_rfl) (by kernel_rfl) (by kernel_rfl) (fun _ _ _ h => h) (Or.inl ⟨by rfl, ?_⟩) HS7.out ?_
        rotate_left
        · intro W hSW
          go_simp
          try with_reducible rfl
        simp only [Act.put, List.setIfInBounds_toArray, List.set_cons_zero, List.set_cons_succ]
        refine wpL_take (v := ?_) (oi := { dst := some 41, op := Op.load 31 (Operand.tmp 40), type := 31, pos := "view.go:71", after := #[{ on := 2, ground := Ground.data }], guard := none }) (by decide) rfl (by kernel_rfl) (by kernel_rfl) (by kernel_rfl) (by kernel_rfl) (fun _ _ _ h => h) (Or.inl ⟨by rfl, ?_⟩) HS7.out ?_
        rotate_left
        · intro W hSW
          go_simp
          try with_reducible rfl
        simp only [Act.put, List.setIfInBounds_toArray, List.set_cons_zero, List.set_cons_succ]
        refine wpL_take (v := ?_) (oi := { dst := some 42, op := Op.fieldAddr 48 (Operand.tmp 10) 0, type := 0, pos := "view.go:71", after := #[], guard := none }) (by decide) rfl (by kernel_rfl) (by kernel_rfl) (by kernel_rfl) (by kernel_rfl) (fun _ _ _ h => h) (Or.inl ⟨by rfl, ?_⟩) HS7.out ?_
        rotate_left
        · intro W hSW
          go_simp
          try with_reducible rfl
        simp only [Act.put, List.setIfInBounds_toArray, List.set_cons_zero, List.set_cons_succ]
        refine wpL_take (v := ?_) (oi := { dst := some 43, op := Op.load 3 (Operand.tmp 42), type := 3, pos := "view.go:71", after := #[{ on := 4, ground := Ground.data }], guard := none }) (by decide) rfl (by kernel_rfl) (by kernel_rfl) (by kernel_rfl) (by kernel_rfl) (fun _ _ _ h => h) (Or.inl ⟨by rfl, ?_⟩) HS7.out ?_
        rotate_left
        · intro W hSW
          go_simp
          try with_reducible rfl
        simp only [Act.put, List.setIfInBounds_toArray, List.set_cons_zero, List.set_cons_succ]
        refine wpL_take (v := ?_) (oi := { dst := some 44, op := Op.indexAddr 31 (Operand.tmp 41) (Operand.tmp 43), type := 0, pos := "view.go:71", after := #[{ on := 3, ground := Ground.data }, { on := 5, ground := Ground.data }], guard := none }) (by decide) rfl (by kernel_rfl) (by kernel_rfl) (by kernel_rfl) (by kernel_rfl) (fun _ _ _ h => h) (Or.inl ⟨by rfl, ?_⟩) HS7.out ?_
        rotate_left
        · intro W hSW
          go_simp
          try with_reducible rfl
        simp only [Act.put, List.setIfInBounds_toArray, List.set_cons_zero, List.set_cons_succ]
        refine wpL_take (v := ?_) (oi := { dst := some 45, op := Op.load 4 (Operand.tmp 44), type := 4, pos := "view.go:71", after := #[{ on := 6, ground := Ground.data }], guard := none }) (by decide) rfl (by kernel_rfl) (by kernel_rfl) (by kernel_rfl) (by kernel_rfl) (fun _ _ _ h => h) (Or.inl ⟨by rfl, ?_⟩) HS7.out ?_
        rotate_left
        · intro W hSW
          go_simp
          try with_reducible rfl
        simp only [Act.put, List.setIfInBounds_toArray, List.set_cons_zero, List.set_cons_succ]
        refine wpL_take (v := ?_) (oi := { dst := some 46, op := Op.unOp UnOp.not 4 (Operand.tmp 45), type := 4, pos := "view.go:71", after := #[{ on := 7, ground := Ground.data }], guard := none }) (by decide) rfl (by kernel_rfl) (by kernel_rfl) (by kernel_rfl) (by kernel_rfl) (fun _ _ _ h => h) (Or.inl ⟨by rfl, ?_⟩) HS7.out ?_
        rotate_left
        · intro W hSW
          go_simp
          try with_reducible rfl
        simp only [Act.put, List.setIfInBounds_toArray, List.set_cons_zero, List.set_cons_succ]
        refine wpAnyL_done (by kernel_rfl) ?_ _
        have d6 : But (fun _ => False) w6 w6.drew := (But.refl _ w6).drew
        have F7 := F6.next d6
        have B7 := B6.drew
        have c7 : w6.drew.cell? ⟨w.heap.size, 0, none⟩ = some (.bool g1) := c6
        have f7 : w6.drew.frozen? ⟨w.heap.size, 0, none⟩ = false := f6
        have Z7 : w6.drew.cell? ⟨Z, 0, none⟩ = some (.int .i64 q) := Z6'
        have hz7 : w.heap.size < w6.drew.heap.size := hz6
        have hZ7 : Z < w6.drew.heap.size := hZ6
        clear HS7 d6 F6 B6 c6 f6 Z6' hz6 hZ6
        generalize w6.drew = w7 at *
        have HFB : Hid (folB (WR R) (onb L) m B q = orW (if onb L q then B else List.replicate m 0) (WR R q)) := rfl
        cases ho : onb L q with
        | true =>
          rw [ho, if_pos rfl] at HFB
          gi_wp2
          have F8 := F7
          have B8 := B7
          have c8 := c7
          have f8 := f7
          have Z8 := Z7
          have hz8 := hz7
          clear F7 B7 c7 f7 Z7 hz7 hZ7
          have hZ8 : Z < w7.heap.size := World.block_lt_of_cell? w7 _ Z8
          have hqR : q < R.length := by rw [hR.len]; exact hqn
          have hRq := F8.ok.s.each q hqR
          have xq := F8.ok.s.cell hqR
          have hne : bs.getD q 0 ≠ c := fun h => by have := F8.xb _ (F8.ok.s.mem hqR); have := F8.xc; omega
          have HJ9 : Hid (Calls Tryd.prog 57 #[.slice (some ⟨c, 0, none⟩) m m, .slice (some ⟨bs.getD q 0, 0, none⟩) m m] w7.drew fun e w2 => (∃ nb, e = .returned (.bool nb)) ∧ Hid (FAt f a m X w0 V E G bs L R K1 K2 K3 H c bo O1 (folB (WR R) (onb L) m B q) w2 ∧ But (fun k => k = c) w7 w2)) := by
            rw [HFB.out]
            refine (join_any _ (WR R q) c (bs.getD q 0) m w7.drew ⟨F8.b.1, F8.b.2⟩ ⟨hRq.1, hRq.2⟩ (by omega)).mono ?_
            rintro e w2 ⟨rfl, h1, h2⟩
            have h3 : But (fun k => k = c) w7 w2 := ((But.refl _ w7).drew).trans h2
            exact ⟨⟨_, rfl⟩, F8.turnB h3 h1, h3⟩
          obtain ⟨bq, hbq⟩ : ∃ bq, bs.getD q 0 = bq := ⟨_, rfl⟩
          rw [hbq] at xq HJ9 hne
          have HS9 : Hid ((fun W => W.cell? ⟨K1, 0, none⟩ = some (.slice (some ⟨c, 0, none⟩) m m) ∧ W.cell? ⟨K3, 0, none⟩ = some (.pointer (some ⟨V, 0, none⟩)) ∧ W.cell? ⟨V, 4, none⟩ = some (.slice (some ⟨G, 0, none⟩) f.n f.n) ∧ W.cell? ⟨Z, 0, none⟩ = some (.int .i64 q) ∧ W.cell? ⟨G, q, none⟩ = some (.slice (some ⟨bq, 0, none⟩) m m)) w7.drew) := ⟨F8.k1, F8.k3, F8.ok.v.c4, Z8, xq⟩
          have HS9' : Hid (∀ O B w2, FAt f a m X w0 V E G bs L R K1 K2 K3 H c bo O B w2 → But (fun k => k = c) w7 w2 → (fun W => W.cell? ⟨K1, 0, none⟩ = some (.slice (some ⟨c, 0, none⟩) m m) ∧ W.cell? ⟨K3, 0, none⟩ = some (.pointer (some ⟨V, 0, none⟩)) ∧ W.cell? ⟨V, 4, none⟩ = some (.slice (some ⟨G, 0, none⟩) f.n f.n) ∧ W.cell? ⟨Z, 0, none⟩ = some (.int .i64 q) ∧ W.cell? ⟨G, q, none⟩ = some (.slice (some ⟨bq, 0, none⟩) m m)) w2) := fun O B w2 h1 h2 => by
            refine ⟨h1.k1, h1.k3, h1.ok.v.c4, (h2.cell (p := ⟨Z, 0, none⟩) hZ8 (by show Z ≠ c; omega)).trans Z8, ?_⟩
            have := h1.ok.s.cell hqR
            rw [hbq] at this
            exact this
          clear hRq xq hbq
          refine wpIn_region_L (fun W => W.cell? ⟨K1, 0, none⟩ = some (.slice (some ⟨c, 0, none⟩) m m) ∧ W.cell? ⟨K3, 0, none⟩ = some (.pointer (some ⟨V, 0, none⟩)) ∧ W.cell? ⟨V, 4, none⟩ = some (.slice (some ⟨G, 0, none⟩) f.n f.n) ∧ W.cell? ⟨Z, 0, none⟩ = some (.int .i64 q) ∧ W.cell? ⟨G, q, none⟩ = some (.slice (some ⟨bq, 0, none⟩) m m)) 10 (by kernel_rfl) 10 rfl (by kernel_rfl) (by rintro ⟨_, _, h⟩; exact h) ?_
          refine wpL_take (v := ?_) (oi := { dst := some 48, op := Op.load 61 (Operand.tmp 2), type := 61, pos := "view.go:74", after := #[], guard := none }) (by decide) rfl (by kernel_rfl) (by kernel_rfl) (by kernel_rfl) (by kernel_rfl) (fun _ _ _ h => h) (Or.inl ⟨by rfl, ?_⟩) HS9.out ?_
          rotate_left
          · intro W hSW
            go_simp
            try with_reducible rfl
          simp only [Act.put, List.setIfInBounds_toArray, List.set_cons_zero, List.set_cons_succ]
          refine wpL_take (v := ?_) (oi := { dst := some 49, op := Op.load 55 (Operand.tmp 4), type := 55, pos := "view.go:74", after := #[], guard := none }) (by decide) rfl (by kernel_rfl) (by kernel_rfl) (by kernel_rfl) (by kernel_rfl) (fun _ _ _ h => h) (Or.inl ⟨by rfl, ?_⟩) HS9.out ?_
          rotate_left
          · intro W hSW
            go_simp
            try with_reducible rfl
          simp only [Act.put, List.setIfInBounds_toArray, List.set_cons_zero, List.set_cons_succ]
          refine wpL_take (v := ?_) (oi := { dst := some 50, op := Op.nilCheck (Operand.tmp 49), type := 0, pos := "view.go:74", after := #[{ on := 1, ground := Ground.data }], guard := none }) (by decide) rfl (by kernel_rfl) (by kernel_rfl) (by kernel_rfl) (by kernel_rfl) (fun _ _ _ h => h) (Or.inl ⟨by rfl, ?_⟩) HS9.out ?_
          rotate_left
          · intro W hSW
            go_simp
            try with_reducible rfl
          simp only [Act.put, List.setIfInBounds_toArray, List.set_cons_zero, List.set_cons_succ]
          refine wpL_take (v := ?_) (oi := { dst := some 51, op := Op.fieldAddr 54 (Operand.tmp 50) 2, type := 0, pos := "view.go:74", after := #[{ on := 2, ground := Ground.data }], guard := none }) (by decide) rfl (by kernel_rfl) (by kernel_rfl) (by kernel_rfl) (by kernel_rfl) (fun _ _ _ h => h) (Or.inl ⟨by rfl, ?_⟩) HS9.out ?_
          rotate_left
          · intro W hSW
            go_simp
            try with_reducible rfl
          simp only [Act.put, List.setIfInBounds_toArray, List.set_cons_zero, List.set_cons_succ]
          refine wpL_take (v := ?_) (oi := { dst := some 52, op := Op.load 52 (Operand.tmp 51), type := 52, pos := "view.go:74", after := #[{ on := 3, ground := Ground.data }], guard := none }) (by decide) rfl (by kernel_rfl) (by kernel_rfl) (by kernel_rfl) (by kernel_rfl) (fun _ _ _ h => h) (Or.inl ⟨by rfl, ?_⟩) HS9.out ?_
          rotate_left
          · intro W hSW
            go_simp
            try with_reducible rfl
          simp only [Act.put, List.setIfInBounds_toArray, List.set_cons_zero, List.set_cons_succ]
          refine wpL_take (v := ?_) (oi := { dst := some 53, op := Op.fieldAddr 48 (Operand.tmp 10) 0, type := 0, pos := "view.go:74", after := #[], guard := none }) (by decide) rfl (by kernel_rfl) (by kernel_rfl) (by kernel_rfl) (by kernel_rfl) (fun _ _ _ h => h) (Or.inl ⟨by rfl, ?_⟩) HS9.out ?_
          rotate_left
          · intro W hSW
            go_simp
            try with_reducible rfl
          simp only [Act.put, List.setIfInBounds_toArray, List.set_cons_zero, List.set_cons_succ]
          refine wpL_take (v := ?_) (oi := { dst := some 54, op := Op.load 3 (Operand.tmp 53), type := 3, pos := "view.go:74", after := #[{ on := 5, ground := Ground.data }], guard := none }) (by decide) rfl (by kernel_rfl) (by kernel_rfl) (by kernel_rfl) (by kernel_rfl) (fun _ _ _ h => h) (Or.inl ⟨by rfl, ?_⟩) HS9.out ?_
          rotate_left
          · intro W hSW
            go_simp
            try with_reducible rfl
          simp only [Act.put, List.setIfInBounds_toArray, List.set_cons_zero, List.set_cons_succ]
          refine wpL_take (v := ?_) (oi := { dst := some 55, op := Op.indexAddr 52 (Operand.tmp 52) (Operand.tmp 54), type := 0, pos := "view.go:74", after := #[{ on := 4, ground := Ground.data }, { on := 6, ground := Ground.data }], guard := none }) (by decide) rfl (by kernel_rfl) (by kernel_rfl) (by kernel_rfl) (by kernel_rfl) (fun _ _ _ h => h) (Or.inl ⟨by rfl, ?_⟩) HS9.out ?_
          rotate_left
          · intro W hSW
            go_simp
            try with_reducible rfl
          simp only [Act.put, List.setIfInBounds_toArray, List.set_cons_zero, List.set_cons_succ]
          refine wpL_take (v := ?_) (oi := { dst := some 56, op := Op.load 61 (Operand.tmp 55), type := 61, pos := "view.go:74", after := #[{ on := 7, ground := Ground.data }], guard := none }) (by decide) rfl (by kernel_rfl) (by kernel_rfl) (by kernel_rfl) (by kernel_rfl) (fun _ _ _ h => h) (Or.inl ⟨by rfl, ?_⟩) HS9.out ?_
          rotate_left
          · intro W hSW
            go_simp
            try with_reducible rfl
          simp only [Act.put, List.setIfInBounds_toArray, List.set_cons_zero, List.set_cons_succ]
          refine wpL_one (o := { dst := some 57, op := Op.call { callee := Callee.value (Operand.func 57), args := #[Operand.tmp 48, Operand.tmp 56], argTypes := #[61, 61] }, type := 4, pos := "view.go:74", after := #[{ on := 0, ground := Ground.data }, { on := 8, ground := Ground.data }], guard := none }) (by decide) (by kernel_rfl) rfl (fun K hK => ?_)
          go_simp
          refine HJ9.out.mono ?_
          rintro e w9 ⟨⟨nb9, rfl⟩, h9⟩
          refine hK.out _ _ (fun _ => HS9'.out _ _ _ h9.out.1 h9.out.2) ?_
          clear hK
          refine wpAnyL_done (by kernel_rfl) ?_ _
          have hend := HFIN.out w9 h9.out.1 ((h9.out.2.cell (p := ⟨w.heap.size, 0, none⟩) hz8 (by show w.heap.size ≠ c; omega)).trans c8) ((h9.out.2.frozen (p := ⟨w.heap.size, 0, none⟩) hz8 (by show w.heap.size ≠ c; omega)).trans f8) (B8.trans (h9.out.2.mono (fun k _ hk => Or.inl (Or.inr hk))))
          clear HS9 HS9' HJ9 F8 HFIN
          gi_wp2
          exact hend
        | false =>
          rw [ho, if_neg (by simp)] at HFB
          have hclear := run_clearSet (W := w7) F7.b hm0 0
          have hset := setRow_set (W := w7) F7.b (words_zero m)
          have x1 := F7.k1
          obtain ⟨w8, hw8⟩ : ∃ w8, w7.setRow c ((List.replicate m 0).map encU).toArray = w8 := ⟨_, rfl⟩
          rw [hw8] at hclear hset
          clear hw8
          gi_wp2
          have F8 := F7.turnB hset.2 hset.1
          have B8 := B7.trans (hset.2.mono (fun k _ hk => Or.inl (Or.inr hk)))
          have c8 := (hset.2.cell (p := ⟨w.heap.size, 0, none⟩) hz7 (by show w.heap.size ≠ c; omega)).trans c7
          have f8 := (hset.2.frozen (p := ⟨w.heap.size, 0, none⟩) hz7 (by show w.heap.size ≠ c; omega)).trans f7
          have Z8 := (hset.2.cell (p := ⟨Z, 0, none⟩) hZ7 (by show Z ≠ c; omega)).trans Z7
          have hz8 : w.heap.size < w8.heap.size := World.block_lt_of_cell? w8 _ c8
          clear F7 B7 c7 f7 Z7 hz7 hZ7 hset hclear x1
          generalize List.replicate m 0 = B1 at *
          generalize w8 = w7 at *
          have hZ8 : Z < w7.heap.size := World.block_lt_of_cell? w7 _ Z8
          have hqR : q < R.length := by rw [hR.len]; exact hqn
          have hRq := F8.ok.s.each q hqR
          have xq := F8.ok.s.cell hqR
          have hne : bs.getD q 0 ≠ c := fun h => by have := F8.xb _ (F8.ok.s.mem hqR); have := F8.xc; omega
          have HJ9 : Hid (Calls Tryd.prog 57 #[.slice (some ⟨c, 0, none⟩) m m, .slice (some ⟨bs.getD q 0, 0, none⟩) m m] w7.drew fun e w2 => (∃ nb, e = .returned (.bool nb)) ∧ Hid (FAt f a m X w0 V E G bs L R K1 K2 K3 H c bo O1 (folB (WR R) (onb L) m B q) w2 ∧ But (fun k => k = c) w7 w2)) := by
            rw [HFB.out]
            refine (join_any _ (WR R q) c (bs.getD q 0) m w7.drew ⟨F8.b.1, F8.b.2⟩ ⟨hRq.1, hRq.2⟩ (by omega)).mono ?_
            rintro e w2 ⟨rfl, h1, h2⟩
            have h3 : But (fun k => k = c) w7 w2 := ((But.refl _ w7).drew).trans h2
            exact ⟨⟨_, rfl⟩, F8.turnB h3 h1, h3⟩
          obtain ⟨bq, hbq⟩ : ∃ bq, bs.getD q 0 = bq := ⟨_, rfl⟩
          rw [hbq] at xq HJ9 hne
          have HS9 : Hid ((fun W => W.cell? ⟨K1, 0, none⟩ = some (.slice (some ⟨c, 0, none⟩) m m) ∧ W.cell? ⟨K3, 0, none⟩ = some (.pointer (some ⟨V, 0, none⟩)) ∧ W.cell? ⟨V, 4, none⟩ = some (.slice (some ⟨G, 0, none⟩) f.n f.n) ∧ W.cell? ⟨Z, 0, none⟩ = some (.int .i64 q) ∧ W.cell? ⟨G, q, none⟩ = some (.slice (some ⟨bq, 0, none⟩) m m)) w7.drew) := ⟨F8.k1, F8.k3, F8.ok.v.c4, Z8, xq⟩
          have HS9' : Hid (∀ O B w2, FAt f a m X w0 V E G bs L R K1 K2 K3 H c bo O B w2 → But (fun k => k = c) w7 w2 → (fun W => W.cell? ⟨K1, 0, none⟩ = some (.slice (some ⟨c, 0, none⟩) m m) ∧ W.cell? ⟨K3, 0, none⟩ = some (.pointer (some ⟨V, 0, none⟩)) ∧ W.cell? ⟨V, 4, none⟩ = some (.slice (some ⟨G, 0, none⟩) f.n f.n) ∧ W.cell? ⟨Z, 0, none⟩ = some (.int .i64 q) ∧ W.cell? ⟨G, q, none⟩ = some (.slice (some ⟨bq, 0, none⟩) m m)) w2) := fun O B w2 h1 h2 => by
            refine ⟨h1.k1, h1.k3, h1.ok.v.c4, (h2.cell (p := ⟨Z, 0, none⟩) hZ8 (by show Z ≠ c; omega)).trans Z8, ?_⟩
            have := h1.ok.s.cell hqR
            rw [hbq] at this
            exact this
          clear hRq xq hbq
          refine wpIn_region_L (fun W => W.cell? ⟨K1, 0, none⟩ = some (.slice (some ⟨c, 0, none⟩) m m) ∧ W.cell? ⟨K3, 0, none⟩ = some (.pointer (some ⟨V, 0, none⟩)) ∧ W.cell? ⟨V, 4, none⟩ = some (.slice (some ⟨G, 0, none⟩) f.n f.n) ∧ W.cell? ⟨Z, 0, none⟩ = some (.int .i64 q) ∧ W.cell? ⟨G, q, none⟩ = some (.slice (some ⟨bq, 0, none⟩) m m)) 10 (by kernel_rfl) 10 rfl (by kernel_rfl) (by rintro ⟨_, _, h⟩; exact h) ?_
          refine wpL_take (v := ?_) (oi := { dst := some 48, op := Op.load 61 (Operand.tmp 2), type := 61, pos := "view.go:74", after := #[], guard := none }) (by decide) rfl (by kernel_rfl) (by kernel_rfl) (by kernel_rfl) (by kernel_rfl) (fun _ _ _ h => h) (Or.inl ⟨by rfl, ?_⟩) HS9.out ?_
          rotate_left
          · intro W hSW
            go_simp
            try with_reducible rfl
          simp only [Act.put, List.setIfInBounds_toArray, List.set_cons_zero, List.set_cons_succ]
          refine wpL_take (v := ?_) (oi := { dst := some 49, op := Op.load 55 (Operand.tmp 4), type := 55, pos := "view.go:74", after := #[], guard := none }) (by decide) rfl (by kernel_rfl) (by kernel_rfl) (by kernel_rfl) (by kernel_rfl) (fun _ _ _ h => h) (Or.inl ⟨by rfl, ?_⟩) HS9.out ?_
          rotate_left
          · intro W hSW
            go_simp
            try with_reducible rfl
          simp only [Act.put, List.setIfInBounds_toArray, List.set_cons_zero, List.set_cons_succ]
          refine wpL_take (v := ?_) (oi := { dst := some 50, op := Op.nilCheck (Operand.tmp 49), type := 0, pos := "view.go:74", after := #[{ on := 1, ground := Ground.data }], guard := none }) (by decide) rfl (by kernel_rfl) (by kernel_rfl) (by kernel_rfl) (by kernel_rfl) (fun _ _ _ h => h) (Or.inl ⟨by rfl, ?_⟩) HS9.out ?_
          rotate_left
          · intro W hSW
            go_simp
            try with_reducible rfl
          simp only [Act.put, List.setIfInBounds_toArray, List.set_cons_zero, List.set_cons_succ]
          refine wpL_take (v := ?_) (oi := { dst := some 51, op := Op.fieldAddr 54 (Operand.tmp 50) 2, type := 0, pos := "view.go:74", after := #[{ on := 2, ground := Ground.data }], guard := none }) (by decide) rfl (by kernel_rfl) (by kernel_rfl) (by kernel_rfl) (by kernel_rfl) (fun _ _ _ h => h) (Or.inl ⟨by rfl, ?_⟩) HS9.out ?_
          rotate_left
          · intro W hSW
            go_simp
            try with_reducible rfl
          simp only [Act.put, List.setIfInBounds_toArray, List.set_cons_zero, List.set_cons_succ]
          refine wpL_take (v := ?_) (oi := { dst := some 52, op := Op.load 52 (Operand.tmp 51), type := 52, pos := "view.go:74", after := #[{ on := 3, ground := Ground.data }], guard := none }) (by decide) rfl (by kernel_rfl) (by kernel_rfl) (by kernel_rfl) (by kernel_rfl) (fun _ _ _ h => h) (Or.inl ⟨by rfl, ?_⟩) HS9.out ?_
          rotate_left
          · intro W hSW
            go_simp
            try with_reducible rfl
          simp only [Act.put, List.setIfInBounds_toArray, List.set_cons_zero, List.set_cons_succ]
          refine wpL_take (v := ?_) (oi := { dst := some 53, op := Op.fieldAddr 48 (Operand.tmp 10) 0, type := 0, pos := "view.go:74", after := #[], guard := none }) (by decide) rfl (by kernel_rfl) (by kernel_rfl) (by kernel_rfl) (by kernel_rfl) (fun _ _ _ h => h) (Or.inl ⟨by rfl, ?_⟩) HS9.out ?_
          rotate_left
          · intro W hSW
            go_simp
            try with_reducible rfl
          simp only [Act.put, List.setIfInBounds_toArray, List.set_cons_zero, List.set_cons_succ]
          refine wpL_take (v := ?_) (oi := { dst := some 54, op := Op.load 3 (Operand.tmp 53), type := 3, pos := "view.go:74", after := #[{ on := 5, ground := Ground.data }], guard := none }) (by decide) rfl (by kernel_rfl) (by kernel_rfl) (by kernel_rfl) (by kernel_rfl) (fun _ _ _ h => h) (Or.inl ⟨by rfl, ?_⟩) HS9.out ?_
          rotate_left
          · intro W hSW
            go_simp
            try with_reducible rfl
          simp only [Act.put, List.setIfInBounds_toArray, List.set_cons_zero, List.set_cons_succ]
          refine wpL_take (v := ?_) (oi := { dst := some 55, op := Op.indexAddr 52 (Operand.tmp 52) (Operand.tmp 54), type := 0, pos := "view.go:74", after := #[{ on := 4, ground := Ground.data }, { on := 6, ground := Ground.data }], guard := none }) (by decide) rfl (by kernel_rfl) (by kernel_rfl) (by kernel_rfl) (by kernel_rfl) (fun _ _ _ h => h) (Or.inl ⟨by rfl, ?_⟩) HS9.out ?_
          rotate_left
          · intro W hSW
            go_simp
            try with_reducible rfl
          simp only [Act.put, List.setIfInBounds_toArray, List.set_cons_zero, List.set_cons_succ]
          refine wpL_take (v := ?_) (oi := { dst := some 56, op := Op.load 61 (Operand.tmp 55), type := 61, pos := "view.go:74", after := #[{ on := 7, ground := Ground.data }], guard := none }) (by decide) rfl (by kernel_rfl) (by kernel_rfl) (by kernel_rfl) (by kernel_rfl) (fun _ _ _ h => h) (Or.inl ⟨by rfl, ?_⟩) HS9.out ?_
          rotate_left
          · intro W hSW
            go_simp
            try with_reducible rfl
          simp only [Act.put, List.setIfInBounds_toArray, List.set_cons_zero, List.set_cons_succ]
          refine wpL_one (o := { dst := some 57, op := Op.call { callee := Callee.value (Operand.func 57), args := #[Operand.tmp 48, Operand.tmp 56], argTypes := #[61, 61] }, type := 4, pos := "view.go:74", after := #[{ on := 0, ground := Ground.data }, { on := 8, ground := Ground.data }], guard := none }) (by decide) (by kernel_rfl) rfl (fun K hK => ?_)
          go_simp
          refine HJ9.out.mono ?_
          rintro e w9 ⟨⟨nb9, rfl⟩, h9⟩
          refine hK.out _ _ (fun _ => HS9'.out _ _ _ h9.out.1 h9.out.2) ?_
          clear hK
          refine wpAnyL_done (by kernel_rfl) ?_ _
          have hend := HFIN.out w9 h9.out.1 ((h9.out.2.cell (p := ⟨w.heap.size, 0, none⟩) hz8 (by show w.heap.size ≠ c; omega)).trans c8) ((h9.out.2.frozen (p := ⟨w.heap.size, 0, none⟩) hz8 (by show w.heap.size ≠ c; omega)).trans f8) (B8.trans (h9.out.2.mono (fun k _ hk => Or.inl (Or.inr hk))))
          clear HS9 HS9' HJ9 F8 HFIN
          gi_wp2
          exact hend
    · rw [decide_eq_false hT]
      rw [if_neg hT] at hFO hFG
      subst hFO hFG
      gi_wp2
      · skip
        have F6 := F5
        have B6 := B5
        have c6 := c5
        have f6 := f5
        have Z6' := Z5
        clear F5 B5 c5 f5 Z5
        generalize w5 = w6 at *
        have HS7 : Hid ((fun W => W.cell? ⟨K3, 0, none⟩ = some (.pointer (some ⟨V, 0, none⟩)) ∧ W.cell? ⟨V, 3, none⟩ = some (.slice (some ⟨E, 0, none⟩) f.n f.n) ∧ W.cell? ⟨Z, 0, none⟩ = some (.int .i64 q) ∧ W.cell? ⟨E, q, none⟩ = some (.bool (onb L q))) w6.drew) := ⟨F6.k3, F6.ok.v.c3, Z6', F6.ok.e.cell hqn⟩
        have hz6 : w.heap.size < w6.heap.size := World.block_lt_of_cell? w6 _ c6
        have hZ6 : Z < w6.heap.size := World.block_lt_of_cell? w6 _ Z6'
        gi_wp2
        refine wpIn_region_L (fun W => W.cell? ⟨K3, 0, none⟩ = some (.pointer (some ⟨V, 0, none⟩)) ∧ W.cell? ⟨V, 3, none⟩ = some (.slice (some ⟨E, 0, none⟩) f.n f.n) ∧ W.cell? ⟨Z, 0, none⟩ = some (.int .i64 q) ∧ W.cell? ⟨E, q, none⟩ = some (.bool (onb L q))) 9 (by kernel_rfl) 9 rfl (by kernel_rfl) (by rintro ⟨_, _, h⟩; exact h) ?_
        refine wpL_take (v := ?_) (oi := { dst := some 38, op := Op.load 55 (Operand.tmp 4), type := 55, pos := "view.go:71", after := #[], guard := none }) (by decide) rfl (by kernel_rfl) (by kernel_rfl) (by kernel_rfl) (by kernel_rfl) (fun _ _ _ h => h) (Or.inl ⟨by rfl, ?_⟩) HS7.out ?_
        rotate_left
        · intro W hSW
          go_simp
          try with_reducible rfl
        simp only [Act.put, List.setIfInBounds_toArray, List.set_cons_zero, List.set_cons_succ]
        refine wpL_take (v := ?_) (oi := { dst := some 39, op := Op.nilCheck (Operand.tmp 38), type := 0, pos := "view.go:71", after := #[{ on := 0, ground := Ground.data }], guard := none }) (by decide) rfl (by kernel_rfl) (by kernel_rfl) (by kernel_rfl) (by kernel_rfl) (fun _ _ _ h => h) (Or.inl ⟨by rfl, ?_⟩) HS7.out ?_
        rotate_left
        · intro W hSW
          go_simp
          try with_reducible rfl
        simp only [Act.put, List.setIfInBounds_toArray, List.set_cons_zero, List.set_cons_succ]
        refine wpL_take (v := ?_) (oi := { dst := some 40, op := Op.fieldAddr 54 (Operand.tmp 39) 1, type := 0, pos := "view.go:71", after := #[{ on := 1, ground := Ground.data }], guard := none }) (by decide) rfl (by kernel_rfl) (by kernel_rfl) (by kernel_rfl) (by kernel_rfl) (fun _ _ _ h => h) (Or.inl ⟨by rfl, ?_⟩) HS7.out ?_
        rotate_left
        · intro W hSW
          go_simp
          try with_reducible rfl
        simp only [Act.put, List.setIfInBounds_toArray, List.set_cons_zero, List.set_cons_succ]
        refine wpL_take (v := ?_) (oi := { dst := some 41, op := Op.load 31 (Operand.tmp 40), type := 31, pos := "view.go:71", after := #[{ on := 2, ground := Ground.data }], guard := none }) (by decide) rfl (by kernel_rfl) (by kernel_rfl) (by kernel_rfl) (by kernel_rfl) (fun _ _ _ h => h) (Or.inl ⟨by rfl, ?_⟩) HS7.out ?_
        rotate_left
        · intro W hSW
          go_simp
          try with_reducible rfl
        simp only [Act.put, List.setIfInBounds_toArray, List.set_cons_zero, List.set_cons_succ]
        refine wpL_take (v := ?_) (oi := { dst := some 42, op := Op.fieldAddr 48 (Operand.tmp 10) 0, type := 0, pos := "view.go:71", after := #[], guard := none }) (by decide) rfl (by kernel_rfl) (by kernel_rfl) (by kernel_rfl) (by kernel_rfl) (fun _ _ _ h => h) (Or.inl ⟨by rfl, ?_⟩) HS7.out ?_
        rotate_left
        · intro W hSW
          go_simp
          try with_reducible rfl
        simp only [Act.put, List.setIfInBounds_toArray, List.set_cons_zero, List.set_cons_succ]
        refine wpL_take (v := ?_) (oi := { dst := some 43, op := Op.load 3 (Operand.tmp 42), type := 3, pos := "view.go:71", after := #[{ on := 4, ground := Ground.data }], guard := none }) (by decide) rfl (by kernel_rfl) (by kernel_rfl) (by kernel_rfl) (by kernel_rfl) (fun _ _ _ h => h) (Or.inl ⟨by rfl, ?_⟩) HS7.out ?_
        rotate_left
        · intro W hSW
          go_simp
          try with_reducible rfl
        simp only [Act.put, List.setIfInBounds_toArray, List.set_cons_zero, List.set_cons_succ]
        refine wpL_take (v := ?_) (oi := { dst := some 44, op := Op.indexAddr 31 (Operand.tmp 41) (Operand.tmp 43), type := 0, pos := "view.go:71", after := #[{ on := 3, ground := Ground.data }, { on := 5, ground := Ground.data }], guard := none }) (by decide) rfl (by kernel_rfl) (by kernel_rfl) (by kernel_rfl) (by kernel_rfl) (fun _ _ _ h => h) (Or.inl ⟨by rfl, ?_⟩) HS7.out ?_
        rotate_left
        · intro W hSW
          go_simp
          try with_reducible rfl
        simp only [Act.put, List.setIfInBounds_toArray, List.set_cons_zero, List.set_cons_succ]
        refine wpL_take (v := ?_) (oi := { dst := some 45, op := Op.load 4 (Operand.tmp 44), type := 4, pos := "view.go:71", after := #[{ on := 6, ground := Ground.data }], guard := none }) (by decide) rfl (by kernel_rfl) (by kernel_rfl) (by kernel_rfl) (by kernel_rfl) (fun _ _ _ h => h) (Or.inl ⟨by rfl, ?_⟩) HS7.out ?_
        rotate_left
        · intro W hSW
          go_simp
          try with_reducible rfl
        simp only [Act.put, List.setIfInBounds_toArray, List.set_cons_zero, List.set_cons_succ]
        refine wpL_take (v := ?_) (oi := { dst := some 46, op := Op.unOp UnOp.not 4 (Operand.tmp 45), type := 4, pos := "view.go:71", after := #[{ on := 7, ground := Ground.data }], guard := none }) (by decide) rfl (by kernel_rfl) (by kernel_rfl) (by kernel_rfl) (by kernel_rfl) (fun _ _ _ h => h) (Or.inl ⟨by rfl, ?_⟩) HS7.out ?_
        rotate_left
        · intro W hSW
          go_simp
          try with_reducible rfl
        simp only [Act.put, List.setIfInBounds_toArray, List.set_cons_zero, List.set_cons_succ]
        refine wpAnyL_done (by kernel_rfl) ?_ _
        have d6 : But (fun _ => False) w6 w6.drew := (But.refl _ w6).drew
        have F7 := F6.next d6
        have B7 := B6.drew
        have c7 : w6.drew.cell? ⟨w.heap.size, 0, none⟩ = some (.bool g1) := c6
        have f7 : w6.drew.frozen? ⟨w.heap.size, 0, none⟩ = false := f6
        have Z7 : w6.drew.cell? ⟨Z, 0, none⟩ = some (.int .i64 q) := Z6'
        have hz7 : w.heap.size < w6.drew.heap.size := hz6
        have hZ7 : Z < w6.drew.heap.size := hZ6
        clear HS7 d6 F6 B6 c6 f6 Z6' hz6 hZ6
        generalize w6.drew = w7 at *
        have HFB : Hid (folB (WR R) (onb L) m B q = orW (if onb L q then B else List.replicate m 0) (WR R q)) := rfl
        cases ho : onb L q with
        | true =>
          rw [ho, if_pos rfl] at HFB
          gi_wp2
          have F8 := F7
          have B8 := B7
          have c8 := c7
          have f8 := f7
          have Z8 := Z7
          have hz8 := hz7
          clear F7 B7 c7 f7 Z7 hz7 hZ7
          have hZ8 : Z < w7.heap.size := World.block_lt_of_cell? w7 _ Z8
          have hqR : q < R.length := by rw [hR.len]; exact hqn
          have hRq := F8.ok.s.each q hqR
          have xq := F8.ok.s.cell hqR
          have hne : bs.getD q 0 ≠ c := fun h => by have := F8.xb _ (F8.ok.s.mem hqR); have := F8.xc; omega
          have HJ9 : Hid (Calls Tryd.prog 57 #[.slice (some ⟨c, 0, none⟩) m m, .slice (some ⟨bs.getD q 0, 0, none⟩) m m] w7.drew fun e w2 => (∃ nb, e = .returned (.bool nb)) ∧ Hid (FAt f a m X w0 V E G bs L R K1 K2 K3 H c bo O1 (folB (WR R) (onb L) m B q) w2 ∧ But (fun k => k = c) w7 w2)) := by
            rw [HFB.out]
            refine (join_any _ (WR R q) c (bs.getD q 0) m w7.drew ⟨F8.b.1, F8.b.2⟩ ⟨hRq.1, hRq.2⟩ (by omega)).mono ?_
            rintro e w2 ⟨rfl, h1, h2⟩
            have h3 : But (fun k => k = c) w7 w2 := ((But.refl _ w7).drew).trans h2
            exact ⟨⟨_, rfl⟩, F8.turnB h3 h1, h3⟩
          obtain ⟨bq, hbq⟩ : ∃ bq, bs.getD q 0 = bq := ⟨_, rfl⟩
          rw [hbq] at xq HJ9 hne
          have HS9 : Hid ((fun W => W.cell? ⟨K1, 0, none⟩ = some (.slice (some ⟨c, 0, none⟩) m m) ∧ W.cell? ⟨K3, 0, none⟩ = some (.pointer (some ⟨V, 0, none⟩)) ∧ W.cell? ⟨V, 4, none⟩ = some (.slice (some ⟨G, 0, none⟩) f.n f.n) ∧ W.cell? ⟨Z, 0, none⟩ = some (.int .i64 q) ∧ W.cell? ⟨G, q, none⟩ = some (.slice (some ⟨bq, 0, none⟩) m m)) w7.drew) := ⟨F8.k1, F8.k3, F8.ok.v.c4, Z8, xq⟩
          have HS9' : Hid (∀ O B w2, FAt f a m X w0 V E G bs L R K1 K2 K3 H c bo O B w2 → But (fun k => k = c) w7 w2 → (fun W => W.cell? ⟨K1, 0, none⟩ = some (.slice (some ⟨c, 0, none⟩) m m) ∧ W.cell? ⟨K3, 0, none⟩ = some (.pointer (some ⟨V, 0, none⟩)) ∧ W.cell? ⟨V, 4, none⟩ = some (.slice (some ⟨G, 0, none⟩) f.n f.n) ∧ W.cell? ⟨Z, 0, none⟩ = some (.int .i64 q) ∧ W.cell? ⟨G, q, none⟩ = some (.slice (some ⟨bq, 0, none⟩) m m)) w2) := fun O B w2 h1 h2 => by
            refine ⟨h1.k1, h1.k3, h1.ok.v.c4, (h2.cell (p := ⟨Z, 0, none⟩) hZ8 (by show Z ≠ c; omega)).trans Z8, ?_⟩
            have := h1.ok.s.cell hqR
            rw [hbq] at this
            exact this
          clear hRq xq hbq
          refine wpIn_region_L (fun W => W.cell? ⟨K1, 0, none⟩ = some (.slice (some ⟨c, 0, none⟩) m m) ∧ W.cell? ⟨K3, 0, none⟩ = some (.pointer (some ⟨V, 0, none⟩)) ∧ W.cell? ⟨V, 4, none⟩ = some (.slice (some ⟨G, 0, none⟩) f.n f.n) ∧ W.cell? ⟨Z, 0, none⟩ = some (.int .i64 q) ∧ W.cell? ⟨G, q, none⟩ = some (.slice (some ⟨bq, 0, none⟩) m m)) 10 (by kernel_rfl) 10 rfl (by kernel_rfl) (by rintro ⟨_, _, h⟩; exact h) ?_
          refine wpL_take (v := ?_) (oi := { dst := some 48, op := Op.load 61 (Operand.tmp 2), type := 61, pos := "view.go:74", after := #[], guard := none }) (by decide) rfl (by kernel_rfl) (by kernel_rfl) (by kernel_rfl) (by kernel_rfl) (fun _ _ _ h => h) (Or.inl ⟨by rfl, ?_⟩) HS9.out ?_
          rotate_left
          · intro W hSW
            go_simp
            try with_reducible rfl
          simp only [Act.put, List.setIfInBounds_toArray, List.set_cons_zero, List.set_cons_succ]
          refine wpL_take (v := ?_) (oi := { dst := some 49, op := Op.load 55 (Operand.tmp 4), type := 55, pos := "view.go:74", after := #[], guard := none }) (by decide) rfl (by kernel_rfl) (by kernel_rfl) (by kernel_rfl) (by kernel_rfl) (fun _ _ _ h => h) (Or.inl ⟨by rfl, ?_⟩) HS9.out ?_
          rotate_left
          · intro W hSW
            go_simp
            try with_reducible rfl
          simp only [Act.put, List.setIfInBounds_toArray, List.set_cons_zero, List.set_cons_succ]
          refine wpL_take (v := ?_) (oi := { dst := some 50, op := Op.nilCheck (Operand.tmp 49), type := 0, pos := "view.go:74", after := #[{ on := 1, ground := Ground.data }], guard := none }) (by decide) rfl (by kernel_rfl) (by kernel_rfl) (by kernel_rfl) (by kernel_rfl) (fun _ _ _ h => h) (Or.inl ⟨by rfl, ?_⟩) HS9.out ?_
          rotate_left
          · intro W hSW
            go_simp
            try with_reducible rfl
          simp only [Act.put, List.setIfInBounds_toArray, List.set_cons_zero, List.set_cons_succ]
          refine wpL_take (v := ?_) (oi := { dst := some 51, op := Op.fieldAddr 54 (Operand.tmp 50) 2, type := 0, pos := "view.go:74", after := #[{ on := 2, ground := Ground.data }], guard := none }) (by decide) rfl (by kernel_rfl) (by kernel_rfl) (by kernel_rfl) (by kernel_rfl) (fun _ _ _ h => h) (Or.inl ⟨by rfl, ?_⟩) HS9.out ?_
          rotate_left
          · intro W hSW
            go_simp
            try with_reducible rfl
          simp only [Act.put, List.setIfInBounds_toArray, List.set_cons_zero, List.set_cons_succ]
          refine wpL_take (v := ?_) (oi := { dst := some 52, op := Op.load 52 (Operand.tmp 51), type := 52, pos := "view.go:74", after := #[{ on := 3, ground := Ground.data }], guard := none }) (by decide) rfl (by kernel_rfl) (by kernel_rfl) (by kernel_rfl) (by kernel_rfl) (fun _ _ _ h => h) (Or.inl ⟨by rfl, ?_⟩) HS9.out ?_
          rotate_left
          · intro W hSW
            go_simp
            try with_reducible rfl
          simp only [Act.put, List.setIfInBounds_toArray, List.set_cons_zero, List.set_cons_succ]
          refine wpL_take (v := ?_) (oi := { dst := some 53, op := Op.fieldAddr 48 (Operand.tmp 10) 0, type := 0, pos := "view.go:74", after := #[], guard := none }) (by decide) rfl (by kernel_rfl) (by kernel_rfl) (by kernel_rfl) (by kernel_rfl) (fun _ _ _ h => h) (Or.inl ⟨by rfl, ?_⟩) HS9.out ?_
          rotate_left
          · intro W hSW
            go_simp
            try with_reducible rfl
          simp only [Act.put, List.setIfInBounds_toArray, List.set_cons_zero, List.set_cons_succ]
          refine wpL_take (v := ?_) (oi := { dst := some 54, op := Op.load 3 (Operand.tmp 53), type := 3, pos := "view.go:74", after := #[{ on := 5, ground := Ground.data }], guard := none }) (by decide) rfl (by kernel_rfl) (by kernel_rfl) (by kernel_rfl) (by kernel_rfl) (fun _ _ _ h => h) (Or.inl ⟨by rfl, ?_⟩) HS9.out ?_
          rotate_left
          · intro W hSW
            go_simp
            try with_reducible rfl
          simp only [Act.put, List.setIfInBounds_toArray, List.set_cons_zero, List.set_cons_succ]
          refine wpL_take (v := ?_) (oi := { dst := some 55, op := Op.indexAddr 52 (Operand.tmp 52) (Operand.tmp 54), type := 0, pos := "view.go:74", after := #[{ on := 4, ground := Ground.data }, { on := 6, ground := Ground.data }], guard := none }) (by decide) rfl (by kernel_rfl) (by kernel_rfl) (by kernel_rfl) (by kernel_rfl) (fun _ _ _ h => h) (Or.inl ⟨by rfl, ?_⟩) HS9.out ?_
          rotate_left
          · intro W hSW
            go_simp
            try with_reducible rfl
          simp only [Act.put, List.setIfInBounds_toArray, List.set_cons_zero, List.set_cons_succ]
          refine wpL_take (v := ?_) (oi := { dst := some 56, op := Op.load 61 (Operand.tmp 55), type := 61, pos := "view.go:74", after := #[{ on := 7, ground := Ground.data }], guard := none }) (by decide) rfl (by kernel_rfl) (by kernel_rfl) (by kernel_rfl) (by kernel_rfl) (fun _ _ _ h => h) (Or.inl ⟨by rfl, ?_⟩) HS9.out ?_
          rotate_left
          · intro W hSW
            go_simp
            try with_reducible rfl
          simp only [Act.put, List.setIfInBounds_toArray, List.set_cons_zero, List.set_cons_succ]
          refine wpL_one (o := { dst := some 57, op := Op.call { callee := Callee.value (Operand.func 57), args := #[Operand.tmp 48, Operand.tmp 56], argTypes := #[61, 61] }, type := 4, pos := "view.go:74", after := #[{ on := 0, ground := Ground.data }, { on := 8, ground := Ground.data }], guard := none }) (by decide) (by kernel_rfl) rfl (fun K hK => ?_)
          go_simp
          refine HJ9.out.mono ?_
          rintro e w9 ⟨⟨nb9, rfl⟩, h9⟩
          refine hK.out _ _ (fun _ => HS9'.out _ _ _ h9.out.1 h9.out.2) ?_
          clear hK
          refine wpAnyL_done (by kernel_rfl) ?_ _
          have hend := HFIN.out w9 h9.out.1 ((h9.out.2.cell (p := ⟨w.heap.size, 0, none⟩) hz8 (by show w.heap.size ≠ c; omega)).trans c8) ((h9.out.2.frozen (p := ⟨w.heap.size, 0, none⟩) hz8 (by show w.heap.size ≠ c; omega)).trans f8) (B8.trans (h9.out.2.mono (fun k _ hk => Or.inl (Or.inr hk))))
          clear HS9 HS9' HJ9 F8 HFIN
          gi_wp2
          exact hend
        | false =>
          rw [ho, if_neg (by simp)] at HFB
          have hclear := run_clearSet (W := w7) F7.b hm0 0
          have hset := setRow_set (W := w7) F7.b (words_zero m)
          have x1 := F7.k1
          obtain ⟨w8, hw8⟩ : ∃ w8, w7.setRow c ((List.replicate m 0).map encU).toArray = w8 := ⟨_, rfl⟩
          rw [hw8] at hclear hset
          clear hw8
          gi_wp2
          have F8 := F7.turnB hset.2 hset.1
          have B8 := B7.trans (hset.2.mono (fun k _ hk => Or.inl (Or.inr hk)))
          have c8 := (hset.2.cell (p := ⟨w.heap.size, 0, none⟩) hz7 (by show w.heap.size ≠ c; omega)).trans c7
          have f8 := (hset.2.frozen (p := ⟨w.heap.size, 0, none⟩) hz7 (by show w.heap.size ≠ c; omega)).trans f7
          have Z8 := (hset.2.cell (p := ⟨Z, 0, none⟩) hZ7 (by show Z ≠ c; omega)).trans Z7
          have hz8 : w.heap.size < w8.heap.size := World.block_lt_of_cell? w8 _ c8
          clear F7 B7 c7 f7 Z7 hz7 hZ7 hset hclear x1
          generalize List.replicate m 0 = B1 at *
          generalize w8 = w7 at *
          have hZ8 : Z < w7.heap.size := World.block_lt_of_cell? w7 _ Z8
          have hqR : q < R.length := by rw [hR.len]; exact hqn
          have hRq := F8.ok.s.each q hqR
          have xq := F8.ok.s.cell hqR
          have hne : bs.getD q 0 ≠ c := fun h => by have := F8.xb _ (F8.ok.s.mem hqR); have := F8.xc; omega
          have HJ9 : Hid (Calls Tryd.prog 57 #[.slice (some ⟨c, 0, none⟩) m m, .slice (some ⟨bs.getD q 0, 0, none⟩) m m] w7.drew fun e w2 => (∃ nb, e = .returned (.bool nb)) ∧ Hid (FAt f a m X w0 V E G bs L R K1 K2 K3 H c bo O1 (folB (WR R) (onb L) m B q) w2 ∧ But (fun k => k = c) w7 w2)) := by
            rw [HFB.out]
            refine (join_any _ (WR R q) c (bs.getD q 0) m w7.drew ⟨F8.b.1, F8.b.2⟩ ⟨hRq.1, hRq.2⟩ (by omega)).mono ?_
            rintro e w2 ⟨rfl, h1, h2⟩
            have h3 : But (fun k => k = c) w7 w2 := ((But.refl _ w7).drew).trans h2
            exact ⟨⟨_, rfl⟩, F8.turnB h3 h1, h3⟩
          obtain ⟨bq, hbq⟩ : ∃ bq, bs.getD q 0 = bq := ⟨_, rfl⟩
          rw [hbq] at xq HJ9 hne
          have HS9 : Hid ((fun W => W.cell? ⟨K1, 0, none⟩ = some (.slice (some ⟨c, 0, none⟩) m m) ∧ W.cell? ⟨K3, 0, none⟩ = some (.pointer (some ⟨V, 0, none⟩)) ∧ W.cell? ⟨V, 4, none⟩ = some (.slice (some ⟨G, 0, none⟩) f.n f.n) ∧ W.cell? ⟨Z, 0, none⟩ = some (.int .i64 q) ∧ W.cell? ⟨G, q, none⟩ = some (.slice (some ⟨bq, 0, none⟩) m m)) w7.drew) := ⟨F8.k1, F8.k3, F8.ok.v.c4, Z8, xq⟩
          have HS9' : Hid (∀ O B w2, FAt f a m X w0 V E G bs L R K1 K2 K3 H c bo O B w2 → But (fun k => k = c) w7 w2 → (fun W => W.cell? ⟨K1, 0, none⟩ = some (.slice (some ⟨c, 0, none⟩) m m) ∧ W.cell? ⟨K3, 0, none⟩ = some (.pointer (some ⟨V, 0, none⟩)) ∧ W.cell? ⟨V, 4, none⟩ = some (.slice (some ⟨G, 0, none⟩) f.n f.n) ∧ W.cell? ⟨Z, 0, none⟩ = some (.int .i64 q) ∧ W.cell? ⟨G, q, none⟩ = some (.slice (some ⟨bq, 0, none⟩) m m)) w2) := fun O B w2 h1 h2 => by
            refine ⟨h1.k1, h1.k3, h1.ok.v.c4, (h2.cell (p := ⟨Z, 0, none⟩) hZ8 (by show Z ≠ c; omega)).trans Z8, ?_⟩
            have := h1.ok.s.cell hqR
            rw [hbq] at this
            exact this
          clear hRq xq hbq
          refine wpIn_region_L (fun W => W.cell? ⟨K1, 0, none⟩ = some (.slice (some ⟨c, 0, none⟩) m m) ∧ W.cell? ⟨K3, 0, none⟩ = some (.pointer (some ⟨V, 0, none⟩)) ∧ W.cell? ⟨V, 4, none⟩ = some (.slice (some ⟨G, 0, none⟩) f.n f.n) ∧ W.cell? ⟨Z, 0, none⟩ = some (.int .i64 q) ∧ W.cell? ⟨G, q, none⟩ = some (.slice (some ⟨bq, 0, none⟩) m m)) 10 (by kernel_rfl) 10 rfl (by kernel_rfl) (by rintro ⟨_, _, h⟩; exact h) ?_
          refine wpL_take (v := ?_) (oi := { dst := some 48, op := Op.load 61 (Operand.tmp 2), type := 61, pos := "view.go:74", after := #[], guard := none }) (by decide) rfl (by kernel_rfl) (by kernel_rfl) (by kernel_rfl) (by kernel_rfl) (fun _ _ _ h => h) (Or.inl ⟨by rfl, ?_⟩) HS9.out ?_
          rotate_left
          · intro W hSW
            go_simp
            try with_reducible rfl
          simp only [Act.put, List.setIfInBounds_toArray, List.set_cons_zero, List.set_cons_succ]
          refine wpL_take (v := ?_) (oi := { dst := some 49, op := Op.load 55 (Operand.tmp 4), type := 55, pos := "view.go:74", after := #[], guard := none }) (by decide) rfl (by kernel_rfl) (by kernel_rfl) (by kernel_rfl) (by kernel_rfl) (fun _ _ _ h => h) (Or.inl ⟨by rfl, ?_⟩) HS9.out ?_
          rotate_left
          · intro W hSW
            go_simp
            try with_reducible rfl
          simp only [Act.put, List.setIfInBounds_toArray, List.set_cons_zero, List.set_cons_succ]
          refine wpL_take (v := ?_) (oi := { dst := some 50, op := Op.nilCheck (Operand.tmp 49), type := 0, pos := "view.go:74", after := #[{ on := 1, ground := Ground.data }], guard := none }) (by decide) rfl (by kernel_rfl) (by kernel_rfl) (by kernel_rfl) (by kernel_rfl) (fun _ _ _ h => h) (Or.inl ⟨by rfl, ?_⟩) HS9.out ?_
          rotate_left
          · intro W hSW
            go_simp
            try with_reducible rfl
          simp only [Act.put, List.setIfInBounds_toArray, List.set_cons_zero, List.set_cons_succ]
          refine wpL_take (v := ?_) (oi := { dst := some 51, op := Op.fieldAddr 54 (Operand.tmp 50) 2, type := 0, pos := "view.go:74", after := #[{ on := 2, ground := Ground.data }], guard := none }) (by decide) rfl (by kernel_rfl) (by kernel_rfl) (by kernel_rfl) (by kernel_rfl) (fun _ _ _ h => h) (Or.inl ⟨by rfl, ?_⟩) HS9.out ?_
          rotate_left
          · intro W hSW
            go_simp
            try with_reducible rfl
          simp only [Act.put, List.setIfInBounds_toArray, List.set_cons_zero, List.set_cons_succ]
          refine wpL_take (v := ?_) (oi := { dst := some 52, op := Op.load 52 (Operand.tmp 51), type := 52, pos := "view.go:74", after := #[{ on := 3, ground := Ground.data }], guard := none }) (by decide) rfl (by kernel_rfl) (by kernel_rfl) (by kernel_rfl) (by kernel_rfl) (fun _ _ _ h => h) (Or.inl ⟨by rfl, ?_⟩) HS9.out ?_
          rotate_left
          · intro W hSW
            go_simp
            try with_reducible rfl
          simp only [Act.put, List.setIfInBounds_toArray, List.set_cons_zero, List.set_cons_succ]
          refine wpL_take (v := ?_) (oi := { dst := some 53, op := Op.fieldAddr 48 (Operand.tmp 10) 0, type := 0, pos := "view.go:74", after := #[], guard := none }) (by decide) rfl (by kernel_rfl) (by kernel_rfl) (by kernel_rfl) (by kernel_rfl) (fun _ _ _ h => h) (Or.inl ⟨by rfl, ?_⟩) HS9.out ?_
          rotate_left
          · intro W hSW
            go_simp
            try with_reducible rfl
          simp only [Act.put, List.setIfInBounds_toArray, List.set_cons_zero, List.set_cons_succ]
          refine wpL_take (v := ?_) (oi := { dst := some 54, op := Op.load 3 (Operand.tmp 53), type := 3, pos := "view.go:74", after := #[{ on := 5, ground := Ground.data }], guard := none }) (by decide) rfl (by kernel_rfl) (by kernel_rfl) (by kernel_rfl) (by kernel_rfl) (fun _ _ _ h => h) (Or.inl ⟨by rfl, ?_⟩) HS9.out ?_
          rotate_left
          · intro W hSW
            go_simp
            try with_reducible rfl
          simp only [Act.put, List.setIfInBounds_toArray, List.set_cons_zero, List.set_cons_succ]
          refine wpL_take (v := ?_) (oi := { dst := some 55, op := Op.indexAddr 52 (Operand.tmp 52) (Operand.tmp 54), type := 0, pos := "view.go:74", after := #[{ on := 4, ground := Ground.data }, { on := 6, ground := Ground.data }], guard := none }) (by decide) rfl (by kernel_rfl) (by kernel_rfl) (by kernel_rfl) (by kernel_rfl) (fun _ _ _ h => h) (Or.inl ⟨by rfl, ?_⟩) HS9.out ?_
          rotate_left
          · intro W hSW
            go_simp
            try with_reducible rfl
          simp only [Act.put, List.setIfInBounds_toArray, List.set_cons_zero, List.set_cons_succ]
          refine wpL_take (v := ?_) (oi := { dst := some 56, op := Op.load 61 (Operand.tmp 55), type := 61, pos := "view.go:74", after := #[{ on := 7, ground := Ground.data }], guard := none }) (by decide) rfl (by kernel_rfl) (by kernel_rfl) (by kernel_rfl) (by kernel_rfl) (fun _ _ _ h => h) (Or.inl ⟨by rfl, ?_⟩) HS9.out ?_
          rotate_left
          · intro W hSW
            go_simp
            try with_reducible rfl
          simp only [Act.put, List.setIfInBounds_toArray, List.set_cons_zero, List.set_cons_succ]
          refine wpL_one (o := { dst := some 57, op := Op.call { callee := Callee.value (Operand.func 57), args := #[Operand.tmp 48, Operand.tmp 56], argTypes := #[61, 61] }, type := 4, pos := "view.go:74", after := #[{ on := 0, ground := Ground.data }, { on := 8, ground := Ground.data }], guard := none }) (by decide) (by kernel_rfl) rfl (fun K hK => ?_)
          go_simp
          refine HJ9.out.mono ?_
          rintro e w9 ⟨⟨nb9, rfl⟩, h9⟩
          refine hK.out _ _ (fun _ => HS9'.out _ _ _ h9.out.1 h9.out.2) ?_
          clear hK
          refine wpAnyL_done (by kernel_rfl) ?_ _
          have hend := HFIN.out w9 h9.out.1 ((h9.out.2.cell (p := ⟨w.heap.size, 0, none⟩) hz8 (by show w.heap.size ≠ c; omega)).trans c8) ((h9.out.2.frozen (p := ⟨w.heap.size, 0, none⟩) hz8 (by show w.heap.size ≠ c; omega)).trans f8) (B8.trans (h9.out.2.mono (fun k _ hk => Or.inl (Or.inr hk))))
          clear HS9 HS9' HJ9 F8 HFIN
          gi_wp2
          exact hend
  case done =>
    rintro d xs Y hd rfl ⟨O, B, g, k1, k2, k3, k4, k5, k6⟩ hK
    have hFI := k5 (by simp)
    rw [List.length_range] at hFI
    clear k5
    gi_wp2
    have hY := World.block_lt_of_cell? Y _ k2
    simp only at hY
    have hB : Below (w.heap.size + 1) Y (Y.putObj d (.deferred none)) := (Below.refl _ Y).grown (grownBy_putObj' Y d _) (by omega) (fun k e => by cases e; omega)
    have k1' := HKX.out _ _ _ _ k1 (by omega) hB
    have k6' : But (Dk bo c) w (Y.putObj d (.deferred none)) := k6.grown (grownBy_putObj' Y d _) (fun r e => by cases e; omega)
    refine ⟨by simp, .inl ⟨_, _, rfl, run_takeDeferred hK, ?_⟩⟩
    exact ⟨.bool g, by simp [results, Tryd.f54, go_sem], _, _, _, rfl, k1', hFI, k6'⟩
  case stop =>
    rintro d cc pre Y hd _ h
    exact h.elim
end Go.Proofs.YtckbfiigbckmeaaDoor
