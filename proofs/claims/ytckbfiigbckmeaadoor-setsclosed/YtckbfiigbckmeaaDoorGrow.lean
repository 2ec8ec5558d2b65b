/- The law SetsGrow, walked. -/
import Derived.Test.YtckbfiigbckmeaaDoorHeldMore
import Derived.Test.YtckbfiigbckmeaaDoorTells
import Derived.Deep.CutRange
namespace Go.Proofs.YtckbfiigbckmeaaDoor
open Go.RowKit

theorem within_held {P P' : Nat → Int → Prop} {f g : Fl} {v u : Value} {w : World} (hn : f.n ≤ 600) (hP : ∀ s t, P s t → 0 ≤ t ∧ t < ((601 : Nat) : Int)) (hP' : ∀ s t, P' s t → 0 ≤ t ∧ t < ((601 : Nat) : Int)) (hg : g.n = f.n) (h : ∀ s t, P s t → P' s t) (hv : HoldR P f v w) (hu : HoldR P' g u w) :
    Calls Tryd.prog 24 #[v, u] w fun e w' => e = .returned (.bool true) ∧ Below w.heap.size w w' := by
  obtain ⟨A, h1, h2⟩ := hv
  obtain ⟨B, h3, h4⟩ := hu
  rw [hg] at h3
  refine (within_any A B v u w h2 h4 (by rw [h1.1]; omega) (by rw [h3.1]; omega) (fun s => by have := row_le_gives h1 hP s; omega) (fun s => by have := row_le_gives h3 hP' s; omega)).mono ?_
  rintro e w' ⟨rfl, hb⟩
  exact ⟨by rw [within_yes h1 h3 h], hb⟩
theorem slice_of_own3 {W : World} {B n k : Nat} {e : TypeId} {v : Value} {xs : List Value} (h : W.ownsRow B e k v n xs) : ∃ a c, v = .slice a n c := by
  rcases h.2 with ⟨rfl, h'⟩ | ⟨g, c, cur, rfl, _⟩
  · exact ⟨none, 0, by rw [h']⟩
  · exact ⟨_, _, rfl⟩
theorem slice_some {W : World} {B n k : Nat} {e : TypeId} {v : Value} {xs : List Value} (h : W.ownsRow B e k v (n + 1) xs) : ∃ g c, v = .slice (some ⟨g, 0, none⟩) (n + 1) c := by
  rcases h.2 with ⟨_, h'⟩ | ⟨g, c, cur, rfl, _⟩
  · omega
  · exact ⟨_, _, rfl⟩
theorem new_three (W : World) (x y z : Value) (t : TypeId) : ∀ (k : Nat) (u : Value), [x, y, z][k]? = some u → (W.alloc (Obj.cells #[x, y, z] t)).cell? ((⟨W.heap.size, 0, none⟩ : Addr).add k) = some u := by
  intro k u hk
  rw [add_plain]
  match k, hk with
  | 0, hk => simp at hk; subst hk; simp
  | 1, hk => simp at hk; subst hk; simp
  | 2, hk => simp at hk; subst hk; simp
theorem kept_three {W W' : World} {x y z v : Value} {t e : TypeId} {B n : Nat} {xs : List Value} (hg : (W.alloc (Obj.cells #[x, y, z] t)).grownBy W' v.ownBlock) (_ho : (W.alloc (Obj.cells #[x, y, z] t)).ownsRow B e 3 v n xs) (_ : True) (_ : True) (_ : True) (hne : v.ownBlock ≠ some W.heap.size) :
    ∀ (k : Nat) (u : Value), [x, y, z][k]? = some u → W'.cell? ((⟨W.heap.size, 0, none⟩ : Addr).add k) = some u := by
  intro k u hk
  have h1 := new_three W x y z t k u hk
  rw [add_plain] at h1 ⊢
  rw [← h1]
  exact World.cell?_of_block (w := W.alloc (Obj.cells #[x, y, z] t)) (hg.block W.heap.size (by simp) (fun e => hne e.symm))
theorem owns_set {W : World} {B n k G s : Nat} {e : TypeId} {v u : Value} {xs : List Value} (h : W.ownsRow B e k v n xs) (hne : v.ownBlock ≠ some G) : (W.setCell ⟨G, s, none⟩ u).ownsRow B e k v n xs := by
  refine ⟨h.1, ?_⟩
  rcases h.2 with h' | ⟨g, cap, cur, hv, hB, hg, rest⟩
  · exact .inl h'
  · refine .inr ⟨g, cap, cur, hv, hB, ?_, rest⟩
    have : g ≠ G := fun e => hne (by rw [hv, e]; rfl)
    rw [Below.heap_setCell W ⟨G, s, none⟩ u g this]
    exact hg
theorem cell_set_off (W : World) {G s o : Nat} (u : Value) (h : o ≠ s) : (W.setCell ⟨G, s, none⟩ u).cell? ⟨G, o, none⟩ = W.cell? ⟨G, o, none⟩ :=
  World.cell?_setCell_other _ _ _ _ (fun e => h (by cases e; rfl))
theorem cell_set_same (W : World) {G s : Nat} (u : Value) {x : Value} (h : W.cell? ⟨G, s, none⟩ = some x) : (W.setCell ⟨G, s, none⟩ u).cell? ⟨G, s, none⟩ = some u :=
  World.cell?_setCell_same _ _ _ h
theorem info45 : (Tryd.prog.info? 45).map (fun i => (i.zero, i.size, i.bytes)) = some (some (.agg #[.int .i64 0, .slice none 0 0, .int .i64 0]), 3, 40) := by kernel_rfl
theorem below_new2 (w : World) (o : Obj) : Below w.heap.size w (w.alloc o) := (Below.refl _ _).alloc (Nat.le_refl _) _

set_option maxRecDepth 100000 in
set_option maxHeartbeats 6400000 in
theorem grow_any (hO : SetsOk) (hW : AwakeOk) (f : Fl) (a : FlA) (p : Pr) (u : Value) (w : World) (hf : FlAt f a w) (hu : SlT p.right u w) (hp : i64B p.left ∧ i64B p.prec) (hT : Tb w) :
    Calls Tryd.prog 5 #[a.val f, .agg #[.int .i64 p.left, u, .int .i64 p.prec]] w fun e w' => e = .returned (.bool true) ∧ Below w.heap.size w w' := by
  have hfew := fun W (hb : Below w.heap.size w W) => few_any f a W (hf.next hb)
  have hff := fun W (hb : Below w.heap.size w W) => hf.next hb
  obtain ⟨ta, tc, na, nc, pa, pc⟩ := a
  obtain ⟨ra, rc, rfl, _⟩ := id hu
  unfold FlA.val at hfew ⊢
  simp only at hfew ⊢
  have HFW : Hid (∀ W, Below w.heap.size w W → Calls Tryd.prog 7 #[.agg #[.slice ta f.terms.length tc, .slice na f.nons.length nc, .slice pa f.prods.length pc]] W fun e w' => e = .returned (.bool (fewB f)) ∧ Below W.heap.size W w') := hfew
  have HFF : Hid (∀ W, Below w.heap.size w W → FlAt f ⟨ta, tc, na, nc, pa, pc⟩ W) := hff
  have HAW : Hid (∀ W, Below w.heap.size w W → Calls Tryd.prog 8 #[] W fun e w' => e = .returned (.bool true) ∧ Below W.heap.size W w') := fun W hb => hW W (hT.next hb)
  have HTB : Hid (∀ W, Below w.heap.size w W → Tb W) := fun W hb => hT.next hb
  have HOK : Hid SetsOk := hO
  have HU : Hid (SlT p.right (.slice ra p.right.length rc) w) := hu
  clear hfew hff hW hO hf hu hT
  have B0 : Below w.heap.size w ((w.alloc (Obj.cells #[Value.slice ta f.terms.length tc, Value.slice na f.nons.length nc, Value.slice pa f.prods.length pc] 25)).alloc (Obj.cells #[Value.int IntKind.i64 p.left, Value.slice ra p.right.length rc, Value.int IntKind.i64 p.prec] 45)) := ((Below.refl _ _).alloc (Nat.le_refl _) _).alloc (by simp) _
  have X0 : FBox f ⟨ta, tc, na, nc, pa, pc⟩ w.heap.size ((w.alloc (Obj.cells #[Value.slice ta f.terms.length tc, Value.slice na f.nons.length nc, Value.slice pa f.prods.length pc] 25)).alloc (Obj.cells #[Value.int IntKind.i64 p.left, Value.slice ra p.right.length rc, Value.int IntKind.i64 p.prec] 45)) := (FBox.new f ⟨ta, tc, na, nc, pa, pc⟩ 25 w).next (below_new2 _ _)
  have E0 : (((w.alloc (Obj.cells #[Value.slice ta f.terms.length tc, Value.slice na f.nons.length nc, Value.slice pa f.prods.length pc] 25)).alloc (Obj.cells #[Value.int IntKind.i64 p.left, Value.slice ra p.right.length rc, Value.int IntKind.i64 p.prec] 45)).cell? ⟨w.heap.size + 1, 0, none⟩ = some (.int .i64 p.left) ∧ ((w.alloc (Obj.cells #[Value.slice ta f.terms.length tc, Value.slice na f.nons.length nc, Value.slice pa f.prods.length pc] 25)).alloc (Obj.cells #[Value.int IntKind.i64 p.left, Value.slice ra p.right.length rc, Value.int IntKind.i64 p.prec] 45)).cell? ⟨w.heap.size + 1, 1, none⟩ = some (.slice ra p.right.length rc) ∧ ((w.alloc (Obj.cells #[Value.slice ta f.terms.length tc, Value.slice na f.nons.length nc, Value.slice pa f.prods.length pc] 25)).alloc (Obj.cells #[Value.int IntKind.i64 p.left, Value.slice ra p.right.length rc, Value.int IntKind.i64 p.prec] 45)).cell? ⟨w.heap.size + 1, 2, none⟩ = some (.int .i64 p.prec)) ∧ w.heap.size + 1 < ((w.alloc (Obj.cells #[Value.slice ta f.terms.length tc, Value.slice na f.nons.length nc, Value.slice pa f.prods.length pc] 25)).alloc (Obj.cells #[Value.int IntKind.i64 p.left, Value.slice ra p.right.length rc, Value.int IntKind.i64 p.prec] 45)).heap.size := by
    rw [show w.heap.size + 1 = (w.alloc (Obj.cells #[Value.slice ta f.terms.length tc, Value.slice na f.nons.length nc, Value.slice pa f.prods.length pc] 25)).heap.size by simp]
    refine ⟨⟨?_, ?_, ?_⟩, ?_⟩ <;> simp
  go_enter Tryd.func5, Tryd.ntmps5
  go_wp2_with fail
  generalize (w.alloc (Obj.cells #[Value.slice ta f.terms.length tc, Value.slice na f.nons.length nc, Value.slice pa f.prods.length pc] 25)).alloc (Obj.cells #[Value.int IntKind.i64 p.left, Value.slice ra p.right.length rc, Value.int IntKind.i64 p.prec] 45) = w0 at *
  refine (HFW.out _ B0).mono ?_
  rintro e w1 ⟨rfl, hb1⟩
  have X1 := X0.next hb1
  have B1 := below_then B0 hb1 B0.size
  obtain ⟨⟨e0, e1, e2⟩, e3⟩ := E0
  replace e0 := (hb1.cell (p := ⟨w.heap.size + 1, 0, none⟩) e3).trans e0
  replace e1 := (hb1.cell (p := ⟨w.heap.size + 1, 1, none⟩) e3).trans e1
  replace e2 := (hb1.cell (p := ⟨w.heap.size + 1, 2, none⟩) e3).trans e2
  have e4 := Nat.lt_of_lt_of_le e3 hb1.size
  clear X0 B0 hb1 HFW e3
  cases hfw : fewB f with
  | false =>
    clear hfw X1
    go_wp2_with fail
    refine (HAW.out _ B1).mono ?_
    rintro e w2 ⟨rfl, hb2⟩
    go_wp2_with fail
    go_ret
    exact ⟨rfl, below_then B1 hb2 B1.size⟩
  | true =>
  have HFP : Hid (FitP f ∧ f.terms.length + f.nons.length ≤ 80 ∧ f.prods.length ≤ 100) := few_facts hfw
  clear hfw
  by_cases g1 : 64 < p.right.length
  · clear X1
    go_wp2_with fail
    refine (HAW.out _ B1).mono ?_
    rintro e w2 ⟨rfl, hb2⟩
    go_wp2_with fail
    go_ret
    exact ⟨rfl, below_then B1 hb2 B1.size⟩
  obtain ⟨x1, d0, d1, d2⟩ := id X1
  simp only at d0 d1 d2
  obtain ⟨i0, hi0, hz0, hz1, hz2⟩ := info_parts info45
  obtain ⟨cs, hcs, hcell⟩ := prs_cells (HFF.out w (Below.refl _ _)).2.2.1
  have hpcn := (HFF.out w (Below.refl _ _)).2.2.2.2.2.2.2
  simp only at hpcn hcell
  go_upto_region 4 with fail
  have hc2 := below_new2 w1 (Obj.cells #[Value.slice ta f.terms.length tc, Value.slice na f.nons.length nc, Value.slice pa f.prods.length pc] 25)
  have hG0 : (w1.alloc (Obj.cells #[Value.slice ta f.terms.length tc, Value.slice na f.nons.length nc, Value.slice pa f.prods.length pc] 25)).cell? ⟨w1.heap.size, 0, none⟩ = some (.slice ta f.terms.length tc) ∧ (w1.alloc (Obj.cells #[Value.slice ta f.terms.length tc, Value.slice na f.nons.length nc, Value.slice pa f.prods.length pc] 25)).cell? ⟨w1.heap.size, 1, none⟩ = some (.slice na f.nons.length nc) ∧ (w1.alloc (Obj.cells #[Value.slice ta f.terms.length tc, Value.slice na f.nons.length nc, Value.slice pa f.prods.length pc] 25)).cell? ⟨w1.heap.size, 2, none⟩ = some (.slice pa f.prods.length pc) ∧ (w1.alloc (Obj.cells #[Value.slice ta f.terms.length tc, Value.slice na f.nons.length nc, Value.slice pa f.prods.length pc] 25)).frozen? ⟨w1.heap.size, 2, none⟩ = false ∧ w1.heap.size < (w1.alloc (Obj.cells #[Value.slice ta f.terms.length tc, Value.slice na f.nons.length nc, Value.slice pa f.prods.length pc] 25)).heap.size := by refine ⟨?_, ?_, ?_, ?_, ?_⟩ <;> simp
  generalize w1.alloc (Obj.cells #[Value.slice ta f.terms.length tc, Value.slice na f.nons.length nc, Value.slice pa f.prods.length pc] 25) = w2 at *
  have B2 := below_then B1 hc2 B1.size
  have hpre : w.heap.size < w1.heap.size := x1
  have HS0 : Hid (w2.drew.cell? ⟨w.heap.size, 2, none⟩ = some (.slice pa f.prods.length pc) ∧ w2.drew.cell? ⟨w.heap.size + 1, 0, none⟩ = some (.int .i64 p.left) ∧ w2.drew.cell? ⟨w.heap.size + 1, 1, none⟩ = some (.slice ra p.right.length rc) ∧ w2.drew.cell? ⟨w.heap.size + 1, 2, none⟩ = some (.int .i64 p.prec) ∧ Below w2.heap.size w2 w2.drew) := ⟨(hc2.cell (p := ⟨w.heap.size, 2, none⟩) x1).trans d2, (hc2.cell (p := ⟨w.heap.size + 1, 0, none⟩) e4).trans e0, (hc2.cell (p := ⟨w.heap.size + 1, 1, none⟩) e4).trans e1, (hc2.cell (p := ⟨w.heap.size + 1, 2, none⟩) e4).trans e2, (Below.refl _ _).drew⟩
  have hsz2 := hc2.size
  have hkeep : ∀ W W', W.cell? ⟨w.heap.size, 2, none⟩ = some (.slice pa f.prods.length pc) ∧ W.cell? ⟨w.heap.size + 1, 0, none⟩ = some (.int .i64 p.left) ∧ W.cell? ⟨w.heap.size + 1, 1, none⟩ = some (.slice ra p.right.length rc) ∧ W.cell? ⟨w.heap.size + 1, 2, none⟩ = some (.int .i64 p.prec) ∧ Below w2.heap.size w2 W → Below W.heap.size W W' → W'.cell? ⟨w.heap.size, 2, none⟩ = some (.slice pa f.prods.length pc) ∧ W'.cell? ⟨w.heap.size + 1, 0, none⟩ = some (.int .i64 p.left) ∧ W'.cell? ⟨w.heap.size + 1, 1, none⟩ = some (.slice ra p.right.length rc) ∧ W'.cell? ⟨w.heap.size + 1, 2, none⟩ = some (.int .i64 p.prec) ∧ Below w2.heap.size w2 W' := by
    rintro W W' ⟨y0, y1, y2, y3, hbW⟩ hb'
    have hz := hbW.size
    exact ⟨(hb'.cell (p := ⟨w.heap.size, 2, none⟩) (by show w.heap.size < _; omega)).trans y0, (hb'.cell (p := ⟨w.heap.size + 1, 0, none⟩) (by show w.heap.size + 1 < _; omega)).trans y1, (hb'.cell (p := ⟨w.heap.size + 1, 1, none⟩) (by show w.heap.size + 1 < _; omega)).trans y2, (hb'.cell (p := ⟨w.heap.size + 1, 2, none⟩) (by show w.heap.size + 1 < _; omega)).trans y3, below_then hbW hb' hz⟩
  obtain ⟨g0, g1', g2, g3, g4⟩ := hG0
  have hlen : f.prods.length ≤ 100 := HFP.out.2.2
  have hpn : pa = none → f.prods.length = 0 ∧ pc = 0 := fun h => by
    refine ⟨?_, hpcn h⟩
    have h1 := (HFF.out w (Below.refl _ _)).2.2.1
    simp only at h1
    rw [h] at h1
    cases hf : f.prods with
    | nil => rfl
    | cons q qs =>
      rw [hf] at h1
      obtain ⟨_, _, _, h2, _⟩ := h1 0 q rfl
      cases h2
  have hcl : ∀ W, W.cell? ⟨w.heap.size, 2, none⟩ = some (.slice pa f.prods.length pc) ∧ W.cell? ⟨w.heap.size + 1, 0, none⟩ = some (.int .i64 p.left) ∧ W.cell? ⟨w.heap.size + 1, 1, none⟩ = some (.slice ra p.right.length rc) ∧ W.cell? ⟨w.heap.size + 1, 2, none⟩ = some (.int .i64 p.prec) ∧ Below w2.heap.size w2 W → ∀ ad, pa = some ad → ∀ j u, cs[j]? = some u → W.cell? (ad.add j) = some u := by
    intro W hS ad had j u hj
    have h1 := hcell ad had j u hj
    have hb := below_then B2 hS.2.2.2.2 B2.size
    rw [← h1]
    exact hb.cell (World.block_lt_of_cell? _ _ h1)
  have hgrow : ∀ W W' v {n : Nat} {xs : List Value}, W.cell? ⟨w.heap.size, 2, none⟩ = some (.slice pa f.prods.length pc) ∧ W.cell? ⟨w.heap.size + 1, 0, none⟩ = some (.int .i64 p.left) ∧ W.cell? ⟨w.heap.size + 1, 1, none⟩ = some (.slice ra p.right.length rc) ∧ W.cell? ⟨w.heap.size + 1, 2, none⟩ = some (.int .i64 p.prec) ∧ Below w2.heap.size w2 W → W.ownsRow w2.heap.size 45 3 v n xs → W.grownBy W' v.ownBlock → W'.cell? ⟨w.heap.size, 2, none⟩ = some (.slice pa f.prods.length pc) ∧ W'.cell? ⟨w.heap.size + 1, 0, none⟩ = some (.int .i64 p.left) ∧ W'.cell? ⟨w.heap.size + 1, 1, none⟩ = some (.slice ra p.right.length rc) ∧ W'.cell? ⟨w.heap.size + 1, 2, none⟩ = some (.int .i64 p.prec) ∧ Below w2.heap.size w2 W' := by
    intro W W' v n xs hS ho hg
    obtain ⟨y0, y1, y2, y3, hbW⟩ := hS
    have hB : Below w2.heap.size w2 W' := hbW.grown hg hbW.size (fun k e => (World.ownsRow.lt ho k e).1)
    have hB2 := hc2.trans (hB.mono hsz2)
    exact ⟨(hB2.cell (p := ⟨w.heap.size, 2, none⟩) x1).trans d2, (hB2.cell (p := ⟨w.heap.size + 1, 0, none⟩) e4).trans e0, (hB2.cell (p := ⟨w.heap.size + 1, 1, none⟩) e4).trans e1, (hB2.cell (p := ⟨w.heap.size + 1, 2, none⟩) e4).trans e2, hB⟩
  go_cut [] from 17 to 24 (fun wx => ∃ ga gc W', wx = World.setCell W' ⟨w1.heap.size, 2, none⟩ (.slice (some ⟨ga, 0, none⟩) (f.prods.length + 1) gc) ∧ Below w2.heap.size w2 W' ∧ W'.ownsRow w2.heap.size 45 3 (.slice (some ⟨ga, 0, none⟩) (f.prods.length + 1) gc) (f.prods.length + 1) (cs ++ [.int .i64 p.left, .slice ra p.right.length rc, .int .i64 p.prec]))
  case first =>
    refine wp_region_L (fun W => W.cell? ⟨w.heap.size, 2, none⟩ = some (.slice pa f.prods.length pc) ∧ W.cell? ⟨w.heap.size + 1, 0, none⟩ = some (.int .i64 p.left) ∧ W.cell? ⟨w.heap.size + 1, 1, none⟩ = some (.slice ra p.right.length rc) ∧ W.cell? ⟨w.heap.size + 1, 2, none⟩ = some (.int .i64 p.prec) ∧ Below w2.heap.size w2 W) 7 (by kernel_rfl) 9 rfl ?_
    refine wpAnyL_take' (i := 1) (v := ?_) (oi := { dst := some 18, op := Op.fieldAddr 25 (Operand.tmp 2) 2, type := 0, pos := "law.go:81", after := #[], guard := none }) rfl (by kernel_rfl) (by kernel_rfl) (by kernel_rfl) (by kernel_rfl) rfl (fun _ _ _ h => h) (Or.inl ⟨by rfl, ?_⟩) HS0.out ?_
    rotate_left
    · intro W hSW
      go_simp
      try with_reducible rfl
    simp only [Act.put, List.setIfInBounds_toArray, List.set_cons_zero, List.set_cons_succ]
    refine wpAnyL_take' (i := 2) (v := ?_) (oi := { dst := some 19, op := Op.load 23 (Operand.tmp 18), type := 23, pos := "law.go:81", after := #[{ on := 1, ground := Ground.data }], guard := none }) rfl (by kernel_rfl) (by kernel_rfl) (by kernel_rfl) (by kernel_rfl) rfl (fun _ _ _ h => h) (Or.inl ⟨by rfl, ?_⟩) HS0.out ?_
    rotate_left
    · intro W hSW
      go_simp
      try with_reducible rfl
    simp only [Act.put, List.setIfInBounds_toArray, List.set_cons_zero, List.set_cons_succ]
    refine wpAnyL_take' (i := 4) (v := ?_) (oi := { dst := some 21, op := Op.load 45 (Operand.tmp 3), type := 45, pos := "law.go:81", after := #[], guard := none }) rfl (by kernel_rfl) (by kernel_rfl) (by kernel_rfl) (by kernel_rfl) rfl (fun _ _ _ h => h) (Or.inl ⟨by rfl, ?_⟩) HS0.out ?_
    rotate_left
    · intro W hSW
      go_simp
      try with_reducible rfl
    simp only [Act.put, List.setIfInBounds_toArray, List.set_cons_zero, List.set_cons_succ]
    refine wpAnyL_two (i := 0) (j := 5) (oi := { dst := some 17, op := Op.buildSlice 23 0 #[], type := 23, pos := "law.go:81", after := #[], guard := none }) (oj := { dst := some 22, op := Op.buildSlice 23 1 #[(0, Operand.tmp 21)], type := 23, pos := "law.go:81", after := #[{ on := 4, ground := Ground.data }], guard := none }) (by kernel_rfl) rfl rfl rfl rfl (fun K hK => ?_) (fun K hK => ?_)
    · skip
      go_simp
      have own0 : (w2.drew.alloc (Obj.cells #[] 45)).ownsRow w2.heap.size 45 3 (.slice (some ⟨w2.drew.heap.size, 0, none⟩) 0 0) 0 [] := World.ownsRow_lit w2.drew #[] 0 (HS0.out.2.2.2.2.size) (by unfold maxLen; omega) rfl
      have hSa : (w2.drew.alloc (Obj.cells #[] 45)).cell? ⟨w.heap.size, 2, none⟩ = some (.slice pa f.prods.length pc) ∧ (w2.drew.alloc (Obj.cells #[] 45)).cell? ⟨w.heap.size + 1, 0, none⟩ = some (.int .i64 p.left) ∧ (w2.drew.alloc (Obj.cells #[] 45)).cell? ⟨w.heap.size + 1, 1, none⟩ = some (.slice ra p.right.length rc) ∧ (w2.drew.alloc (Obj.cells #[] 45)).cell? ⟨w.heap.size + 1, 2, none⟩ = some (.int .i64 p.prec) ∧ Below w2.heap.size w2 (w2.drew.alloc (Obj.cells #[] 45)) := hkeep _ _ HS0.out (below_new2 _ _)
      refine hK.out _ _ (fun _ => hSa) ?_
      refine wpAnyL_two (i := 3) (j := 5) (oi := { dst := some 20, op := Op.call { callee := Callee.builtin Builtin.append, args := #[Operand.tmp 17, Operand.tmp 19], argTypes := #[23, 23] }, type := 23, pos := "law.go:81", after := #[{ on := 0, ground := Ground.data }, { on := 2, ground := Ground.data }], guard := none }) (oj := { dst := some 22, op := Op.buildSlice 23 1 #[(0, Operand.tmp 21)], type := 23, pos := "law.go:81", after := #[{ on := 4, ground := Ground.data }], guard := none }) (by kernel_rfl) rfl rfl rfl rfl (fun K hK => ?_) (fun K hK => ?_)
      · skip
        rw [if_pos (by rfl)]
        refine wp_append_any (.tmp 17) (.tmp 19) 23 rfl w2.heap.size 45 i0 _ 3 40 Tryd.underlying23 hi0 hz0 hz1 hz2 rfl (by decide) (.slice (some ⟨w2.heap.size, 0, none⟩) 0 0) 0 [] rfl own0 pa f.prods.length pc cs rfl hpn hcs.1 (hcl _ hSa) hcs.2.1 (by unfold maxLen; omega) (by omega) hSa.2.2.2.2.size ?_
        intro v3 w3 own3 hg
        have hSb : w3.cell? ⟨w.heap.size, 2, none⟩ = some (.slice pa f.prods.length pc) ∧ w3.cell? ⟨w.heap.size + 1, 0, none⟩ = some (.int .i64 p.left) ∧ w3.cell? ⟨w.heap.size + 1, 1, none⟩ = some (.slice ra p.right.length rc) ∧ w3.cell? ⟨w.heap.size + 1, 2, none⟩ = some (.int .i64 p.prec) ∧ Below w2.heap.size w2 w3 := hgrow _ _ _ hSa own0 hg
        rw [Nat.zero_add, List.nil_append] at own3
        obtain ⟨a1, c1, rfl⟩ := slice_of_own3 own3
        refine hK.out _ _ (fun _ => hSb) ?_
        simp only [Act.put, List.setIfInBounds_toArray, List.set_cons_zero, List.set_cons_succ]
        refine wpAnyL_one' (i := 5) (o := { dst := some 22, op := Op.buildSlice 23 1 #[(0, Operand.tmp 21)], type := 23, pos := "law.go:81", after := #[{ on := 4, ground := Ground.data }], guard := none }) (by kernel_rfl) rfl rfl (fun K hK => ?_)
        go_simp
        have hSc : (w3.alloc (Obj.cells #[Value.int IntKind.i64 p.left, Value.slice ra p.right.length rc, Value.int IntKind.i64 p.prec] 45)).cell? ⟨w.heap.size, 2, none⟩ = some (.slice pa f.prods.length pc) ∧ (w3.alloc (Obj.cells #[Value.int IntKind.i64 p.left, Value.slice ra p.right.length rc, Value.int IntKind.i64 p.prec] 45)).cell? ⟨w.heap.size + 1, 0, none⟩ = some (.int .i64 p.left) ∧ (w3.alloc (Obj.cells #[Value.int IntKind.i64 p.left, Value.slice ra p.right.length rc, Value.int IntKind.i64 p.prec] 45)).cell? ⟨w.heap.size + 1, 1, none⟩ = some (.slice ra p.right.length rc) ∧ (w3.alloc (Obj.cells #[Value.int IntKind.i64 p.left, Value.slice ra p.right.length rc, Value.int IntKind.i64 p.prec] 45)).cell? ⟨w.heap.size + 1, 2, none⟩ = some (.int .i64 p.prec) ∧ Below w2.heap.size w2 (w3.alloc (Obj.cells #[Value.int IntKind.i64 p.left, Value.slice ra p.right.length rc, Value.int IntKind.i64 p.prec] 45)) := hkeep _ _ hSb (below_new2 _ _)
        refine hK.out _ _ (fun _ => hSc) ?_
        refine wpAnyL_one' (i := 6) (o := { dst := some 23, op := Op.call { callee := Callee.builtin Builtin.append, args := #[Operand.tmp 20, Operand.tmp 22], argTypes := #[23, 23] }, type := 23, pos := "law.go:81", after := #[{ on := 3, ground := Ground.data }, { on := 5, ground := Ground.data }, { on := 3, ground := Ground.chain }], guard := none }) (by kernel_rfl) rfl rfl (fun K hK => ?_)
        rw [if_pos (by rfl)]
        refine wp_append_any (.tmp 20) (.tmp 22) 23 rfl w2.heap.size 45 i0 _ 3 40 Tryd.underlying23 hi0 hz0 hz1 hz2 rfl (by decide) _ f.prods.length cs rfl (World.ownsRow.alloc own3 _) (some ⟨w3.heap.size, 0, none⟩) 1 1 [.int .i64 p.left, .slice ra p.right.length rc, .int .i64 p.prec] rfl (fun h => by cases h) rfl (fun ad had => by cases had; exact new_three _ _ _ _ _) (by intro u hu; simp at hu; rcases hu with rfl | rfl | rfl <;> rfl) (by unfold maxLen; omega) (by omega) hSc.2.2.2.2.size ?_
        intro v6 w6 own6 hg6
        have hS6 : w6.cell? ⟨w.heap.size, 2, none⟩ = some (.slice pa f.prods.length pc) ∧ w6.cell? ⟨w.heap.size + 1, 0, none⟩ = some (.int .i64 p.left) ∧ w6.cell? ⟨w.heap.size + 1, 1, none⟩ = some (.slice ra p.right.length rc) ∧ w6.cell? ⟨w.heap.size + 1, 2, none⟩ = some (.int .i64 p.prec) ∧ Below w2.heap.size w2 w6 := hgrow _ _ _ hSc (World.ownsRow.alloc own3 _) hg6
        obtain ⟨ga, gc, rfl⟩ := slice_some own6
        refine hK.out _ _ (fun _ => hS6) ?_
        simp only [Act.put, List.setIfInBounds_toArray, List.set_cons_zero, List.set_cons_succ]
        have q2 := (hS6.2.2.2.2.cell (p := ⟨w1.heap.size, 2, none⟩) g4).trans g2
        have q3 := (hS6.2.2.2.2.frozen (p := ⟨w1.heap.size, 2, none⟩) g4).trans g3
        have HF6 : Hid (w6.ownsRow w2.heap.size 45 3 (.slice (some ⟨ga, 0, none⟩) (f.prods.length + 1) gc) (f.prods.length + 1) (cs ++ [.int .i64 p.left, .slice ra p.right.length rc, .int .i64 p.prec]) ∧ Below w2.heap.size w2 w6) := ⟨own6, hS6.2.2.2.2⟩
        refine wpAnyL_one' (i := 7) (o := { dst := some 24, op := Op.fieldAddr 25 (Operand.tmp 5) 2, type := 0, pos := "law.go:81", after := #[{ on := 0, ground := Ground.phase }, { on := 1, ground := Ground.phase }, { on := 2, ground := Ground.phase }, { on := 3, ground := Ground.phase }, { on := 4, ground := Ground.phase }, { on := 5, ground := Ground.phase }, { on := 6, ground := Ground.phase }], guard := none }) (by kernel_rfl) rfl rfl (fun K2 hK2 => ?_)
        go_simp
        refine hK2.out _ _ (fun h => absurd h (by decide)) ?_
        refine wpAnyL_one' (i := 8) (o := { dst := none, op := Op.store 23 (Operand.tmp 24) (Operand.tmp 23), type := 0, pos := "law.go:81", after := #[{ on := 7, ground := Ground.data }, { on := 6, ground := Ground.data }, { on := 6, ground := Ground.chain }, { on := 0, ground := Ground.phase }, { on := 1, ground := Ground.phase }, { on := 2, ground := Ground.phase }, { on := 3, ground := Ground.phase }, { on := 4, ground := Ground.phase }, { on := 5, ground := Ground.phase }, { on := 6, ground := Ground.phase }], guard := none }) (by kernel_rfl) rfl rfl (fun K3 hK3 => ?_)
        go_simp
        refine hK3.out _ _ (fun h => absurd h (by decide)) ?_
        refine wpAnyL_done (by kernel_rfl) ?_ _
        go_wp2_with fail
        go_meet
        exact ⟨ga, gc, w6, rfl, HF6.out.2, HF6.out.1⟩
      · skip
        go_simp
        have hSb : ((w2.drew.alloc (Obj.cells #[] 45)).alloc (Obj.cells #[Value.int IntKind.i64 p.left, Value.slice ra p.right.length rc, Value.int IntKind.i64 p.prec] 45)).cell? ⟨w.heap.size, 2, none⟩ = some (.slice pa f.prods.length pc) ∧ ((w2.drew.alloc (Obj.cells #[] 45)).alloc (Obj.cells #[Value.int IntKind.i64 p.left, Value.slice ra p.right.length rc, Value.int IntKind.i64 p.prec] 45)).cell? ⟨w.heap.size + 1, 0, none⟩ = some (.int .i64 p.left) ∧ ((w2.drew.alloc (Obj.cells #[] 45)).alloc (Obj.cells #[Value.int IntKind.i64 p.left, Value.slice ra p.right.length rc, Value.int IntKind.i64 p.prec] 45)).cell? ⟨w.heap.size + 1, 1, none⟩ = some (.slice ra p.right.length rc) ∧ ((w2.drew.alloc (Obj.cells #[] 45)).alloc (Obj.cells #[Value.int IntKind.i64 p.left, Value.slice ra p.right.length rc, Value.int IntKind.i64 p.prec] 45)).cell? ⟨w.heap.size + 1, 2, none⟩ = some (.int .i64 p.prec) ∧ Below w2.heap.size w2 ((w2.drew.alloc (Obj.cells #[] 45)).alloc (Obj.cells #[Value.int IntKind.i64 p.left, Value.slice ra p.right.length rc, Value.int IntKind.i64 p.prec] 45)) := hkeep _ _ hSa (below_new2 _ _)
        refine hK.out _ _ (fun _ => hSb) ?_
        refine wpAnyL_one' (i := 3) (o := { dst := some 20, op := Op.call { callee := Callee.builtin Builtin.append, args := #[Operand.tmp 17, Operand.tmp 19], argTypes := #[23, 23] }, type := 23, pos := "law.go:81", after := #[{ on := 0, ground := Ground.data }, { on := 2, ground := Ground.data }], guard := none }) (by kernel_rfl) rfl rfl (fun K hK => ?_)
        rw [if_pos (by rfl)]
        refine wp_append_any (.tmp 17) (.tmp 19) 23 rfl w2.heap.size 45 i0 _ 3 40 Tryd.underlying23 hi0 hz0 hz1 hz2 rfl (by decide) (.slice (some ⟨w2.heap.size, 0, none⟩) 0 0) 0 [] rfl (World.ownsRow.alloc own0 _) pa f.prods.length pc cs rfl hpn hcs.1 (hcl _ hSb) hcs.2.1 (by unfold maxLen; omega) (by omega) hSb.2.2.2.2.size ?_
        intro v3 w3 own3 hg
        have hSc : w3.cell? ⟨w.heap.size, 2, none⟩ = some (.slice pa f.prods.length pc) ∧ w3.cell? ⟨w.heap.size + 1, 0, none⟩ = some (.int .i64 p.left) ∧ w3.cell? ⟨w.heap.size + 1, 1, none⟩ = some (.slice ra p.right.length rc) ∧ w3.cell? ⟨w.heap.size + 1, 2, none⟩ = some (.int .i64 p.prec) ∧ Below w2.heap.size w2 w3 := hgrow _ _ _ hSb (World.ownsRow.alloc own0 _) hg
        rw [Nat.zero_add, List.nil_append] at own3
        obtain ⟨a1, c1, rfl⟩ := slice_of_own3 own3
        refine hK.out _ _ (fun _ => hSc) ?_
        simp only [Act.put, List.setIfInBounds_toArray, List.set_cons_zero, List.set_cons_succ]
        have hnw : ∀ j u, ([.int .i64 p.left, .slice ra p.right.length rc, .int .i64 p.prec] : List Value)[j]? = some u → w3.cell? ((⟨w2.heap.size + 1, 0, none⟩ : Addr).add j) = some u := by
          have hk3 := kept_three (W := w2.drew.alloc (Obj.cells #[] 45)) hg (World.ownsRow.alloc own0 _) trivial trivial trivial (by simp [Value.ownBlock])
          have hs3 : (w2.drew.alloc (Obj.cells #[] 45)).heap.size = w2.heap.size + 1 := by simp
          rw [hs3] at hk3
          exact hk3
        refine wpAnyL_one' (i := 6) (o := { dst := some 23, op := Op.call { callee := Callee.builtin Builtin.append, args := #[Operand.tmp 20, Operand.tmp 22], argTypes := #[23, 23] }, type := 23, pos := "law.go:81", after := #[{ on := 3, ground := Ground.data }, { on := 5, ground := Ground.data }, { on := 3, ground := Ground.chain }], guard := none }) (by kernel_rfl) rfl rfl (fun K hK => ?_)
        rw [if_pos (by rfl)]
        refine wp_append_any (.tmp 20) (.tmp 22) 23 rfl w2.heap.size 45 i0 _ 3 40 Tryd.underlying23 hi0 hz0 hz1 hz2 rfl (by decide) _ f.prods.length cs rfl own3 (some ⟨w2.heap.size + 1, 0, none⟩) 1 1 [.int .i64 p.left, .slice ra p.right.length rc, .int .i64 p.prec] rfl (fun h => by cases h) rfl (fun ad had => by cases had; exact hnw) (by intro u hu; simp at hu; rcases hu with rfl | rfl | rfl <;> rfl) (by unfold maxLen; omega) (by omega) hSc.2.2.2.2.size ?_
        intro v6 w6 own6 hg6
        have hS6 : w6.cell? ⟨w.heap.size, 2, none⟩ = some (.slice pa f.prods.length pc) ∧ w6.cell? ⟨w.heap.size + 1, 0, none⟩ = some (.int .i64 p.left) ∧ w6.cell? ⟨w.heap.size + 1, 1, none⟩ = some (.slice ra p.right.length rc) ∧ w6.cell? ⟨w.heap.size + 1, 2, none⟩ = some (.int .i64 p.prec) ∧ Below w2.heap.size w2 w6 := hgrow _ _ _ hSc own3 hg6
        obtain ⟨ga, gc, rfl⟩ := slice_some own6
        refine hK.out _ _ (fun _ => hS6) ?_
        simp only [Act.put, List.setIfInBounds_toArray, List.set_cons_zero, List.set_cons_succ]
        have q2 := (hS6.2.2.2.2.cell (p := ⟨w1.heap.size, 2, none⟩) g4).trans g2
        have q3 := (hS6.2.2.2.2.frozen (p := ⟨w1.heap.size, 2, none⟩) g4).trans g3
        have HF6 : Hid (w6.ownsRow w2.heap.size 45 3 (.slice (some ⟨ga, 0, none⟩) (f.prods.length + 1) gc) (f.prods.length + 1) (cs ++ [.int .i64 p.left, .slice ra p.right.length rc, .int .i64 p.prec]) ∧ Below w2.heap.size w2 w6) := ⟨own6, hS6.2.2.2.2⟩
        refine wpAnyL_one' (i := 7) (o := { dst := some 24, op := Op.fieldAddr 25 (Operand.tmp 5) 2, type := 0, pos := "law.go:81", after := #[{ on := 0, ground := Ground.phase }, { on := 1, ground := Ground.phase }, { on := 2, ground := Ground.phase }, { on := 3, ground := Ground.phase }, { on := 4, ground := Ground.phase }, { on := 5, ground := Ground.phase }, { on := 6, ground := Ground.phase }], guard := none }) (by kernel_rfl) rfl rfl (fun K2 hK2 => ?_)
        go_simp
        refine hK2.out _ _ (fun h => absurd h (by decide)) ?_
        refine wpAnyL_one' (i := 8) (o := { dst := none, op := Op.store 23 (Operand.tmp 24) (Operand.tmp 23), type := 0, pos := "law.go:81", after := #[{ on := 7, ground := Ground.data }, { on := 6, ground := Ground.data }, { on := 6, ground := Ground.chain }, { on := 0, ground := Ground.phase }, { on := 1, ground := Ground.phase }, { on := 2, ground := Ground.phase }, { on := 3, ground := Ground.phase }, { on := 4, ground := Ground.phase }, { on := 5, ground := Ground.phase }, { on := 6, ground := Ground.phase }], guard := none }) (by kernel_rfl) rfl rfl (fun K3 hK3 => ?_)
        go_simp
        refine hK3.out _ _ (fun h => absurd h (by decide)) ?_
        refine wpAnyL_done (by kernel_rfl) ?_ _
        go_wp2_with fail
        go_meet
        exact ⟨ga, gc, w6, rfl, HF6.out.2, HF6.out.1⟩
    · skip
      go_simp
      have hSa : (w2.drew.alloc (Obj.cells #[Value.int IntKind.i64 p.left, Value.slice ra p.right.length rc, Value.int IntKind.i64 p.prec] 45)).cell? ⟨w.heap.size, 2, none⟩ = some (.slice pa f.prods.length pc) ∧ (w2.drew.alloc (Obj.cells #[Value.int IntKind.i64 p.left, Value.slice ra p.right.length rc, Value.int IntKind.i64 p.prec] 45)).cell? ⟨w.heap.size + 1, 0, none⟩ = some (.int .i64 p.left) ∧ (w2.drew.alloc (Obj.cells #[Value.int IntKind.i64 p.left, Value.slice ra p.right.length rc, Value.int IntKind.i64 p.prec] 45)).cell? ⟨w.heap.size + 1, 1, none⟩ = some (.slice ra p.right.length rc) ∧ (w2.drew.alloc (Obj.cells #[Value.int IntKind.i64 p.left, Value.slice ra p.right.length rc, Value.int IntKind.i64 p.prec] 45)).cell? ⟨w.heap.size + 1, 2, none⟩ = some (.int .i64 p.prec) ∧ Below w2.heap.size w2 (w2.drew.alloc (Obj.cells #[Value.int IntKind.i64 p.left, Value.slice ra p.right.length rc, Value.int IntKind.i64 p.prec] 45)) := hkeep _ _ HS0.out (below_new2 _ _)
      refine hK.out _ _ (fun _ => hSa) ?_
      refine wpAnyL_one' (i := 0) (o := { dst := some 17, op := Op.buildSlice 23 0 #[], type := 23, pos := "law.go:81", after := #[], guard := none }) (by kernel_rfl) rfl rfl (fun K hK => ?_)
      go_simp
      have own0 : ((w2.drew.alloc (Obj.cells #[Value.int IntKind.i64 p.left, Value.slice ra p.right.length rc, Value.int IntKind.i64 p.prec] 45)).alloc (Obj.cells #[] 45)).ownsRow w2.heap.size 45 3 (.slice (some ⟨(w2.drew.alloc (Obj.cells #[Value.int IntKind.i64 p.left, Value.slice ra p.right.length rc, Value.int IntKind.i64 p.prec] 45)).heap.size, 0, none⟩) 0 0) 0 [] := World.ownsRow_lit (w2.drew.alloc (Obj.cells #[Value.int IntKind.i64 p.left, Value.slice ra p.right.length rc, Value.int IntKind.i64 p.prec] 45)) #[] 0 (hSa.2.2.2.2.size) (by unfold maxLen; omega) rfl
      have hSb : ((w2.drew.alloc (Obj.cells #[Value.int IntKind.i64 p.left, Value.slice ra p.right.length rc, Value.int IntKind.i64 p.prec] 45)).alloc (Obj.cells #[] 45)).cell? ⟨w.heap.size, 2, none⟩ = some (.slice pa f.prods.length pc) ∧ ((w2.drew.alloc (Obj.cells #[Value.int IntKind.i64 p.left, Value.slice ra p.right.length rc, Value.int IntKind.i64 p.prec] 45)).alloc (Obj.cells #[] 45)).cell? ⟨w.heap.size + 1, 0, none⟩ = some (.int .i64 p.left) ∧ ((w2.drew.alloc (Obj.cells #[Value.int IntKind.i64 p.left, Value.slice ra p.right.length rc, Value.int IntKind.i64 p.prec] 45)).alloc (Obj.cells #[] 45)).cell? ⟨w.heap.size + 1, 1, none⟩ = some (.slice ra p.right.length rc) ∧ ((w2.drew.alloc (Obj.cells #[Value.int IntKind.i64 p.left, Value.slice ra p.right.length rc, Value.int IntKind.i64 p.prec] 45)).alloc (Obj.cells #[] 45)).cell? ⟨w.heap.size + 1, 2, none⟩ = some (.int .i64 p.prec) ∧ Below w2.heap.size w2 ((w2.drew.alloc (Obj.cells #[Value.int IntKind.i64 p.left, Value.slice ra p.right.length rc, Value.int IntKind.i64 p.prec] 45)).alloc (Obj.cells #[] 45)) := hkeep _ _ hSa (below_new2 _ _)
      refine hK.out _ _ (fun _ => hSb) ?_
      have hs1 : (w2.drew.alloc (Obj.cells #[Value.int IntKind.i64 p.left, Value.slice ra p.right.length rc, Value.int IntKind.i64 p.prec] 45)).heap.size = w2.heap.size + 1 := by simp
      rw [hs1] at own0
      refine wpAnyL_one' (i := 3) (o := { dst := some 20, op := Op.call { callee := Callee.builtin Builtin.append, args := #[Operand.tmp 17, Operand.tmp 19], argTypes := #[23, 23] }, type := 23, pos := "law.go:81", after := #[{ on := 0, ground := Ground.data }, { on := 2, ground := Ground.data }], guard := none }) (by kernel_rfl) rfl rfl (fun K hK => ?_)
      rw [if_pos (by rfl)]
      refine wp_append_any (.tmp 17) (.tmp 19) 23 rfl w2.heap.size 45 i0 _ 3 40 Tryd.underlying23 hi0 hz0 hz1 hz2 rfl (by decide) (.slice (some ⟨w2.heap.size + 1, 0, none⟩) 0 0) 0 [] rfl own0 pa f.prods.length pc cs rfl hpn hcs.1 (hcl _ hSb) hcs.2.1 (by unfold maxLen; omega) (by omega) hSb.2.2.2.2.size ?_
      intro v3 w3 own3 hg
      have hSc : w3.cell? ⟨w.heap.size, 2, none⟩ = some (.slice pa f.prods.length pc) ∧ w3.cell? ⟨w.heap.size + 1, 0, none⟩ = some (.int .i64 p.left) ∧ w3.cell? ⟨w.heap.size + 1, 1, none⟩ = some (.slice ra p.right.length rc) ∧ w3.cell? ⟨w.heap.size + 1, 2, none⟩ = some (.int .i64 p.prec) ∧ Below w2.heap.size w2 w3 := hgrow _ _ _ hSb own0 hg
      rw [Nat.zero_add, List.nil_append] at own3
      obtain ⟨a1, c1, rfl⟩ := slice_of_own3 own3
      refine hK.out _ _ (fun _ => hSc) ?_
      simp only [Act.put, List.setIfInBounds_toArray, List.set_cons_zero, List.set_cons_succ]
      have hnw : ∀ j u, ([.int .i64 p.left, .slice ra p.right.length rc, .int .i64 p.prec] : List Value)[j]? = some u → w3.cell? ((⟨w2.heap.size, 0, none⟩ : Addr).add j) = some u := by
        intro j u hj
        have hk1 := new_three w2.drew _ _ _ 45 j u hj
        rw [add_plain] at hk1 ⊢
        have hk2 : ((w2.drew.alloc (Obj.cells #[Value.int IntKind.i64 p.left, Value.slice ra p.right.length rc, Value.int IntKind.i64 p.prec] 45)).alloc (Obj.cells #[] 45)).cell? ⟨w2.heap.size, 0 + j, none⟩ = some u := ((below_new2 (w2.drew.alloc (Obj.cells #[Value.int IntKind.i64 p.left, Value.slice ra p.right.length rc, Value.int IntKind.i64 p.prec] 45)) (Obj.cells #[] 45)).cell (p := ⟨w2.heap.size, 0 + j, none⟩) (by simp)).trans hk1
        rw [← hk2]
        refine World.cell?_of_block (hg.block w2.heap.size (by simp; omega) (fun e => ?_))
        simp [Value.ownBlock] at e
      refine wpAnyL_one' (i := 6) (o := { dst := some 23, op := Op.call { callee := Callee.builtin Builtin.append, args := #[Operand.tmp 20, Operand.tmp 22], argTypes := #[23, 23] }, type := 23, pos := "law.go:81", after := #[{ on := 3, ground := Ground.data }, { on := 5, ground := Ground.data }, { on := 3, ground := Ground.chain }], guard := none }) (by kernel_rfl) rfl rfl (fun K hK => ?_)
      rw [if_pos (by rfl)]
      refine wp_append_any (.tmp 20) (.tmp 22) 23 rfl w2.heap.size 45 i0 _ 3 40 Tryd.underlying23 hi0 hz0 hz1 hz2 rfl (by decide) _ f.prods.length cs rfl own3 (some ⟨w2.heap.size, 0, none⟩) 1 1 [.int .i64 p.left, .slice ra p.right.length rc, .int .i64 p.prec] rfl (fun h => by cases h) rfl (fun ad had => by cases had; exact hnw) (by intro u hu; simp at hu; rcases hu with rfl | rfl | rfl <;> rfl) (by unfold maxLen; omega) (by omega) hSc.2.2.2.2.size ?_
      intro v6 w6 own6 hg6
      have hS6 : w6.cell? ⟨w.heap.size, 2, none⟩ = some (.slice pa f.prods.length pc) ∧ w6.cell? ⟨w.heap.size + 1, 0, none⟩ = some (.int .i64 p.left) ∧ w6.cell? ⟨w.heap.size + 1, 1, none⟩ = some (.slice ra p.right.length rc) ∧ w6.cell? ⟨w.heap.size + 1, 2, none⟩ = some (.int .i64 p.prec) ∧ Below w2.heap.size w2 w6 := hgrow _ _ _ hSc own3 hg6
      obtain ⟨ga, gc, rfl⟩ := slice_some own6
      refine hK.out _ _ (fun _ => hS6) ?_
      simp only [Act.put, List.setIfInBounds_toArray, List.set_cons_zero, List.set_cons_succ]
      have q2 := (hS6.2.2.2.2.cell (p := ⟨w1.heap.size, 2, none⟩) g4).trans g2
      have q3 := (hS6.2.2.2.2.frozen (p := ⟨w1.heap.size, 2, none⟩) g4).trans g3
      have HF6 : Hid (w6.ownsRow w2.heap.size 45 3 (.slice (some ⟨ga, 0, none⟩) (f.prods.length + 1) gc) (f.prods.length + 1) (cs ++ [.int .i64 p.left, .slice ra p.right.length rc, .int .i64 p.prec]) ∧ Below w2.heap.size w2 w6) := ⟨own6, hS6.2.2.2.2⟩
      refine wpAnyL_one' (i := 7) (o := { dst := some 24, op := Op.fieldAddr 25 (Operand.tmp 5) 2, type := 0, pos := "law.go:81", after := #[{ on := 0, ground := Ground.phase }, { on := 1, ground := Ground.phase }, { on := 2, ground := Ground.phase }, { on := 3, ground := Ground.phase }, { on := 4, ground := Ground.phase }, { on := 5, ground := Ground.phase }, { on := 6, ground := Ground.phase }], guard := none }) (by kernel_rfl) rfl rfl (fun K2 hK2 => ?_)
      go_simp
      refine hK2.out _ _ (fun h => absurd h (by decide)) ?_
      refine wpAnyL_one' (i := 8) (o := { dst := none, op := Op.store 23 (Operand.tmp 24) (Operand.tmp 23), type := 0, pos := "law.go:81", after := #[{ on := 7, ground := Ground.data }, { on := 6, ground := Ground.data }, { on := 6, ground := Ground.chain }, { on := 0, ground := Ground.phase }, { on := 1, ground := Ground.phase }, { on := 2, ground := Ground.phase }, { on := 3, ground := Ground.phase }, { on := 4, ground := Ground.phase }, { on := 5, ground := Ground.phase }, { on := 6, ground := Ground.phase }], guard := none }) (by kernel_rfl) rfl rfl (fun K3 hK3 => ?_)
      go_simp
      refine hK3.out _ _ (fun h => absurd h (by decide)) ?_
      refine wpAnyL_done (by kernel_rfl) ?_ _
      go_wp2_with fail
      go_meet
      exact ⟨ga, gc, w6, rfl, HF6.out.2, HF6.out.1⟩
  case rest =>
    obtain ⟨ga, gc, W', rfl, hB', own'⟩ := hcut
    have hcx : FlAt (f.plus p) ⟨ta, tc, na, nc, some ⟨ga, 0, none⟩, gc⟩ (World.setCell W' ⟨w1.heap.size, 2, none⟩ (.slice (some ⟨ga, 0, none⟩) (f.prods.length + 1) gc)) ∧ Below w.heap.size w (World.setCell W' ⟨w1.heap.size, 2, none⟩ (.slice (some ⟨ga, 0, none⟩) (f.prods.length + 1) gc)) := by
      have hbw : Below w.heap.size w W' := below_then B2 hB' B2.size
      have hbx : Below w.heap.size w (World.setCell W' ⟨w1.heap.size, 2, none⟩ (.slice (some ⟨ga, 0, none⟩) (f.prods.length + 1) gc)) := hbw.setCell (p := ⟨w1.heap.size, 2, none⟩) (Nat.le_of_lt x1) _
      have hga := (World.ownsRow.lt own' ga rfl)
      have hox : (World.setCell W' ⟨w1.heap.size, 2, none⟩ (.slice (some ⟨ga, 0, none⟩) (f.prods.length + 1) gc)).ownsRow w2.heap.size 45 3 (.slice (some ⟨ga, 0, none⟩) (f.prods.length + 1) gc) (f.prods.length + 1) (cs ++ [.int .i64 p.left, .slice ra p.right.length rc, .int .i64 p.prec]) := owns_set own' (by simp [Value.ownBlock]; omega)
      have hprc := ((hcs.snoc HU.out hp).next hbx)
      have hprs := prs_own hprc hox (by simp)
      obtain ⟨f0, f1, f2, f3, f4, _⟩ := HFF.out _ hbx
      have hgc : f.prods.length + 1 ≤ gc := by
        rcases own'.2 with ⟨h, _⟩ | ⟨g', c', cur', h, _, _, h', _⟩
        · cases h
        · cases h; exact h'
      exact ⟨⟨f0, f1, hprs, f3, f4, by simp [Fl.plus]; omega, by simp [Fl.plus]; exact hgc, fun h => by cases h⟩, hbx⟩
    have hS0 : (World.setCell W' ⟨w1.heap.size, 2, none⟩ (.slice (some ⟨ga, 0, none⟩) (f.prods.length + 1) gc)).cell? ⟨w.heap.size, 0, none⟩ = some (.slice ta f.terms.length tc) ∧ (World.setCell W' ⟨w1.heap.size, 2, none⟩ (.slice (some ⟨ga, 0, none⟩) (f.prods.length + 1) gc)).cell? ⟨w.heap.size, 1, none⟩ = some (.slice na f.nons.length nc) ∧ (World.setCell W' ⟨w1.heap.size, 2, none⟩ (.slice (some ⟨ga, 0, none⟩) (f.prods.length + 1) gc)).cell? ⟨w.heap.size, 2, none⟩ = some (.slice pa f.prods.length pc) ∧ (World.setCell W' ⟨w1.heap.size, 2, none⟩ (.slice (some ⟨ga, 0, none⟩) (f.prods.length + 1) gc)).cell? ⟨w1.heap.size, 0, none⟩ = some (.slice ta f.terms.length tc) ∧ (World.setCell W' ⟨w1.heap.size, 2, none⟩ (.slice (some ⟨ga, 0, none⟩) (f.prods.length + 1) gc)).cell? ⟨w1.heap.size, 1, none⟩ = some (.slice na f.nons.length nc) ∧ (World.setCell W' ⟨w1.heap.size, 2, none⟩ (.slice (some ⟨ga, 0, none⟩) (f.prods.length + 1) gc)).cell? ⟨w1.heap.size, 2, none⟩ = some (.slice (some ⟨ga, 0, none⟩) (f.prods.length + 1) gc) := by
      have hbw2 : Below w1.heap.size w1 W' := hc2.trans (hB'.mono hsz2)
      refine ⟨?_, ?_, ?_, ?_, ?_, ?_⟩
      · rw [cell_set_other W' _ (by omega)]; exact (hbw2.cell (p := ⟨w.heap.size, 0, none⟩) x1).trans d0
      · rw [cell_set_other W' _ (by omega)]; exact (hbw2.cell (p := ⟨w.heap.size, 1, none⟩) x1).trans d1
      · rw [cell_set_other W' _ (by omega)]; exact (hbw2.cell (p := ⟨w.heap.size, 2, none⟩) x1).trans d2
      · rw [cell_set_off W' _ (by omega)]; exact (hB'.cell (p := ⟨w1.heap.size, 0, none⟩) g4).trans g0
      · rw [cell_set_off W' _ (by omega)]; exact (hB'.cell (p := ⟨w1.heap.size, 1, none⟩) g4).trans g1'
      · exact cell_set_same W' _ ((hB'.cell (p := ⟨w1.heap.size, 2, none⟩) g4).trans g2)
    have hsx : w2.heap.size ≤ (World.setCell W' ⟨w1.heap.size, 2, none⟩ (.slice (some ⟨ga, 0, none⟩) (f.prods.length + 1) gc)).heap.size := by simpa using hB'.size
    obtain ⟨hgx, hbx⟩ := hcx
    have HFG : Hid (∀ W, Below (World.setCell W' ⟨w1.heap.size, 2, none⟩ (.slice (some ⟨ga, 0, none⟩) (f.prods.length + 1) gc)).heap.size (World.setCell W' ⟨w1.heap.size, 2, none⟩ (.slice (some ⟨ga, 0, none⟩) (f.prods.length + 1) gc)) W → FlAt (f.plus p) ⟨ta, tc, na, nc, some ⟨ga, 0, none⟩, gc⟩ W) := fun W hb => hgx.next hb
    generalize World.setCell W' ⟨w1.heap.size, 2, none⟩ (.slice (some ⟨ga, 0, none⟩) (f.prods.length + 1) gc) = wx at *
    obtain ⟨s0, s1, s2, s3, s4, s5⟩ := hS0
    have HFIT : Hid (Calls Tryd.prog 23 #[.agg #[.slice ta f.terms.length tc, .slice na f.nons.length nc, .slice (some ⟨ga, 0, none⟩) (f.prods.length + 1) gc]] wx fun e w' => e = .returned (.bool (fitB (f.plus p))) ∧ Below wx.heap.size wx w') := by
      have := fit_any (f.plus p) ⟨ta, tc, na, nc, some ⟨ga, 0, none⟩, gc⟩ wx hgx
      unfold FlA.val at this
      rw [show (f.plus p).prods.length = f.prods.length + 1 by simp [Fl.plus]] at this
      exact this
    clear hgx hB' own' hkeep hcl hgrow hpn hcell hcs HS0 d0 d1 d2 e0 e1 e2 g0 g1' g2 g3 B2 B1 X1 hc2
    go_wp2_with fail
    refine HFIT.out.mono ?_
    rintro e w5 ⟨rfl, hb5⟩
    have hsx5 := hb5.size
    replace s0 := (hb5.cell (p := ⟨w.heap.size, 0, none⟩) (by show w.heap.size < _; omega)).trans s0
    replace s1 := (hb5.cell (p := ⟨w.heap.size, 1, none⟩) (by show w.heap.size < _; omega)).trans s1
    replace s2 := (hb5.cell (p := ⟨w.heap.size, 2, none⟩) (by show w.heap.size < _; omega)).trans s2
    replace s3 := (hb5.cell (p := ⟨w1.heap.size, 0, none⟩) (by show w1.heap.size < _; omega)).trans s3
    replace s4 := (hb5.cell (p := ⟨w1.heap.size, 1, none⟩) (by show w1.heap.size < _; omega)).trans s4
    replace s5 := (hb5.cell (p := ⟨w1.heap.size, 2, none⟩) (by show w1.heap.size < _; omega)).trans s5
    have hb6 := below_then hbx hb5 hbx.size
    clear HFIT
    cases hft : fitB (f.plus p) with
    | false =>
      clear hft
      go_wp2_with fail
      refine (HAW.out _ hb6).mono ?_
      rintro e w6 ⟨rfl, hb7⟩
      go_wp2_with fail
      go_ret
      exact ⟨rfl, below_then hb6 hb7 hb6.size⟩
    | true =>
    have HFPG : Hid (FitP (f.plus p)) := fit_facts hft
    clear hft
    have hstep : ∀ W W', W.cell? ⟨w.heap.size, 0, none⟩ = some (.slice ta f.terms.length tc) ∧ W.cell? ⟨w.heap.size, 1, none⟩ = some (.slice na f.nons.length nc) ∧ W.cell? ⟨w.heap.size, 2, none⟩ = some (.slice pa f.prods.length pc) ∧ W.cell? ⟨w1.heap.size, 0, none⟩ = some (.slice ta f.terms.length tc) ∧ W.cell? ⟨w1.heap.size, 1, none⟩ = some (.slice na f.nons.length nc) ∧ W.cell? ⟨w1.heap.size, 2, none⟩ = some (.slice (some ⟨ga, 0, none⟩) (f.prods.length + 1) gc) ∧ Below wx.heap.size wx W → Below W.heap.size W W' → W'.cell? ⟨w.heap.size, 0, none⟩ = some (.slice ta f.terms.length tc) ∧ W'.cell? ⟨w.heap.size, 1, none⟩ = some (.slice na f.nons.length nc) ∧ W'.cell? ⟨w.heap.size, 2, none⟩ = some (.slice pa f.prods.length pc) ∧ W'.cell? ⟨w1.heap.size, 0, none⟩ = some (.slice ta f.terms.length tc) ∧ W'.cell? ⟨w1.heap.size, 1, none⟩ = some (.slice na f.nons.length nc) ∧ W'.cell? ⟨w1.heap.size, 2, none⟩ = some (.slice (some ⟨ga, 0, none⟩) (f.prods.length + 1) gc) ∧ Below wx.heap.size wx W' := by
      rintro W W' ⟨y0, y1, y2, y3, y4, y5, hbW⟩ hb'
      have hz := hbW.size
      exact ⟨(hb'.cell (p := ⟨w.heap.size, 0, none⟩) (by show w.heap.size < _; omega)).trans y0, (hb'.cell (p := ⟨w.heap.size, 1, none⟩) (by show w.heap.size < _; omega)).trans y1, (hb'.cell (p := ⟨w.heap.size, 2, none⟩) (by show w.heap.size < _; omega)).trans y2, (hb'.cell (p := ⟨w1.heap.size, 0, none⟩) (by show w1.heap.size < _; omega)).trans y3, (hb'.cell (p := ⟨w1.heap.size, 1, none⟩) (by show w1.heap.size < _; omega)).trans y4, (hb'.cell (p := ⟨w1.heap.size, 2, none⟩) (by show w1.heap.size < _; omega)).trans y5, below_then hbW hb' hz⟩
    have HPL : Hid ((f.plus p).prods.length = f.prods.length + 1) := by show _ = _; simp [Fl.plus]
    have cF1 : ∀ W, W.cell? ⟨w.heap.size, 0, none⟩ = some (.slice ta f.terms.length tc) ∧ W.cell? ⟨w.heap.size, 1, none⟩ = some (.slice na f.nons.length nc) ∧ W.cell? ⟨w.heap.size, 2, none⟩ = some (.slice pa f.prods.length pc) ∧ W.cell? ⟨w1.heap.size, 0, none⟩ = some (.slice ta f.terms.length tc) ∧ W.cell? ⟨w1.heap.size, 1, none⟩ = some (.slice na f.nons.length nc) ∧ W.cell? ⟨w1.heap.size, 2, none⟩ = some (.slice (some ⟨ga, 0, none⟩) (f.prods.length + 1) gc) ∧ Below wx.heap.size wx W → Calls Tryd.prog 15 #[.agg #[.slice ta f.terms.length tc, .slice na f.nons.length nc, .slice pa f.prods.length pc]] W fun e w' => ∃ v, e = .returned v ∧ Hid (HoldR (FstP f) f v w') ∧ (w'.cell? ⟨w.heap.size, 0, none⟩ = some (.slice ta f.terms.length tc) ∧ w'.cell? ⟨w.heap.size, 1, none⟩ = some (.slice na f.nons.length nc) ∧ w'.cell? ⟨w.heap.size, 2, none⟩ = some (.slice pa f.prods.length pc) ∧ w'.cell? ⟨w1.heap.size, 0, none⟩ = some (.slice ta f.terms.length tc) ∧ w'.cell? ⟨w1.heap.size, 1, none⟩ = some (.slice na f.nons.length nc) ∧ w'.cell? ⟨w1.heap.size, 2, none⟩ = some (.slice (some ⟨ga, 0, none⟩) (f.prods.length + 1) gc) ∧ Below wx.heap.size wx w') := by
      intro W hS
      refine (HOK.out.pF f ⟨ta, tc, na, nc, pa, pc⟩ W (HFF.out _ (below_then hbx hS.2.2.2.2.2.2 hbx.size)) HFP.out.1 (HTB.out _ (below_then hbx hS.2.2.2.2.2.2 hbx.size))).mono ?_
      rintro e w' ⟨v, rfl, h1, h2⟩
      exact ⟨v, rfl, h1, hstep _ _ hS h2⟩
    have cF2 : ∀ W v, W.cell? ⟨w.heap.size, 0, none⟩ = some (.slice ta f.terms.length tc) ∧ W.cell? ⟨w.heap.size, 1, none⟩ = some (.slice na f.nons.length nc) ∧ W.cell? ⟨w.heap.size, 2, none⟩ = some (.slice pa f.prods.length pc) ∧ W.cell? ⟨w1.heap.size, 0, none⟩ = some (.slice ta f.terms.length tc) ∧ W.cell? ⟨w1.heap.size, 1, none⟩ = some (.slice na f.nons.length nc) ∧ W.cell? ⟨w1.heap.size, 2, none⟩ = some (.slice (some ⟨ga, 0, none⟩) (f.prods.length + 1) gc) ∧ Below wx.heap.size wx W → Hid (HoldR (FstP f) f v W) → Calls Tryd.prog 15 #[.agg #[.slice ta f.terms.length tc, .slice na f.nons.length nc, .slice (some ⟨ga, 0, none⟩) (f.prods.length + 1) gc]] W fun e w' => ∃ u, e = .returned u ∧ Hid ((∀ (s : Nat) (t : Int), FstP f s t → 0 ≤ t ∧ t < ((601 : Nat) : Int)) ∧ (∀ (s : Nat) (t : Int), FstP (f.plus p) s t → 0 ≤ t ∧ t < ((601 : Nat) : Int)) ∧ (∀ (s : Nat) (t : Int), FstP f s t → FstP (f.plus p) s t) ∧ HoldR (FstP f) f v w' ∧ HoldR (FstP (f.plus p)) (f.plus p) u w') ∧ (w'.cell? ⟨w.heap.size, 0, none⟩ = some (.slice ta f.terms.length tc) ∧ w'.cell? ⟨w.heap.size, 1, none⟩ = some (.slice na f.nons.length nc) ∧ w'.cell? ⟨w.heap.size, 2, none⟩ = some (.slice pa f.prods.length pc) ∧ w'.cell? ⟨w1.heap.size, 0, none⟩ = some (.slice ta f.terms.length tc) ∧ w'.cell? ⟨w1.heap.size, 1, none⟩ = some (.slice na f.nons.length nc) ∧ w'.cell? ⟨w1.heap.size, 2, none⟩ = some (.slice (some ⟨ga, 0, none⟩) (f.prods.length + 1) gc) ∧ Below wx.heap.size wx w') := by
      intro W v hS hG
      have hc := HOK.out.pF (f.plus p) ⟨ta, tc, na, nc, some ⟨ga, 0, none⟩, gc⟩ W (HFG.out _ hS.2.2.2.2.2.2) HFPG.out (HTB.out _ (below_then hbx hS.2.2.2.2.2.2 hbx.size))
      unfold FlA.val at hc
      rw [HPL.out] at hc
      refine hc.mono ?_
      rintro e w' ⟨u, rfl, h1, h2⟩
      exact ⟨u, rfl, ⟨fun s t h => bound_F HFP.out.1 h, fun s t h => bound_F HFPG.out h, fun s t h => plus_F h, hG.out.next h2, h1⟩, hstep _ _ hS h2⟩
    have cO1 : ∀ W, W.cell? ⟨w.heap.size, 0, none⟩ = some (.slice ta f.terms.length tc) ∧ W.cell? ⟨w.heap.size, 1, none⟩ = some (.slice na f.nons.length nc) ∧ W.cell? ⟨w.heap.size, 2, none⟩ = some (.slice pa f.prods.length pc) ∧ W.cell? ⟨w1.heap.size, 0, none⟩ = some (.slice ta f.terms.length tc) ∧ W.cell? ⟨w1.heap.size, 1, none⟩ = some (.slice na f.nons.length nc) ∧ W.cell? ⟨w1.heap.size, 2, none⟩ = some (.slice (some ⟨ga, 0, none⟩) (f.prods.length + 1) gc) ∧ Below wx.heap.size wx W → Calls Tryd.prog 17 #[.agg #[.slice ta f.terms.length tc, .slice na f.nons.length nc, .slice pa f.prods.length pc]] W fun e w' => ∃ v, e = .returned v ∧ Hid (HoldR (FolP f) f v w') ∧ (w'.cell? ⟨w.heap.size, 0, none⟩ = some (.slice ta f.terms.length tc) ∧ w'.cell? ⟨w.heap.size, 1, none⟩ = some (.slice na f.nons.length nc) ∧ w'.cell? ⟨w.heap.size, 2, none⟩ = some (.slice pa f.prods.length pc) ∧ w'.cell? ⟨w1.heap.size, 0, none⟩ = some (.slice ta f.terms.length tc) ∧ w'.cell? ⟨w1.heap.size, 1, none⟩ = some (.slice na f.nons.length nc) ∧ w'.cell? ⟨w1.heap.size, 2, none⟩ = some (.slice (some ⟨ga, 0, none⟩) (f.prods.length + 1) gc) ∧ Below wx.heap.size wx w') := by
      intro W hS
      refine (HOK.out.pO f ⟨ta, tc, na, nc, pa, pc⟩ W (HFF.out _ (below_then hbx hS.2.2.2.2.2.2 hbx.size)) HFP.out.1 (HTB.out _ (below_then hbx hS.2.2.2.2.2.2 hbx.size))).mono ?_
      rintro e w' ⟨v, rfl, h1, h2⟩
      exact ⟨v, rfl, h1, hstep _ _ hS h2⟩
    have cO2 : ∀ W v, W.cell? ⟨w.heap.size, 0, none⟩ = some (.slice ta f.terms.length tc) ∧ W.cell? ⟨w.heap.size, 1, none⟩ = some (.slice na f.nons.length nc) ∧ W.cell? ⟨w.heap.size, 2, none⟩ = some (.slice pa f.prods.length pc) ∧ W.cell? ⟨w1.heap.size, 0, none⟩ = some (.slice ta f.terms.length tc) ∧ W.cell? ⟨w1.heap.size, 1, none⟩ = some (.slice na f.nons.length nc) ∧ W.cell? ⟨w1.heap.size, 2, none⟩ = some (.slice (some ⟨ga, 0, none⟩) (f.prods.length + 1) gc) ∧ Below wx.heap.size wx W → Hid (HoldR (FolP f) f v W) → Calls Tryd.prog 17 #[.agg #[.slice ta f.terms.length tc, .slice na f.nons.length nc, .slice (some ⟨ga, 0, none⟩) (f.prods.length + 1) gc]] W fun e w' => ∃ u, e = .returned u ∧ Hid ((∀ (s : Nat) (t : Int), FolP f s t → 0 ≤ t ∧ t < ((601 : Nat) : Int)) ∧ (∀ (s : Nat) (t : Int), FolP (f.plus p) s t → 0 ≤ t ∧ t < ((601 : Nat) : Int)) ∧ (∀ (s : Nat) (t : Int), FolP f s t → FolP (f.plus p) s t) ∧ HoldR (FolP f) f v w' ∧ HoldR (FolP (f.plus p)) (f.plus p) u w') ∧ (w'.cell? ⟨w.heap.size, 0, none⟩ = some (.slice ta f.terms.length tc) ∧ w'.cell? ⟨w.heap.size, 1, none⟩ = some (.slice na f.nons.length nc) ∧ w'.cell? ⟨w.heap.size, 2, none⟩ = some (.slice pa f.prods.length pc) ∧ w'.cell? ⟨w1.heap.size, 0, none⟩ = some (.slice ta f.terms.length tc) ∧ w'.cell? ⟨w1.heap.size, 1, none⟩ = some (.slice na f.nons.length nc) ∧ w'.cell? ⟨w1.heap.size, 2, none⟩ = some (.slice (some ⟨ga, 0, none⟩) (f.prods.length + 1) gc) ∧ Below wx.heap.size wx w') := by
      intro W v hS hG
      have hc := HOK.out.pO (f.plus p) ⟨ta, tc, na, nc, some ⟨ga, 0, none⟩, gc⟩ W (HFG.out _ hS.2.2.2.2.2.2) HFPG.out (HTB.out _ (below_then hbx hS.2.2.2.2.2.2 hbx.size))
      unfold FlA.val at hc
      rw [HPL.out] at hc
      refine hc.mono ?_
      rintro e w' ⟨u, rfl, h1, h2⟩
      exact ⟨u, rfl, ⟨fun s t h => bound_O HFP.out.1 h, fun s t h => bound_O HFPG.out h, fun s t h => plus_O h, hG.out.next h2, h1⟩, hstep _ _ hS h2⟩
    have cI : ∀ (P P' : Nat → Int → Prop) W v u, W.cell? ⟨w.heap.size, 0, none⟩ = some (.slice ta f.terms.length tc) ∧ W.cell? ⟨w.heap.size, 1, none⟩ = some (.slice na f.nons.length nc) ∧ W.cell? ⟨w.heap.size, 2, none⟩ = some (.slice pa f.prods.length pc) ∧ W.cell? ⟨w1.heap.size, 0, none⟩ = some (.slice ta f.terms.length tc) ∧ W.cell? ⟨w1.heap.size, 1, none⟩ = some (.slice na f.nons.length nc) ∧ W.cell? ⟨w1.heap.size, 2, none⟩ = some (.slice (some ⟨ga, 0, none⟩) (f.prods.length + 1) gc) ∧ Below wx.heap.size wx W → Hid ((∀ (s : Nat) (t : Int), P s t → 0 ≤ t ∧ t < ((601 : Nat) : Int)) ∧ (∀ (s : Nat) (t : Int), P' s t → 0 ≤ t ∧ t < ((601 : Nat) : Int)) ∧ (∀ (s : Nat) (t : Int), P s t → P' s t) ∧ HoldR P f v W ∧ HoldR P' (f.plus p) u W) → Calls Tryd.prog 24 #[v, u] W fun e w' => e = .returned (.bool true) ∧ (w'.cell? ⟨w.heap.size, 0, none⟩ = some (.slice ta f.terms.length tc) ∧ w'.cell? ⟨w.heap.size, 1, none⟩ = some (.slice na f.nons.length nc) ∧ w'.cell? ⟨w.heap.size, 2, none⟩ = some (.slice pa f.prods.length pc) ∧ w'.cell? ⟨w1.heap.size, 0, none⟩ = some (.slice ta f.terms.length tc) ∧ w'.cell? ⟨w1.heap.size, 1, none⟩ = some (.slice na f.nons.length nc) ∧ w'.cell? ⟨w1.heap.size, 2, none⟩ = some (.slice (some ⟨ga, 0, none⟩) (f.prods.length + 1) gc) ∧ Below wx.heap.size wx w') := by
      intro P P' W v u hS hG
      obtain ⟨k1, k2, k3, k4, k5⟩ := hG.out
      refine (within_held HFP.out.1.size k1 k2 rfl k3 k4 k5).mono ?_
      rintro e w' ⟨rfl, h2⟩
      exact ⟨rfl, hstep _ _ hS h2⟩
    have cW : ∀ W, W.cell? ⟨w.heap.size, 0, none⟩ = some (.slice ta f.terms.length tc) ∧ W.cell? ⟨w.heap.size, 1, none⟩ = some (.slice na f.nons.length nc) ∧ W.cell? ⟨w.heap.size, 2, none⟩ = some (.slice pa f.prods.length pc) ∧ W.cell? ⟨w1.heap.size, 0, none⟩ = some (.slice ta f.terms.length tc) ∧ W.cell? ⟨w1.heap.size, 1, none⟩ = some (.slice na f.nons.length nc) ∧ W.cell? ⟨w1.heap.size, 2, none⟩ = some (.slice (some ⟨ga, 0, none⟩) (f.prods.length + 1) gc) ∧ Below wx.heap.size wx W → Calls Tryd.prog 8 #[] W fun e w' => e = .returned (.bool true) ∧ (w'.cell? ⟨w.heap.size, 0, none⟩ = some (.slice ta f.terms.length tc) ∧ w'.cell? ⟨w.heap.size, 1, none⟩ = some (.slice na f.nons.length nc) ∧ w'.cell? ⟨w.heap.size, 2, none⟩ = some (.slice pa f.prods.length pc) ∧ w'.cell? ⟨w1.heap.size, 0, none⟩ = some (.slice ta f.terms.length tc) ∧ w'.cell? ⟨w1.heap.size, 1, none⟩ = some (.slice na f.nons.length nc) ∧ w'.cell? ⟨w1.heap.size, 2, none⟩ = some (.slice (some ⟨ga, 0, none⟩) (f.prods.length + 1) gc) ∧ Below wx.heap.size wx w') := by
      intro W hS
      refine (HAW.out W (below_then hbx hS.2.2.2.2.2.2 hbx.size)).mono ?_
      rintro e w' ⟨rfl, h2⟩
      exact ⟨rfl, hstep _ _ hS h2⟩
    have HS9 : Hid (w5.drew.cell? ⟨w.heap.size, 0, none⟩ = some (.slice ta f.terms.length tc) ∧ w5.drew.cell? ⟨w.heap.size, 1, none⟩ = some (.slice na f.nons.length nc) ∧ w5.drew.cell? ⟨w.heap.size, 2, none⟩ = some (.slice pa f.prods.length pc) ∧ w5.drew.cell? ⟨w1.heap.size, 0, none⟩ = some (.slice ta f.terms.length tc) ∧ w5.drew.cell? ⟨w1.heap.size, 1, none⟩ = some (.slice na f.nons.length nc) ∧ w5.drew.cell? ⟨w1.heap.size, 2, none⟩ = some (.slice (some ⟨ga, 0, none⟩) (f.prods.length + 1) gc) ∧ Below wx.heap.size wx w5.drew) := ⟨s0, s1, s2, s3, s4, s5, hb5.drew⟩
    have HBX : Hid (Below w.heap.size w wx) := hbx
    clear hstep HOK HFF HAW HTB HFP HFPG HFG HPL HU hb5 hb6 hbx
    go_wp2_with fail
    go_region_held3 (fun W => W.cell? ⟨w.heap.size, 0, none⟩ = some (.slice ta f.terms.length tc) ∧ W.cell? ⟨w.heap.size, 1, none⟩ = some (.slice na f.nons.length nc) ∧ W.cell? ⟨w.heap.size, 2, none⟩ = some (.slice pa f.prods.length pc) ∧ W.cell? ⟨w1.heap.size, 0, none⟩ = some (.slice ta f.terms.length tc) ∧ W.cell? ⟨w1.heap.size, 1, none⟩ = some (.slice na f.nons.length nc) ∧ W.cell? ⟨w1.heap.size, 2, none⟩ = some (.slice (some ⟨ga, 0, none⟩) (f.prods.length + 1) gc) ∧ Below wx.heap.size wx W) (first | exact HS9.out | assumption) (first
      | (go_at_call_of 15 pc; refine (cF1 _ (by assumption)).mono ?_; rintro e w' ⟨v, rfl, hG, hS⟩)
      | (go_at_call_of 15 gc; refine (cF2 _ _ (by assumption) hG).mono ?_; clear hG; rintro e w' ⟨u, rfl, hG, hS⟩)
      | (go_at_call 24; refine (cI _ _ _ _ _ (by assumption) hG).mono ?_; clear hG; rintro e w' ⟨rfl, hS⟩)
      | (go_at_call_of 17 pc; refine (cO1 _ (by assumption)).mono ?_; rintro e w' ⟨v, rfl, hG, hS⟩)
      | (go_at_call_of 17 gc; refine (cO2 _ _ (by assumption) hG).mono ?_; clear hG; rintro e w' ⟨u, rfl, hG, hS⟩)
      | (go_at_call 8; refine (cW _ (by assumption)).mono ?_; rintro e w' ⟨rfl, hS⟩))
    all_goals
      have HBf : Hid (Below w.heap.size w _) := below_then HBX.out hS.2.2.2.2.2.2 HBX.out.size
      clear hS
      go_wp2_with fail
      go_ret
      exact ⟨rfl, HBf.out⟩
end Go.Proofs.YtckbfiigbckmeaaDoor
