/- CursorOrder: the law, for every tree and two paths. -/
import Derived.Test.YtmkkjjhlppagpaaLInts2
namespace Go.Proofs.Ytmkkjjhlppagpaa
open Go.RowKit

set_option maxRecDepth 100000 in
set_option maxHeartbeats 8000000 in
theorem lorder_any {A : Nat → Prop} (n : Nat) (t : Nd) (v : Value) (p : List Int) (pv : Value) (p2 : List Int) (qv : Value) (w : World) (h : TAt A n t v w) (hp : SlP p pv w) (hp2 : SlP p2 qv w) (hpl : p.length ≤ 140737488351232) (hpl2 : p2.length ≤ 140737488351232) :
    Calls Try.prog 4 #[v, pv, qv] w fun e w' => e = .returned (.bool true) ∧ Below w.heap.size w w' := by
  obtain ⟨ba, bc, rfl, _⟩ := h.val
  obtain ⟨W0, hW0⟩ : ∃ W0, W0 = w.alloc (Obj.cells #[.string t.h.kind, .bool t.h.named, .string t.h.field, .int .i64 t.h.frm, .int .i64 t.h.to, .int .i64 t.h.bad, .slice ba t.kids.length bc] 24) := ⟨_, rfl⟩
  have hB0 : Below w.heap.size w W0 := by rw [hW0]; exact (Below.refl _ _).alloc (Nat.le_refl _) _
  have hb0 : W0.heap[w.heap.size]? = some (.cells #[.string t.h.kind, .bool t.h.named, .string t.h.field, .int .i64 t.h.frm, .int .i64 t.h.to, .int .i64 t.h.bad, .slice ba t.kids.length bc] 24 (0, 0)) := by rw [hW0]; exact World.alloc_heap_new w _
  have hsz : w.heap.size < W0.heap.size := by rw [hW0]; simp
  have HB : Hid (Below w.heap.size w W0) := hB0
  have HT : Hid (∀ W, Below W0.heap.size W0 W → TAt A n t (ndV t.h (.slice ba t.kids.length bc)) W) := fun W hW => (h.next hB0).next hW
  have HR : Hid (∀ W, Below W0.heap.size W0 W → W.heap[w.heap.size]? = some (.cells #[.string t.h.kind, .bool t.h.named, .string t.h.field, .int .i64 t.h.frm, .int .i64 t.h.to, .int .i64 t.h.bad, .slice ba t.kids.length bc] 24 (0, 0))) := fun W hW => (hW.block _ hsz).trans hb0
  have hsm := small_any n t _ 800 W0 (h.next hB0) (by decide) (by decide)
  by_cases hc : cntN t ≤ 800
  case neg =>
    have hv : smallV (cntN t) 800 = -1 := by unfold smallV; rw [if_neg (by omega)]
    rw [hv] at hsm
    have HA : Hid (∀ W, _) := awake_any
    obtain ⟨pa, pc, rfl, _⟩ := hp
    obtain ⟨qa, qc, rfl, _⟩ := hp2
    clear h hB0 hb0 hsz HT HR
    rw [hW0] at hsm
    unfold ndV at *
    go_enter Try.func4, Try.ntmps4
    go_wp2_with fail
    refine hsm.mono ?_
    rw [← hW0]
    rintro e w1 ⟨rfl, hb1⟩
    have hA := HA.out w1
    have HB1 : Hid (Below w.heap.size w w1) := below_next HB.out hb1
    clear hsm hW0 hb1
    go_wp2_with fail
    refine hA.mono ?_
    rintro e w2 ⟨rfl, hb2⟩
    have HB2 : Hid (Below w.heap.size w w2) := below_next HB1.out hb2
    clear hA hb2 HB1
    go_wp2_with fail
    go_ret
    exact ⟨rfl, HB2.out⟩
  have hv : smallV (cntN t) 800 = 800 - (cntN t : Int) := by unfold smallV; rw [if_pos (by omega)]
  rw [hv] at hsm
  obtain ⟨lf, hlf⟩ : ∃ lf : Int, 800 - (cntN t : Int) = lf := ⟨_, rfl⟩
  have hlf0 : ¬ lf < 0 := by omega
  rw [hlf] at hsm
  have hc5 : cntN t ≤ 5000 := by omega
  have HP : Hid (∀ W, Below W0.heap.size W0 W → SlP p pv W) := fun W hW => (hp.next hB0).next hW
  have HP2 : Hid (∀ W, Below W0.heap.size W0 W → SlP p2 qv W) := fun W hW => (hp2.next hB0).next hW
  have HAC : Hid (∀ W, Below W0.heap.size W0 W → Calls Try.prog 23 #[ndV t.h (.slice ba t.kids.length bc)] W fun e w' => ∃ (L : List Pl) (rv : Value), L.map Prod.fst = allP [] t ∧ e = .returned rv ∧ OwnPP W.heap.size L rv w' ∧ Below W.heap.size W w') := fun W hW => all_any n t _ W (HT.out W hW) hc5
  have HAR : Hid (∀ W, Below W0.heap.size W0 W → Calls Try.prog 24 #[ndV t.h (.slice ba t.kids.length bc)] W fun e w' => ∃ (L : List Pl) (rv : Value), L.map Prod.fst = allP [] t ∧ e = .returned rv ∧ OwnPP W.heap.size L rv w' ∧ Below W.heap.size W w') := fun W hW => rAll_any n t _ W (HT.out W hW) hc5
  have HO : Hid (∀ W, Below W0.heap.size W0 W → (Calls Try.prog 25 #[pv, qv] W fun e w' => e = .returned (.int .i64 (ordN p p2)) ∧ w' = W) ∧ (Calls Try.prog 25 #[qv, pv] W fun e w' => e = .returned (.int .i64 (ordN p2 p)) ∧ w' = W) ∧ (Calls Try.prog 26 #[pv, qv] W fun e w' => e = .returned (.int .i64 (ordN p p2)) ∧ Below W.heap.size W w')) := fun W hW => ⟨order_any p p2 _ _ W (HP.out W hW) (HP2.out W hW) hpl hpl2, order_any p2 p _ _ W (HP2.out W hW) (HP.out W hW) hpl2 hpl, rorder_any p p2 _ _ W (HP.out W hW) (HP2.out W hW) hpl hpl2⟩
  have HPL : Hid ((allP [] t).length = cntN t ∧ 1 ≤ cntN t ∧ cntN t ≤ 800) := ⟨allP_len t [], cntN_pos t, hc⟩
  have hot := ordN_turn p p2
  have hor := ordN_range p p2
  generalize ordN p2 p = o2 at *
  generalize ordN p p2 = o1 at *
  have HA : Hid (∀ W, _) := awake_any
  obtain ⟨pa, pc, rfl, _⟩ := hp
  obtain ⟨qa, qc, rfl, _⟩ := hp2
  clear h hB0 hb0 hsz HT hc hc5 hlf hv HP HP2
  generalize allP [] t = PT at *
  generalize cntN t = ct at *
  generalize t.h = hd at *
  generalize t.kids.length = kl at *
  obtain ⟨zk, zn, zf, zr, zt, zb⟩ := hd
  rw [hW0] at hsm
  unfold ndV at *
  simp only at *
  have hnw : IntKind.i64.wrap (-o1) = o2 := by rw [IntWalk.i64_in _ (by omega)]; exact hot.symm
  have HOT : Hid _ := hot
  clear hot
  go_enter Try.func4, Try.ntmps4
  go_wp2_with fail
  refine hsm.mono ?_
  rw [← hW0]
  rintro e w1 ⟨rfl, hb1⟩
  clear hsm hW0
  have HW : Hid (Below W0.heap.size W0 w1) := hb1
  clear hb1
  go_wp2_with fail
  refine wp_region_L (fun W => W.cell? ⟨w.heap.size, 0, none⟩ = some (.string zk) ∧ W.cell? ⟨w.heap.size, 1, none⟩ = some (.bool zn) ∧ W.cell? ⟨w.heap.size, 2, none⟩ = some (.string zf) ∧ W.cell? ⟨w.heap.size, 3, none⟩ = some (.int .i64 zr) ∧ W.cell? ⟨w.heap.size, 4, none⟩ = some (.int .i64 zt) ∧ W.cell? ⟨w.heap.size, 5, none⟩ = some (.int .i64 zb) ∧ W.cell? ⟨w.heap.size, 6, none⟩ = some (.slice ba kl bc)) 6 (by kernel_rfl) 6 rfl ?_
  refine wpAnyL_take' (i := 0) (v := ?_) (oi := { dst := some 14, op := Op.load 24 (Operand.tmp 3), type := 24, pos := "law.go:63", after := #[], guard := none }) rfl (by kernel_rfl) (by kernel_rfl) (by kernel_rfl) (by kernel_rfl) rfl (fun _ _ _ h => h) (Or.inl ⟨by rfl, ?_⟩) (cells7_at (HR.out w1.drew HW.out.drew)) ?_
  rotate_left
  · intro W hSW
    go_simp
    try with_reducible rfl
  simp only [Act.put, List.setIfInBounds_toArray, List.set_cons_zero, List.set_cons_succ]
  refine wpAnyL_take' (i := 2) (v := ?_) (oi := { dst := some 16, op := Op.load 24 (Operand.tmp 3), type := 24, pos := "law.go:63", after := #[], guard := none }) rfl (by kernel_rfl) (by kernel_rfl) (by kernel_rfl) (by kernel_rfl) rfl (fun _ _ _ h => h) (Or.inl ⟨by rfl, ?_⟩) (cells7_at (HR.out w1.drew HW.out.drew)) ?_
  rotate_left
  · intro W hSW
    go_simp
    try with_reducible rfl
  simp only [Act.put, List.setIfInBounds_toArray, List.set_cons_zero, List.set_cons_succ]
  refine wpAnyL_one' (i := 1) (o := { dst := some 15, op := Op.call { callee := Callee.value (Operand.func 23), args := #[Operand.tmp 14], argTypes := #[24] }, type := 33, pos := "law.go:63", after := #[{ on := 0, ground := Ground.data }], guard := none }) (by kernel_rfl) rfl rfl (fun K hK => ?_)
  go_simp
  refine (HAC.out w1.drew HW.out.drew).mono ?_
  rintro e wA ⟨L1, r1, hL1, rfl, ho1, hb1⟩
  refine hK.out _ _ (fun _ => (cells7_at (HR.out wA (below_next HW.out.drew hb1)))) ?_
  clear hK
  refine wpAnyL_one' (i := 3) (o := { dst := some 17, op := Op.call { callee := Callee.value (Operand.func 24), args := #[Operand.tmp 16], argTypes := #[24] }, type := 33, pos := "law.go:63", after := #[{ on := 2, ground := Ground.data }, { on := 1, ground := Ground.chain }], guard := none }) (by kernel_rfl) rfl rfl (fun K hK => ?_)
  go_simp
  refine (HAR.out wA (below_next HW.out.drew hb1)).mono ?_
  rintro e wB ⟨L2, r2, hL2, rfl, ho2, hb2⟩
  refine hK.out _ _ (fun _ => (cells7_at (HR.out wB (below_next (below_next HW.out.drew hb1) hb2)))) ?_
  clear hK
  refine wpAnyL_take' (i := 4) (v := ?_) (oi := { dst := some 7, op := Op.assign (Operand.tmp 15), type := 33, pos := "law.go:63", after := #[{ on := 1, ground := Ground.data }, { on := 3, ground := Ground.chain }, { on := 0, ground := Ground.phase }, { on := 1, ground := Ground.phase }, { on := 2, ground := Ground.textOnly Departure.lateStores }, { on := 3, ground := Ground.textOnly Departure.lateStoresUnsure }], guard := none }) rfl (by kernel_rfl) (by kernel_rfl) (by kernel_rfl) (by kernel_rfl) rfl (fun _ _ _ h => h) (Or.inl ⟨by rfl, ?_⟩) (cells7_at (HR.out wB (below_next (below_next HW.out.drew hb1) hb2))) ?_
  rotate_left
  · intro W hSW
    go_simp
    try with_reducible rfl
  simp only [Act.put, List.setIfInBounds_toArray, List.set_cons_zero, List.set_cons_succ]
  refine wpAnyL_take' (i := 5) (v := ?_) (oi := { dst := some 8, op := Op.assign (Operand.tmp 17), type := 33, pos := "law.go:63", after := #[{ on := 3, ground := Ground.data }, { on := 4, ground := Ground.chain }, { on := 0, ground := Ground.phase }, { on := 1, ground := Ground.phase }, { on := 2, ground := Ground.phase }, { on := 3, ground := Ground.phase }, { on := 4, ground := Ground.phase }], guard := none }) rfl (by kernel_rfl) (by kernel_rfl) (by kernel_rfl) (by kernel_rfl) rfl (fun _ _ _ h => h) (Or.inl ⟨by rfl, ?_⟩) (cells7_at (HR.out wB (below_next (below_next HW.out.drew hb1) hb2))) ?_
  rotate_left
  · intro W hSW
    go_simp
    try with_reducible rfl
  simp only [Act.put, List.setIfInBounds_toArray, List.set_cons_zero, List.set_cons_succ]
  refine wpAnyL_done (by kernel_rfl) ?_ _
  obtain ⟨hl1, hl2, hl3⟩ := HPL.out
  have hn1 : L1.length = PT.length := by rw [← hL1, List.length_map]
  have hn2 : L2.length = PT.length := by rw [← hL2, List.length_map]
  obtain ⟨g1, c1, e1, m1, m2⟩ := ho1.at (i := 0) (by omega)
  clear m1 m2
  obtain ⟨g2, c2, e2, m1, m2⟩ := ho2.at (i := 0) (by omega)
  clear m1 m2
  subst e1 e2
  rw [hn1, hn2]
  have HWB : Hid (Below W0.heap.size W0 wB) := below_next (below_next HW.out.drew hb1) hb2
  have HAT : Hid (∀ W, Below wB.heap.size wB W → ∀ j, j < PT.length → ∃ (l : List Int) (x y : Value), W.cell? ⟨g1, j, none⟩ = some x ∧ W.cell? ⟨g2, j, none⟩ = some y ∧ SlP l x W ∧ SlP l y W) := fun W hW j hj => by
    have h1 : j < L1.length := by omega
    have h2 : j < L2.length := by omega
    obtain ⟨g, c, e, q1, q2⟩ := (ho1.next hb2).at h1
    obtain ⟨g', c', e', q3, q4⟩ := ho2.at h2
    injection e with e
    injection e with e
    injection e with e
    subst e
    injection e' with e'
    injection e' with e'
    injection e' with e'
    subst e'
    have hs : L1[j].1 = L2[j].1 := by
      have f1 : (L1.map Prod.fst)[j]? = (L2.map Prod.fst)[j]? := by rw [hL1, hL2]
      rw [List.getElem?_map, List.getElem?_map, List.getElem?_eq_getElem h1, List.getElem?_eq_getElem h2] at f1
      simpa using f1
    rw [← hs] at q4
    exact ⟨L1[j].1, _, _, (hW.cell (p := ⟨g1, j, none⟩) (World.block_lt_of_cell? _ _ q1)).trans q1, (hW.cell (p := ⟨g2, j, none⟩) (World.block_lt_of_cell? _ _ q3)).trans q3, q2.next hW, q4.next hW⟩
  have hpt : PT.length ≤ 800 := by omega
  clear hL1 hL2 ho1 ho2 hb1 hb2 hl1 hl2 hl3 hn1 hn2 HPL HAC HAR HW HR
  generalize PT.length = pl at *
  have hne : ((pl : Int) != (pl : Int)) = false := by simp
  go_wp2_with fail
  go_loopw [25] (fun c wr => ∃ j : Nat, c = .int .i64 j ∧ j ≤ pl ∧ Below wB.heap.size wB wr) (fun c _ => pl - (intOf c).toNat)
  case atStart => exact ⟨0, rfl, Nat.zero_le _, Below.refl _ _⟩
  case round =>
    obtain ⟨j, rfl, hj, hBj⟩ := hrel
    by_cases hlt : j < pl
    · have k1 : (j : Int) < (pl : Int) := by omega
      obtain ⟨l, x, y, hx, hy, hsx, hsy⟩ := HAT.out wr.drew hBj.drew j hlt
      have hin := ints_is l l x y wr.drew hsx hsy
      rw [decide_eq_true rfl] at hin
      obtain ⟨xa, xc, rfl, _⟩ := hsx
      obtain ⟨ya, yc, rfl, _⟩ := hsy
      obtain ⟨xl, hxl⟩ : ∃ xl, l.length = xl := ⟨_, rfl⟩
      obtain ⟨yl, hyl⟩ : ∃ yl, xl = yl := ⟨_, rfl⟩
      have HB : Hid (Below wB.heap.size wB wr.drew) := hBj.drew
      have c1 : wr.drew.cell? ⟨g1, j, none⟩ = some (.slice xa l.length xc) := hx
      have c2 : wr.drew.cell? ⟨g2, j, none⟩ = some (.slice ya l.length yc) := hy
      rw [hxl] at c1 c2 hin
      clear hx hy hxl hyl hBj
      go_wp2_with fail
      refine wp_region_L (fun W => W.cell? ⟨g1, j, none⟩ = some (.slice xa xl xc) ∧ W.cell? ⟨g2, j, none⟩ = some (.slice ya xl yc)) 10 (by kernel_rfl) 10 rfl ?_
      refine wpAnyL_take' (i := 0) (v := ?_) (oi := { dst := some 28, op := Op.move (Operand.tmp 7), type := 33, pos := "law.go:68", after := #[], guard := none }) rfl (by kernel_rfl) (by kernel_rfl) (by kernel_rfl) (by kernel_rfl) rfl (fun _ _ _ h => h) (Or.inl ⟨by rfl, ?_⟩) ⟨c1, c2⟩ ?_
      rotate_left
      · intro W hSW
        go_simp
        try with_reducible rfl
      simp only [Act.put, List.setIfInBounds_toArray, List.set_cons_zero, List.set_cons_succ]
      refine wpAnyL_take' (i := 1) (v := ?_) (oi := { dst := some 29, op := Op.move (Operand.tmp 9), type := 3, pos := "law.go:68", after := #[], guard := none }) rfl (by kernel_rfl) (by kernel_rfl) (by kernel_rfl) (by kernel_rfl) rfl (fun _ _ _ h => h) (Or.inl ⟨by rfl, ?_⟩) ⟨c1, c2⟩ ?_
      rotate_left
      · intro W hSW
        go_simp
        try with_reducible rfl
      simp only [Act.put, List.setIfInBounds_toArray, List.set_cons_zero, List.set_cons_succ]
      refine wpAnyL_take' (i := 2) (v := ?_) (oi := { dst := some 30, op := Op.indexAddr 33 (Operand.tmp 28) (Operand.tmp 29), type := 0, pos := "law.go:68", after := #[{ on := 0, ground := Ground.data }, { on := 1, ground := Ground.data }], guard := none }) rfl (by kernel_rfl) (by kernel_rfl) (by kernel_rfl) (by kernel_rfl) rfl (fun _ _ _ h => h) (Or.inl ⟨by rfl, ?_⟩) ⟨c1, c2⟩ ?_
      rotate_left
      · intro W hSW
        go_simp
        try with_reducible rfl
      simp only [Act.put, List.setIfInBounds_toArray, List.set_cons_zero, List.set_cons_succ]
      refine wpAnyL_take' (i := 3) (v := ?_) (oi := { dst := some 31, op := Op.load 25 (Operand.tmp 30), type := 25, pos := "law.go:68", after := #[{ on := 2, ground := Ground.data }], guard := none }) rfl (by kernel_rfl) (by kernel_rfl) (by kernel_rfl) (by kernel_rfl) rfl (fun _ _ _ h => h) (Or.inl ⟨by rfl, ?_⟩) ⟨c1, c2⟩ ?_
      rotate_left
      · intro W hSW
        go_simp
        try with_reducible rfl
      simp only [Act.put, List.setIfInBounds_toArray, List.set_cons_zero, List.set_cons_succ]
      refine wpAnyL_take' (i := 4) (v := ?_) (oi := { dst := some 32, op := Op.move (Operand.tmp 8), type := 33, pos := "law.go:68", after := #[], guard := none }) rfl (by kernel_rfl) (by kernel_rfl) (by kernel_rfl) (by kernel_rfl) rfl (fun _ _ _ h => h) (Or.inl ⟨by rfl, ?_⟩) ⟨c1, c2⟩ ?_
      rotate_left
      · intro W hSW
        go_simp
        try with_reducible rfl
      simp only [Act.put, List.setIfInBounds_toArray, List.set_cons_zero, List.set_cons_succ]
      refine wpAnyL_take' (i := 5) (v := ?_) (oi := { dst := some 33, op := Op.move (Operand.tmp 9), type := 3, pos := "law.go:68", after := #[], guard := none }) rfl (by kernel_rfl) (by kernel_rfl) (by kernel_rfl) (by kernel_rfl) rfl (fun _ _ _ h => h) (Or.inl ⟨by rfl, ?_⟩) ⟨c1, c2⟩ ?_
      rotate_left
      · intro W hSW
        go_simp
        try with_reducible rfl
      simp only [Act.put, List.setIfInBounds_toArray, List.set_cons_zero, List.set_cons_succ]
      refine wpAnyL_take' (i := 6) (v := ?_) (oi := { dst := some 34, op := Op.indexAddr 33 (Operand.tmp 32) (Operand.tmp 33), type := 0, pos := "law.go:68", after := #[{ on := 4, ground := Ground.data }, { on := 5, ground := Ground.data }], guard := none }) rfl (by kernel_rfl) (by kernel_rfl) (by kernel_rfl) (by kernel_rfl) rfl (fun _ _ _ h => h) (Or.inl ⟨by rfl, ?_⟩) ⟨c1, c2⟩ ?_
      rotate_left
      · intro W hSW
        go_simp
        try with_reducible rfl
      simp only [Act.put, List.setIfInBounds_toArray, List.set_cons_zero, List.set_cons_succ]
      refine wpAnyL_take' (i := 7) (v := ?_) (oi := { dst := some 35, op := Op.load 25 (Operand.tmp 34), type := 25, pos := "law.go:68", after := #[{ on := 6, ground := Ground.data }], guard := none }) rfl (by kernel_rfl) (by kernel_rfl) (by kernel_rfl) (by kernel_rfl) rfl (fun _ _ _ h => h) (Or.inl ⟨by rfl, ?_⟩) ⟨c1, c2⟩ ?_
      rotate_left
      · intro W hSW
        go_simp
        try with_reducible rfl
      simp only [Act.put, List.setIfInBounds_toArray, List.set_cons_zero, List.set_cons_succ]
      refine wpAnyL_one' (i := 8) (o := { dst := some 36, op := Op.call { callee := Callee.value (Operand.func 12), args := #[Operand.tmp 31, Operand.tmp 35], argTypes := #[25, 25] }, type := 4, pos := "law.go:68", after := #[{ on := 3, ground := Ground.data }, { on := 7, ground := Ground.data }], guard := none }) (by kernel_rfl) rfl rfl (fun K hK => ?_)
      go_simp
      refine (hin).mono ?_
      rintro e wi ⟨rfl, hbi⟩
      refine hK.out _ _ (fun _ => ⟨(hbi.cell (p := ⟨g1, j, none⟩) (World.block_lt_of_cell? _ _ c1)).trans c1, (hbi.cell (p := ⟨g2, j, none⟩) (World.block_lt_of_cell? _ _ c2)).trans c2⟩) ?_
      clear hK
      refine wpAnyL_take' (i := 9) (v := ?_) (oi := { dst := some 37, op := Op.unOp UnOp.not 4 (Operand.tmp 36), type := 4, pos := "law.go:68", after := #[{ on := 8, ground := Ground.data }], guard := none }) rfl (by kernel_rfl) (by kernel_rfl) (by kernel_rfl) (by kernel_rfl) rfl (fun _ _ _ h => h) (Or.inl ⟨by rfl, ?_⟩) ⟨(hbi.cell (p := ⟨g1, j, none⟩) (World.block_lt_of_cell? _ _ c1)).trans c1, (hbi.cell (p := ⟨g2, j, none⟩) (World.block_lt_of_cell? _ _ c2)).trans c2⟩ ?_
      rotate_left
      · intro W hSW
        go_simp
        try with_reducible rfl
      simp only [Act.put, List.setIfInBounds_toArray, List.set_cons_zero, List.set_cons_succ]
      refine wpAnyL_done (by kernel_rfl) ?_ _
      have HE : Hid (Below wB.heap.size wB wi) := below_next HB.out hbi
      clear hin hbi c1 c2
      go_wp2_with fail
      exact ⟨⟨j + 1, by go_num, by omega, HE.out⟩, by simp [intOf]; omega⟩
    · have k1 : ¬ (j : Int) < (pl : Int) := by omega
      have HWr : Hid (Below W0.heap.size W0 wr) := below_next HWB.out hBj
      obtain ⟨o3, o4, o5⟩ := HO.out wr HWr.out
      clear hBj
      go_wp2_with fail
      refine o3.mono ?_
      rintro e wx ⟨rfl, rfl⟩
      clear o3 o4
      go_wp2_with fail
      refine o5.mono ?_
      rintro e wy ⟨rfl, hby⟩
      clear o5
      have HWy : Hid (Below W0.heap.size W0 wy) := below_next HWr.out hby
      obtain ⟨o3, o4, o5⟩ := HO.out wy HWy.out
      have q1 : (o1 == o1) = true := by simp
      clear o5 hby
      go_wp2_with fail
      refine o4.mono ?_
      rintro e wz ⟨rfl, hz⟩
      obtain rfl : wy = wz := hz.symm
      clear o4 hz
      go_wp2_with fail
      refine o3.mono ?_
      rintro e wz ⟨rfl, hz⟩
      obtain rfl : wy = wz := hz.symm
      clear o3 hz
      have q2 : (o2 == o2) = true := by simp
      have hA := HA.out wy
      go_wp2_with fail
      refine hA.mono ?_
      rintro e w9 ⟨rfl, hb⟩
      have HW9 : Hid (Below w.heap.size w w9) := HB.out.trans ((below_next HWy.out hb).mono HB.out.size)
      clear hA hb
      go_wp2_with fail
      go_ret
      exact ⟨rfl, HW9.out⟩
end Go.Proofs.Ytmkkjjhlppagpaa
