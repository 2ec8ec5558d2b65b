/- CursorWalks: the law, for every tree. -/
import Derived.Test.YtmkkjjhlppagpaaLInts2
import Derived.Test.YtmkkjjhlppagpaaWkMath
namespace Go.Proofs.Ytmkkjjhlppagpaa
open Go.RowKit

set_option maxRecDepth 100000 in
set_option maxHeartbeats 8000000 in
theorem walks_any {A : Nat → Prop} (n : Nat) (t : Nd) (v : Value) (w : World) (h : TAt A n t v w) :
    Calls Try.prog 5 #[v] w fun e w' => e = .returned (.bool true) ∧ Below w.heap.size w w' := by
  obtain ⟨ba, bc, rfl, _⟩ := h.val
  obtain ⟨W0, hW0⟩ : ∃ W0, W0 = w.alloc (Obj.cells #[.string t.h.kind, .bool t.h.named, .string t.h.field, .int .i64 t.h.frm, .int .i64 t.h.to, .int .i64 t.h.bad, .slice ba t.kids.length bc] 24) := ⟨_, rfl⟩
  have hB0 : Below w.heap.size w W0 := by rw [hW0]; exact (Below.refl _ _).alloc (Nat.le_refl _) _
  have hb0 : W0.heap[w.heap.size]? = some (.cells #[.string t.h.kind, .bool t.h.named, .string t.h.field, .int .i64 t.h.frm, .int .i64 t.h.to, .int .i64 t.h.bad, .slice ba t.kids.length bc] 24 (0, 0)) := by rw [hW0]; exact World.alloc_heap_new w _
  have hsz : w.heap.size < W0.heap.size := by rw [hW0]; simp
  have HB : Hid (Below w.heap.size w W0) := hB0
  have HT : Hid (∀ W, Below W0.heap.size W0 W → TAt A n t (ndV t.h (.slice ba t.kids.length bc)) W) := fun W hW => (h.next hB0).next hW
  have HR : Hid (∀ W, Below W0.heap.size W0 W → W.heap[w.heap.size]? = some (.cells #[.string t.h.kind, .bool t.h.named, .string t.h.field, .int .i64 t.h.frm, .int .i64 t.h.to, .int .i64 t.h.bad, .slice ba t.kids.length bc] 24 (0, 0))) := fun W hW => (hW.block _ hsz).trans hb0
  have hsm := small_any n t _ 800 W0 (h.next hB0) (by decide) (by decide)
  by_cases hc : cntN t ≤ 800
  case neg =>
    have hv : smallV (cntN t) 800 = -1 := by unfold smallV; rw [if_neg (by omega)]
    rw [hv] at hsm
    have HA : Hid (∀ W, _) := awake_any
    clear h hB0 hb0 hsz HT HR
    rw [hW0] at hsm
    unfold ndV at *
    go_enter Try.func5, Try.ntmps5
    go_wp2_with fail
    refine hsm.mono ?_
    rw [← hW0]
    rintro e w1 ⟨rfl, hb1⟩
    have hA := HA.out w1
    have HB1 : Hid (Below w.heap.size w w1) := below_next HB.out hb1
    clear hsm hW0 hb1
    go_wp2_with fail
    refine hA.mono ?_
    rintro e w2 ⟨rfl, hb2⟩
    have HB2 : Hid (Below w.heap.size w w2) := below_next HB1.out hb2
    clear hA hb2 HB1
    go_wp2_with fail
    go_ret
    exact ⟨rfl, HB2.out⟩
  have hv : smallV (cntN t) 800 = 800 - (cntN t : Int) := by unfold smallV; rw [if_pos (by omega)]
  rw [hv] at hsm
  obtain ⟨lf, hlf⟩ : ∃ lf : Int, 800 - (cntN t : Int) = lf := ⟨_, rfl⟩
  have hlf0 : ¬ lf < 0 := by omega
  rw [hlf] at hsm
  have hc5 : cntN t ≤ 5000 := by omega
  have HAC : Hid (∀ W, Below W0.heap.size W0 W → Calls Try.prog 23 #[ndV t.h (.slice ba t.kids.length bc)] W fun e w' => ∃ (L : List Pl) (rv : Value), L.map Prod.fst = allP [] t ∧ e = .returned rv ∧ OwnPP W.heap.size L rv w' ∧ Below W.heap.size W w') := fun W hW => all_any n t _ W (HT.out W hW) hc5
  have HCN : Hid (∀ W, Below W0.heap.size W0 W → Calls Try.prog 27 #[ndV t.h (.slice ba t.kids.length bc)] W fun e w' => e = .returned (.tuple #[.int .i64 (cntN t), .int .i64 (deepR t)]) ∧ Below W.heap.size W w') := fun W hW => rcount_any n t _ W (HT.out W hW) hc5
  obtain ⟨hw1, hw2, hw3⟩ := walk_at t
  have hpl := allP_len t []
  have hpos := cntN_pos t
  obtain ⟨F, hF⟩ : ∃ F : Nat → List Int, ∀ j (h : j < (allP [] t).length), (allP [] t)[j] = F j := ⟨fun j => ((allP [] t)[j]?).getD [], fun j h => by simp [h]⟩
  obtain ⟨pl, hpl1⟩ : ∃ pl, cntN t = pl := ⟨_, rfl⟩
  have HF0 : Hid (F 0 = []) := by
    show F 0 = []
    obtain ⟨l, hl⟩ := hw3
    rw [← hF 0 (by omega)]
    simp [hl]
  have HM1 : Hid (∀ j, j + 1 < pl → nextN t (F j) = some (F (j + 1)) ∧ ordN (F j) (F (j + 1)) = -1) := fun j h => by
    have := hw1 j (by omega)
    rw [hF j (by omega), hF (j + 1) (by omega)] at this
    exact this
  have HM2 : Hid (∀ j, j + 1 = pl → nextN t (F j) = none) := fun j h => by
    have := hw2 j (by omega) (by omega)
    rw [hF j (by omega)] at this
    exact this
  have HFL : Hid (∀ j, j < pl → (allP [] t)[j]? = some (F j)) := fun j h => by
    rw [List.getElem?_eq_getElem (by omega), hF j (by omega)]
  have HLN : Hid (∀ j, j < pl → (F j).length ≤ 140737488351232) := fun j h => by
    have h2 := (walk_ok t).2.1 (F j) (by
      rw [← hF j (by omega)]
      exact List.getElem_mem _)
    cases hx : findN t (F j) with
    | none => rw [hx] at h2; cases h2
    | some x => have := findN_len (F j) t x hx; omega
  have HNX : Hid (∀ j, j < pl → ∀ (qv : Value) W, Below W0.heap.size W0 W → SlP (F j) qv W → Calls Try.prog 19 #[ndV t.h (.slice ba t.kids.length bc), qv] W fun e w' => GivesP W.heap.size (nextN t (F j)) e w' ∧ Below W.heap.size W w') := fun j hj qv W hW hs => next_any n t _ (F j) qv W (HT.out W hW) hc5 hs (HLN.out j hj)
  have HL1 : Hid ((allP [] t).length = pl ∧ 1 ≤ pl ∧ pl ≤ 800) := ⟨by omega, by omega, by omega⟩
  have HA : Hid (∀ W, _) := awake_any
  clear h hB0 hb0 hsz HT hc hc5 hlf hv hw1 hw2 hw3 hpos hF hpl
  generalize deepR t = dr at *
  rw [hpl1] at HCN
  clear hpl1
  generalize allP [] t = PT at *
  generalize t.h = hd at *
  generalize t.kids.length = kl at *
  obtain ⟨zk, zn, zf, zr, zt, zb⟩ := hd
  rw [hW0] at hsm
  unfold ndV at *
  simp only at *
  go_enter Try.func5, Try.ntmps5
  go_wp2_with fail
  refine hsm.mono ?_
  rw [← hW0]
  rintro e w1 ⟨rfl, hb1⟩
  clear hsm hW0
  have HW : Hid (Below W0.heap.size W0 w1) := hb1
  obtain ⟨v0, v1, v2, v3, v4, v5, v6⟩ := cells7_at (HR.out w1 HW.out)
  have hx := HAC.out w1 HW.out
  clear hb1 HAC
  go_wp2_with fail
  refine hx.mono ?_
  rintro e wA ⟨L1, r1, hL1, rfl, ho1, hb⟩
  have HWA : Hid (Below W0.heap.size W0 wA) := below_next HW.out hb
  clear hx hb v0 v1 v2 v3 v4 v5 v6
  obtain ⟨v0, v1, v2, v3, v4, v5, v6⟩ := cells7_at (HR.out wA HWA.out)
  have hx := HCN.out wA HWA.out
  obtain ⟨hl1, hl2, hl3⟩ := HL1.out
  have hn1 : L1.length = pl := by rw [← hl1, ← hL1, List.length_map]
  obtain ⟨g1, cc, e1, m1, m2⟩ := ho1.at (i := 0) (by omega)
  clear m1 m2
  subst e1
  have HAT0 : Hid (∀ W, Below wA.heap.size wA W → ∀ j, j < pl → ∃ x, W.cell? ⟨g1, j, none⟩ = some x ∧ SlP (F j) x W) := fun W hW j hj => by
    have h1 : j < L1.length := by omega
    obtain ⟨g, c, e, q1, q2⟩ := ho1.at h1
    injection e with e
    injection e with e
    injection e with e
    subst e
    have hs : L1[j].1 = F j := by
      have f1 : (L1.map Prod.fst)[j]? = some (F j) := by rw [hL1, HFL.out j hj]
      rw [List.getElem?_map, List.getElem?_eq_getElem h1] at f1
      simpa using f1
    rw [hs] at q2
    exact ⟨_, (hW.cell (p := ⟨g1, j, none⟩) (World.block_lt_of_cell? _ _ q1)).trans q1, q2.next hW⟩
  rw [hn1]
  clear ho1 hL1 hn1 hl1 HL1
  clear HCN HW
  go_wp2_with fail
  refine hx.mono ?_
  rintro e wB ⟨rfl, hb⟩
  have HWB : Hid (Below W0.heap.size W0 wB) := below_next HWA.out hb
  have HAT : Hid (∀ W, Below wB.heap.size wB W → ∀ j, j < pl → ∃ x, W.cell? ⟨g1, j, none⟩ = some x ∧ SlP (F j) x W) := fun W hW => HAT0.out W (below_next hb hW)
  clear hx hb v0 v1 v2 v3 v4 v5 v6 HWA HAT0
  have hne : ((pl : Int) != (pl : Int)) = false := by simp
  obtain ⟨pl', hpl'⟩ : ∃ m, pl = m + 1 := ⟨pl - 1, by omega⟩
  have HPL : Hid (pl = pl' + 1) := hpl'
  have hsub : IntKind.i64.wrap ((pl : Int) - 1) = (pl' : Int) := by rw [IntWalk.i64_in _ (by omega)]; omega
  clear hpl'
  go_wp2_with fail
  go_loopw [6, 27] (fun pv c wr => ∃ (j : Nat) (na : Option Addr) (nn nc : Nat), pv = .slice na nn nc ∧ c = .int .i64 j ∧ j ≤ pl ∧ Below wB.heap.size wB wr ∧ Hid (j < pl → SlP (F j) (.slice na nn nc) wr)) (fun _ c _ => pl - (intOf c).toNat)
  case atStart => exact ⟨0, none, 0, 0, rfl, rfl, Nat.zero_le _, Below.refl _ _, fun _ => by rw [HF0.out]; exact SlP.nil _⟩
  case round =>
    obtain ⟨j, na, nn, nc, rfl, rfl, hj, hBj, HSP⟩ := hrel
    by_cases hlt : j < pl
    · have k1 : (j : Int) < (pl : Int) := by omega
      have HS : Hid (SlP (F j) (.slice na nn nc) wr) := HSP.out hlt
      obtain ⟨x, hx, hsx⟩ := HAT.out wr.drew hBj.drew j hlt
      have hin := ints_is (F j) (F j) (.slice na nn nc) x wr.drew (by
        obtain ⟨a, c, e, q1, q2⟩ := HS.out
        exact ⟨a, c, e, fun i x hx => q1 i x hx, q2⟩) hsx
      rw [decide_eq_true rfl] at hin
      have HB : Hid (Below wB.heap.size wB wr.drew) := hBj.drew
      have HSD : Hid (SlP (F j) (.slice na nn nc) wr.drew) := by
        obtain ⟨a, c, e, q1, q2⟩ := HS.out
        exact ⟨a, c, e, fun i x hx => q1 i x hx, q2⟩
      rcases Nat.eq_zero_or_pos j with h0 | h0
      · subst h0
        obtain ⟨xa, xc, rfl, _⟩ := hsx
        obtain ⟨xl, hxl⟩ : ∃ xl, (F 0).length = xl := ⟨_, rfl⟩
        rw [hxl] at hx hin
        have c1 : wr.drew.cell? ⟨g1, 0, none⟩ = some (.slice xa xl xc) := hx
        clear hx hxl hBj HSP HS
        go_wp2_with fail
        refine wp_region_L (fun W => W.cell? ⟨g1, 0, none⟩ = some (.slice xa xl xc)) 24 (by kernel_rfl) 24 rfl ?_
        refine wpAnyL_take' (i := 0) (v := ?_) (oi := { dst := some 30, op := Op.move (Operand.tmp 6), type := 25, pos := "law.go:87", after := #[], guard := none }) rfl (by kernel_rfl) (by kernel_rfl) (by kernel_rfl) (by kernel_rfl) rfl (fun _ _ _ h => h) (Or.inl ⟨by rfl, ?_⟩) c1 ?_
        rotate_left
        · intro W hSW
          go_simp
          try with_reducible rfl
        simp only [Act.put, List.setIfInBounds_toArray, List.set_cons_zero, List.set_cons_succ]
        refine wpAnyL_take' (i := 1) (v := ?_) (oi := { dst := some 31, op := Op.move (Operand.tmp 3), type := 33, pos := "law.go:87", after := #[], guard := none }) rfl (by kernel_rfl) (by kernel_rfl) (by kernel_rfl) (by kernel_rfl) rfl (fun _ _ _ h => h) (Or.inl ⟨by rfl, ?_⟩) c1 ?_
        rotate_left
        · intro W hSW
          go_simp
          try with_reducible rfl
        simp only [Act.put, List.setIfInBounds_toArray, List.set_cons_zero, List.set_cons_succ]
        refine wpAnyL_take' (i := 2) (v := ?_) (oi := { dst := some 32, op := Op.move (Operand.tmp 7), type := 3, pos := "law.go:87", after := #[], guard := none }) rfl (by kernel_rfl) (by kernel_rfl) (by kernel_rfl) (by kernel_rfl) rfl (fun _ _ _ h => h) (Or.inl ⟨by rfl, ?_⟩) c1 ?_
        rotate_left
        · intro W hSW
          go_simp
          try with_reducible rfl
        simp only [Act.put, List.setIfInBounds_toArray, List.set_cons_zero, List.set_cons_succ]
        refine wpAnyL_take' (i := 3) (v := ?_) (oi := { dst := some 33, op := Op.indexAddr 33 (Operand.tmp 31) (Operand.tmp 32), type := 0, pos := "law.go:87", after := #[{ on := 1, ground := Ground.data }, { on := 2, ground := Ground.data }], guard := none }) rfl (by kernel_rfl) (by kernel_rfl) (by kernel_rfl) (by kernel_rfl) rfl (fun _ _ _ h => h) (Or.inl ⟨by rfl, ?_⟩) c1 ?_
        rotate_left
        · intro W hSW
          go_simp
          try with_reducible rfl
        simp only [Act.put, List.setIfInBounds_toArray, List.set_cons_zero, List.set_cons_succ]
        refine wpAnyL_take' (i := 4) (v := ?_) (oi := { dst := some 34, op := Op.load 25 (Operand.tmp 33), type := 25, pos := "law.go:87", after := #[{ on := 3, ground := Ground.data }], guard := none }) rfl (by kernel_rfl) (by kernel_rfl) (by kernel_rfl) (by kernel_rfl) rfl (fun _ _ _ h => h) (Or.inl ⟨by rfl, ?_⟩) c1 ?_
        rotate_left
        · intro W hSW
          go_simp
          try with_reducible rfl
        simp only [Act.put, List.setIfInBounds_toArray, List.set_cons_zero, List.set_cons_succ]
        refine wpAnyL_one' (i := 5) (o := { dst := some 35, op := Op.call { callee := Callee.value (Operand.func 12), args := #[Operand.tmp 30, Operand.tmp 34], argTypes := #[25, 25] }, type := 4, pos := "law.go:87", after := #[{ on := 0, ground := Ground.data }, { on := 4, ground := Ground.data }], guard := none }) (by kernel_rfl) rfl rfl (fun K hK => ?_)
        go_simp
        refine (hin).mono ?_
        rintro e wi ⟨rfl, hbi⟩
        refine hK.out _ _ (fun _ => ((hbi.cell (p := ⟨g1, 0, none⟩) (World.block_lt_of_cell? _ _ c1)).trans c1)) ?_
        clear hK
        refine wpAnyL_take' (i := 6) (v := ?_) (oi := { dst := some 36, op := Op.unOp UnOp.not 4 (Operand.tmp 35), type := 4, pos := "law.go:87", after := #[{ on := 5, ground := Ground.data }], guard := none }) rfl (by kernel_rfl) (by kernel_rfl) (by kernel_rfl) (by kernel_rfl) rfl (fun _ _ _ h => h) (Or.inl ⟨by rfl, ?_⟩) ((hbi.cell (p := ⟨g1, 0, none⟩) (World.block_lt_of_cell? _ _ c1)).trans c1) ?_
        rotate_left
        · intro W hSW
          go_simp
          try with_reducible rfl
        simp only [Act.put, List.setIfInBounds_toArray, List.set_cons_zero, List.set_cons_succ]
        refine wpAnyL_take' (i := 7) (v := ?_) (oi := { dst := some 37, op := Op.move (Operand.tmp 36), type := 4, pos := "law.go:87", after := #[{ on := 6, ground := Ground.data }, { on := 5, ground := Ground.chain }], guard := none }) rfl (by kernel_rfl) (by kernel_rfl) (by kernel_rfl) (by kernel_rfl) rfl (fun _ _ _ h => h) (Or.inl ⟨by rfl, ?_⟩) ((hbi.cell (p := ⟨g1, 0, none⟩) (World.block_lt_of_cell? _ _ c1)).trans c1) ?_
        rotate_left
        · intro W hSW
          go_simp
          try with_reducible rfl
        simp only [Act.put, List.setIfInBounds_toArray, List.set_cons_zero, List.set_cons_succ]
        refine wpAnyL_take' (i := 8) (v := ?_) (oi := { dst := some 38, op := Op.move (Operand.tmp 7), type := 3, pos := "law.go:87", after := #[{ on := 7, ground := Ground.guard }], guard := some (7, false) }) rfl (by kernel_rfl) (by kernel_rfl) (by kernel_rfl) (by kernel_rfl) rfl (fun _ _ _ h => h) (Or.inl ⟨by rfl, ?_⟩) ((hbi.cell (p := ⟨g1, 0, none⟩) (World.block_lt_of_cell? _ _ c1)).trans c1) ?_
        rotate_left
        · intro W hSW
          go_simp
          try with_reducible rfl
        simp only [Act.put, List.setIfInBounds_toArray, List.set_cons_zero, List.set_cons_succ]
        refine wpAnyL_take' (i := 9) (v := ?_) (oi := { dst := some 39, op := Op.binOp BinOp.gtr 3 (Operand.tmp 38) (Operand.const (Value.int IntKind.i64 0)) 3, type := 4, pos := "law.go:87", after := #[{ on := 8, ground := Ground.data }, { on := 7, ground := Ground.guard }], guard := some (7, false) }) rfl (by kernel_rfl) (by kernel_rfl) (by kernel_rfl) (by kernel_rfl) rfl (fun _ _ _ h => h) (Or.inl ⟨by rfl, ?_⟩) ((hbi.cell (p := ⟨g1, 0, none⟩) (World.block_lt_of_cell? _ _ c1)).trans c1) ?_
        rotate_left
        · intro W hSW
          go_simp
          try with_reducible rfl
        simp only [Act.put, List.setIfInBounds_toArray, List.set_cons_zero, List.set_cons_succ]
        refine wpAnyL_take' (i := 10) (v := ?_) (oi := { dst := some 40, op := Op.move (Operand.tmp 39), type := 4, pos := "law.go:87", after := #[{ on := 9, ground := Ground.data }, { on := 7, ground := Ground.chain }, { on := 7, ground := Ground.guard }], guard := some (7, false) }) rfl (by kernel_rfl) (by kernel_rfl) (by kernel_rfl) (by kernel_rfl) rfl (fun _ _ _ h => h) (Or.inl ⟨by rfl, ?_⟩) ((hbi.cell (p := ⟨g1, 0, none⟩) (World.block_lt_of_cell? _ _ c1)).trans c1) ?_
        rotate_left
        · intro W hSW
          go_simp
          try with_reducible rfl
        simp only [Act.put, List.setIfInBounds_toArray, List.set_cons_zero, List.set_cons_succ]
        refine wpAnyL_take' (i := 11) (v := undef) (oi := { dst := some 41, op := Op.move (Operand.tmp 3), type := 33, pos := "law.go:87", after := #[{ on := 10, ground := Ground.guard }], guard := some (10, true) }) rfl (by kernel_rfl) (by kernel_rfl) (by kernel_rfl) (by kernel_rfl) rfl (fun _ _ _ h => h) (Or.inr ⟨by rfl, rfl⟩) ((hbi.cell (p := ⟨g1, 0, none⟩) (World.block_lt_of_cell? _ _ c1)).trans c1) ?_
        simp only [Act.put, List.setIfInBounds_toArray, List.set_cons_zero, List.set_cons_succ]
        refine wpAnyL_take' (i := 12) (v := undef) (oi := { dst := some 42, op := Op.move (Operand.tmp 7), type := 3, pos := "law.go:87", after := #[{ on := 10, ground := Ground.guard }], guard := some (10, true) }) rfl (by kernel_rfl) (by kernel_rfl) (by kernel_rfl) (by kernel_rfl) rfl (fun _ _ _ h => h) (Or.inr ⟨by rfl, rfl⟩) ((hbi.cell (p := ⟨g1, 0, none⟩) (World.block_lt_of_cell? _ _ c1)).trans c1) ?_
        simp only [Act.put, List.setIfInBounds_toArray, List.set_cons_zero, List.set_cons_succ]
        refine wpAnyL_take' (i := 13) (v := undef) (oi := { dst := some 43, op := Op.binOp BinOp.sub 3 (Operand.tmp 42) (Operand.const (Value.int IntKind.i64 1)) 3, type := 3, pos := "law.go:87", after := #[{ on := 12, ground := Ground.data }, { on := 10, ground := Ground.guard }], guard := some (10, true) }) rfl (by kernel_rfl) (by kernel_rfl) (by kernel_rfl) (by kernel_rfl) rfl (fun _ _ _ h => h) (Or.inr ⟨by rfl, rfl⟩) ((hbi.cell (p := ⟨g1, 0, none⟩) (World.block_lt_of_cell? _ _ c1)).trans c1) ?_
        simp only [Act.put, List.setIfInBounds_toArray, List.set_cons_zero, List.set_cons_succ]
        refine wpAnyL_take' (i := 14) (v := undef) (oi := { dst := some 44, op := Op.indexAddr 33 (Operand.tmp 41) (Operand.tmp 43), type := 0, pos := "law.go:87", after := #[{ on := 11, ground := Ground.data }, { on := 13, ground := Ground.data }, { on := 10, ground := Ground.guard }], guard := some (10, true) }) rfl (by kernel_rfl) (by kernel_rfl) (by kernel_rfl) (by kernel_rfl) rfl (fun _ _ _ h => h) (Or.inr ⟨by rfl, rfl⟩) ((hbi.cell (p := ⟨g1, 0, none⟩) (World.block_lt_of_cell? _ _ c1)).trans c1) ?_
        simp only [Act.put, List.setIfInBounds_toArray, List.set_cons_zero, List.set_cons_succ]
        refine wpAnyL_take' (i := 15) (v := undef) (oi := { dst := some 45, op := Op.load 25 (Operand.tmp 44), type := 25, pos := "law.go:87", after := #[{ on := 14, ground := Ground.data }, { on := 10, ground := Ground.guard }], guard := some (10, true) }) rfl (by kernel_rfl) (by kernel_rfl) (by kernel_rfl) (by kernel_rfl) rfl (fun _ _ _ h => h) (Or.inr ⟨by rfl, rfl⟩) ((hbi.cell (p := ⟨g1, 0, none⟩) (World.block_lt_of_cell? _ _ c1)).trans c1) ?_
        simp only [Act.put, List.setIfInBounds_toArray, List.set_cons_zero, List.set_cons_succ]
        refine wpAnyL_take' (i := 16) (v := undef) (oi := { dst := some 46, op := Op.move (Operand.tmp 3), type := 33, pos := "law.go:87", after := #[{ on := 10, ground := Ground.guard }], guard := some (10, true) }) rfl (by kernel_rfl) (by kernel_rfl) (by kernel_rfl) (by kernel_rfl) rfl (fun _ _ _ h => h) (Or.inr ⟨by rfl, rfl⟩) ((hbi.cell (p := ⟨g1, 0, none⟩) (World.block_lt_of_cell? _ _ c1)).trans c1) ?_
        simp only [Act.put, List.setIfInBounds_toArray, List.set_cons_zero, List.set_cons_succ]
        refine wpAnyL_take' (i := 17) (v := undef) (oi := { dst := some 47, op := Op.move (Operand.tmp 7), type := 3, pos := "law.go:87", after := #[{ on := 10, ground := Ground.guard }], guard := some (10, true) }) rfl (by kernel_rfl) (by kernel_rfl) (by kernel_rfl) (by kernel_rfl) rfl (fun _ _ _ h => h) (Or.inr ⟨by rfl, rfl⟩) ((hbi.cell (p := ⟨g1, 0, none⟩) (World.block_lt_of_cell? _ _ c1)).trans c1) ?_
        simp only [Act.put, List.setIfInBounds_toArray, List.set_cons_zero, List.set_cons_succ]
        refine wpAnyL_take' (i := 18) (v := undef) (oi := { dst := some 48, op := Op.indexAddr 33 (Operand.tmp 46) (Operand.tmp 47), type := 0, pos := "law.go:87", after := #[{ on := 16, ground := Ground.data }, { on := 17, ground := Ground.data }, { on := 10, ground := Ground.guard }], guard := some (10, true) }) rfl (by kernel_rfl) (by kernel_rfl) (by kernel_rfl) (by kernel_rfl) rfl (fun _ _ _ h => h) (Or.inr ⟨by rfl, rfl⟩) ((hbi.cell (p := ⟨g1, 0, none⟩) (World.block_lt_of_cell? _ _ c1)).trans c1) ?_
        simp only [Act.put, List.setIfInBounds_toArray, List.set_cons_zero, List.set_cons_succ]
        refine wpAnyL_take' (i := 19) (v := undef) (oi := { dst := some 49, op := Op.load 25 (Operand.tmp 48), type := 25, pos := "law.go:87", after := #[{ on := 18, ground := Ground.data }, { on := 10, ground := Ground.guard }], guard := some (10, true) }) rfl (by kernel_rfl) (by kernel_rfl) (by kernel_rfl) (by kernel_rfl) rfl (fun _ _ _ h => h) (Or.inr ⟨by rfl, rfl⟩) ((hbi.cell (p := ⟨g1, 0, none⟩) (World.block_lt_of_cell? _ _ c1)).trans c1) ?_
        simp only [Act.put, List.setIfInBounds_toArray, List.set_cons_zero, List.set_cons_succ]
        refine wpAnyL_take' (i := 20) (v := undef) (oi := { dst := some 50, op := Op.call { callee := Callee.value (Operand.func 25), args := #[Operand.tmp 45, Operand.tmp 49], argTypes := #[25, 25] }, type := 3, pos := "law.go:87", after := #[{ on := 15, ground := Ground.data }, { on := 19, ground := Ground.data }, { on := 10, ground := Ground.chain }, { on := 10, ground := Ground.guard }], guard := some (10, true) }) rfl (by kernel_rfl) (by kernel_rfl) (by kernel_rfl) (by kernel_rfl) rfl (fun _ _ _ h => h) (Or.inr ⟨by rfl, rfl⟩) ((hbi.cell (p := ⟨g1, 0, none⟩) (World.block_lt_of_cell? _ _ c1)).trans c1) ?_
        simp only [Act.put, List.setIfInBounds_toArray, List.set_cons_zero, List.set_cons_succ]
        refine wpAnyL_take' (i := 21) (v := undef) (oi := { dst := some 51, op := Op.binOp BinOp.neq 3 (Operand.tmp 50) (Operand.const (Value.int IntKind.i64 (-1))) 3, type := 4, pos := "law.go:87", after := #[{ on := 20, ground := Ground.data }, { on := 10, ground := Ground.guard }], guard := some (10, true) }) rfl (by kernel_rfl) (by kernel_rfl) (by kernel_rfl) (by kernel_rfl) rfl (fun _ _ _ h => h) (Or.inr ⟨by rfl, rfl⟩) ((hbi.cell (p := ⟨g1, 0, none⟩) (World.block_lt_of_cell? _ _ c1)).trans c1) ?_
        simp only [Act.put, List.setIfInBounds_toArray, List.set_cons_zero, List.set_cons_succ]
        refine wpAnyL_take' (i := 22) (v := ?_) (oi := { dst := some 52, op := Op.pick (Operand.tmp 40) (Operand.tmp 51) (Operand.const (Value.bool false)), type := 4, pos := "law.go:87", after := #[{ on := 10, ground := Ground.data }, { on := 21, ground := Ground.data }, { on := 7, ground := Ground.guard }], guard := some (7, false) }) rfl (by kernel_rfl) (by kernel_rfl) (by kernel_rfl) (by kernel_rfl) rfl (fun _ _ _ h => h) (Or.inl ⟨by rfl, ?_⟩) ((hbi.cell (p := ⟨g1, 0, none⟩) (World.block_lt_of_cell? _ _ c1)).trans c1) ?_
        rotate_left
        · intro W hSW
          go_simp
          try with_reducible rfl
        simp only [Act.put, List.setIfInBounds_toArray, List.set_cons_zero, List.set_cons_succ]
        refine wpAnyL_take' (i := 23) (v := ?_) (oi := { dst := some 53, op := Op.pick (Operand.tmp 37) (Operand.const (Value.bool true)) (Operand.tmp 52), type := 4, pos := "law.go:87", after := #[{ on := 7, ground := Ground.data }, { on := 22, ground := Ground.data }], guard := none }) rfl (by kernel_rfl) (by kernel_rfl) (by kernel_rfl) (by kernel_rfl) rfl (fun _ _ _ h => h) (Or.inl ⟨by rfl, ?_⟩) ((hbi.cell (p := ⟨g1, 0, none⟩) (World.block_lt_of_cell? _ _ c1)).trans c1) ?_
        rotate_left
        · intro W hSW
          go_simp
          try with_reducible rfl
        simp only [Act.put, List.setIfInBounds_toArray, List.set_cons_zero, List.set_cons_succ]
        refine wpAnyL_done (by kernel_rfl) ?_ _
        have HWi : Hid (Below wB.heap.size wB wi ∧ Below W0.heap.size W0 wi) := ⟨(below_next HB.out hbi), below_next HWB.out (below_next HB.out hbi)⟩
        obtain ⟨v0, v1, v2, v3, v4, v5, v6⟩ := cells7_at (HR.out wi HWi.out.2)
        have hx := HNX.out 0 hlt _ wi HWi.out.2 (HSD.out.next hbi)
        clear hin hbi c1 HSD
        go_wp2_with fail
        refine hx.mono ?_
        rintro e wn ⟨⟨nv, rfl, hno⟩, hb⟩
        have HWn : Hid (Below wB.heap.size wB wn ∧ Below W0.heap.size W0 wn) := ⟨below_next HWi.out.1 hb, below_next HWi.out.2 hb⟩
        have HNV : Hid (SlP ((nextN t (F 0)).getD []) nv wn) := SlP.of_own hno
        obtain ⟨na, nn, nc, rfl⟩ : ∃ na nn nc, nv = .slice na nn nc := by
          obtain ⟨a, c, e, _⟩ := SlP.of_own hno
          exact ⟨a, _, c, e⟩
        clear hx hb hno v0 v1 v2 v3 v4 v5 v6
        by_cases hj2 : 0 < pl'
        · have hm := (HM1.out 0 (by have := HPL.out; omega)).1
          rw [hm] at HNV
          have l1 : (0 : Int) < (pl' : Int) := by omega
          have l2 : decide ((0 : Int) < (pl' : Int)) = true := decide_eq_true l1
          rw [hm]
          simp only [Option.isSome_some]
          go_wp2_with fail
          exact ⟨⟨0 + 1, na, nn, nc, rfl, by go_num, by omega, HWn.out.1, fun _ => HNV.out⟩, by simp [intOf]; omega⟩
        · have hm := HM2.out 0 (by have := HPL.out; omega)
          have l1 : ¬ (0 : Int) < (pl' : Int) := by omega
          have l2 : decide ((0 : Int) < (pl' : Int)) = false := decide_eq_false l1
          rw [hm]
          simp only [Option.isSome_none]
          go_wp2_with fail
          exact ⟨⟨0 + 1, na, nn, nc, rfl, by go_num, by omega, HWn.out.1, fun h => by have := HPL.out; omega⟩, by simp [intOf]; omega⟩
      · obtain ⟨i, hi⟩ : ∃ i, j = i + 1 := ⟨j - 1, by omega⟩
        obtain ⟨y, hy, hsy⟩ := HAT.out wr.drew hBj.drew i (by omega)
        have hor : Hid (∀ W, Below wr.drew.heap.size wr.drew W → Calls Try.prog 25 #[y, x] W fun e w' => e = .returned (.int .i64 (-1)) ∧ w' = W) := fun W hW => by
          have := order_any (F i) (F j) y x W (hsy.next hW) (hsx.next hW) (HLN.out i (by omega)) (HLN.out j hlt)
          have hm := (HM1.out i (by omega)).2
          rw [← hi] at hm
          rw [hm] at this
          exact this
        have HIJ : Hid (j = i + 1) := hi
        obtain ⟨xa, xc, rfl, _⟩ := hsx
        obtain ⟨ya, yc, rfl, _⟩ := hsy
        obtain ⟨xl, hxl⟩ : ∃ xl, (F j).length = xl := ⟨_, rfl⟩
        obtain ⟨yl, hyl⟩ : ∃ yl, (F i).length = yl := ⟨_, rfl⟩
        rw [hxl] at hx hin hor
        rw [hyl] at hy hor
        have c1 : wr.drew.cell? ⟨g1, j, none⟩ = some (.slice xa xl xc) := hx
        have c2 : wr.drew.cell? ⟨g1, i, none⟩ = some (.slice ya yl yc) := hy
        have k2 : (0 : Int) < (j : Int) := by omega
        have k3 : IntKind.i64.wrap ((j : Int) - 1) = (i : Int) := by rw [IntWalk.i64_in _ (by omega)]; omega
        have k4 : (i : Int) < (pl : Int) := by omega
        clear hx hy hxl hyl hBj HSP HS hi
        go_wp2_with fail
        refine wp_region_L (fun W => W.cell? ⟨g1, j, none⟩ = some (.slice xa xl xc) ∧ W.cell? ⟨g1, i, none⟩ = some (.slice ya yl yc)) 24 (by kernel_rfl) 24 rfl ?_
        refine wpAnyL_take' (i := 0) (v := ?_) (oi := { dst := some 30, op := Op.move (Operand.tmp 6), type := 25, pos := "law.go:87", after := #[], guard := none }) rfl (by kernel_rfl) (by kernel_rfl) (by kernel_rfl) (by kernel_rfl) rfl (fun _ _ _ h => h) (Or.inl ⟨by rfl, ?_⟩) ⟨c1, c2⟩ ?_
        rotate_left
        · intro W hSW
          go_simp
          try with_reducible rfl
        simp only [Act.put, List.setIfInBounds_toArray, List.set_cons_zero, List.set_cons_succ]
        refine wpAnyL_take' (i := 1) (v := ?_) (oi := { dst := some 31, op := Op.move (Operand.tmp 3), type := 33, pos := "law.go:87", after := #[], guard := none }) rfl (by kernel_rfl) (by kernel_rfl) (by kernel_rfl) (by kernel_rfl) rfl (fun _ _ _ h => h) (Or.inl ⟨by rfl, ?_⟩) ⟨c1, c2⟩ ?_
        rotate_left
        · intro W hSW
          go_simp
          try with_reducible rfl
        simp only [Act.put, List.setIfInBounds_toArray, List.set_cons_zero, List.set_cons_succ]
        refine wpAnyL_take' (i := 2) (v := ?_) (oi := { dst := some 32, op := Op.move (Operand.tmp 7), type := 3, pos := "law.go:87", after := #[], guard := none }) rfl (by kernel_rfl) (by kernel_rfl) (by kernel_rfl) (by kernel_rfl) rfl (fun _ _ _ h => h) (Or.inl ⟨by rfl, ?_⟩) ⟨c1, c2⟩ ?_
        rotate_left
        · intro W hSW
          go_simp
          try with_reducible rfl
        simp only [Act.put, List.setIfInBounds_toArray, List.set_cons_zero, List.set_cons_succ]
        refine wpAnyL_take' (i := 3) (v := ?_) (oi := { dst := some 33, op := Op.indexAddr 33 (Operand.tmp 31) (Operand.tmp 32), type := 0, pos := "law.go:87", after := #[{ on := 1, ground := Ground.data }, { on := 2, ground := Ground.data }], guard := none }) rfl (by kernel_rfl) (by kernel_rfl) (by kernel_rfl) (by kernel_rfl) rfl (fun _ _ _ h => h) (Or.inl ⟨by rfl, ?_⟩) ⟨c1, c2⟩ ?_
        rotate_left
        · intro W hSW
          go_simp
          try with_reducible rfl
        simp only [Act.put, List.setIfInBounds_toArray, List.set_cons_zero, List.set_cons_succ]
        refine wpAnyL_take' (i := 4) (v := ?_) (oi := { dst := some 34, op := Op.load 25 (Operand.tmp 33), type := 25, pos := "law.go:87", after := #[{ on := 3, ground := Ground.data }], guard := none }) rfl (by kernel_rfl) (by kernel_rfl) (by kernel_rfl) (by kernel_rfl) rfl (fun _ _ _ h => h) (Or.inl ⟨by rfl, ?_⟩) ⟨c1, c2⟩ ?_
        rotate_left
        · intro W hSW
          go_simp
          try with_reducible rfl
        simp only [Act.put, List.setIfInBounds_toArray, List.set_cons_zero, List.set_cons_succ]
        refine wpAnyL_one' (i := 5) (o := { dst := some 35, op := Op.call { callee := Callee.value (Operand.func 12), args := #[Operand.tmp 30, Operand.tmp 34], argTypes := #[25, 25] }, type := 4, pos := "law.go:87", after := #[{ on := 0, ground := Ground.data }, { on := 4, ground := Ground.data }], guard := none }) (by kernel_rfl) rfl rfl (fun K hK => ?_)
        go_simp
        refine (hin).mono ?_
        rintro e wi ⟨rfl, hbi⟩
        refine hK.out _ _ (fun _ => ⟨(hbi.cell (p := ⟨g1, j, none⟩) (World.block_lt_of_cell? _ _ c1)).trans c1, (hbi.cell (p := ⟨g1, i, none⟩) (World.block_lt_of_cell? _ _ c2)).trans c2⟩) ?_
        clear hK
        refine wpAnyL_take' (i := 6) (v := ?_) (oi := { dst := some 36, op := Op.unOp UnOp.not 4 (Operand.tmp 35), type := 4, pos := "law.go:87", after := #[{ on := 5, ground := Ground.data }], guard := none }) rfl (by kernel_rfl) (by kernel_rfl) (by kernel_rfl) (by kernel_rfl) rfl (fun _ _ _ h => h) (Or.inl ⟨by rfl, ?_⟩) ⟨(hbi.cell (p := ⟨g1, j, none⟩) (World.block_lt_of_cell? _ _ c1)).trans c1, (hbi.cell (p := ⟨g1, i, none⟩) (World.block_lt_of_cell? _ _ c2)).trans c2⟩ ?_
        rotate_left
        · intro W hSW
          go_simp
          try with_reducible rfl
        simp only [Act.put, List.setIfInBounds_toArray, List.set_cons_zero, List.set_cons_succ]
        refine wpAnyL_take' (i := 7) (v := ?_) (oi := { dst := some 37, op := Op.move (Operand.tmp 36), type := 4, pos := "law.go:87", after := #[{ on := 6, ground := Ground.data }, { on := 5, ground := Ground.chain }], guard := none }) rfl (by kernel_rfl) (by kernel_rfl) (by kernel_rfl) (by kernel_rfl) rfl (fun _ _ _ h => h) (Or.inl ⟨by rfl, ?_⟩) ⟨(hbi.cell (p := ⟨g1, j, none⟩) (World.block_lt_of_cell? _ _ c1)).trans c1, (hbi.cell (p := ⟨g1, i, none⟩) (World.block_lt_of_cell? _ _ c2)).trans c2⟩ ?_
        rotate_left
        · intro W hSW
          go_simp
          try with_reducible rfl
        simp only [Act.put, List.setIfInBounds_toArray, List.set_cons_zero, List.set_cons_succ]
        refine wpAnyL_take' (i := 8) (v := ?_) (oi := { dst := some 38, op := Op.move (Operand.tmp 7), type := 3, pos := "law.go:87", after := #[{ on := 7, ground := Ground.guard }], guard := some (7, false) }) rfl (by kernel_rfl) (by kernel_rfl) (by kernel_rfl) (by kernel_rfl) rfl (fun _ _ _ h => h) (Or.inl ⟨by rfl, ?_⟩) ⟨(hbi.cell (p := ⟨g1, j, none⟩) (World.block_lt_of_cell? _ _ c1)).trans c1, (hbi.cell (p := ⟨g1, i, none⟩) (World.block_lt_of_cell? _ _ c2)).trans c2⟩ ?_
        rotate_left
        · intro W hSW
          go_simp
          try with_reducible rfl
        simp only [Act.put, List.setIfInBounds_toArray, List.set_cons_zero, List.set_cons_succ]
        refine wpAnyL_take' (i := 9) (v := ?_) (oi := { dst := some 39, op := Op.binOp BinOp.gtr 3 (Operand.tmp 38) (Operand.const (Value.int IntKind.i64 0)) 3, type := 4, pos := "law.go:87", after := #[{ on := 8, ground := Ground.data }, { on := 7, ground := Ground.guard }], guard := some (7, false) }) rfl (by kernel_rfl) (by kernel_rfl) (by kernel_rfl) (by kernel_rfl) rfl (fun _ _ _ h => h) (Or.inl ⟨by rfl, ?_⟩) ⟨(hbi.cell (p := ⟨g1, j, none⟩) (World.block_lt_of_cell? _ _ c1)).trans c1, (hbi.cell (p := ⟨g1, i, none⟩) (World.block_lt_of_cell? _ _ c2)).trans c2⟩ ?_
        rotate_left
        · intro W hSW
          go_simp
          try with_reducible rfl
        simp only [Act.put, List.setIfInBounds_toArray, List.set_cons_zero, List.set_cons_succ]
        refine wpAnyL_take' (i := 10) (v := ?_) (oi := { dst := some 40, op := Op.move (Operand.tmp 39), type := 4, pos := "law.go:87", after := #[{ on := 9, ground := Ground.data }, { on := 7, ground := Ground.chain }, { on := 7, ground := Ground.guard }], guard := some (7, false) }) rfl (by kernel_rfl) (by kernel_rfl) (by kernel_rfl) (by kernel_rfl) rfl (fun _ _ _ h => h) (Or.inl ⟨by rfl, ?_⟩) ⟨(hbi.cell (p := ⟨g1, j, none⟩) (World.block_lt_of_cell? _ _ c1)).trans c1, (hbi.cell (p := ⟨g1, i, none⟩) (World.block_lt_of_cell? _ _ c2)).trans c2⟩ ?_
        rotate_left
        · intro W hSW
          go_simp
          try with_reducible rfl
        simp only [Act.put, List.setIfInBounds_toArray, List.set_cons_zero, List.set_cons_succ]
        refine wpAnyL_take' (i := 11) (v := ?_) (oi := { dst := some 41, op := Op.move (Operand.tmp 3), type := 33, pos := "law.go:87", after := #[{ on := 10, ground := Ground.guard }], guard := some (10, true) }) rfl (by kernel_rfl) (by kernel_rfl) (by kernel_rfl) (by kernel_rfl) rfl (fun _ _ _ h => h) (Or.inl ⟨by rfl, ?_⟩) ⟨(hbi.cell (p := ⟨g1, j, none⟩) (World.block_lt_of_cell? _ _ c1)).trans c1, (hbi.cell (p := ⟨g1, i, none⟩) (World.block_lt_of_cell? _ _ c2)).trans c2⟩ ?_
        rotate_left
        · intro W hSW
          go_simp
          try with_reducible rfl
        simp only [Act.put, List.setIfInBounds_toArray, List.set_cons_zero, List.set_cons_succ]
        refine wpAnyL_take' (i := 12) (v := ?_) (oi := { dst := some 42, op := Op.move (Operand.tmp 7), type := 3, pos := "law.go:87", after := #[{ on := 10, ground := Ground.guard }], guard := some (10, true) }) rfl (by kernel_rfl) (by kernel_rfl) (by kernel_rfl) (by kernel_rfl) rfl (fun _ _ _ h => h) (Or.inl ⟨by rfl, ?_⟩) ⟨(hbi.cell (p := ⟨g1, j, none⟩) (World.block_lt_of_cell? _ _ c1)).trans c1, (hbi.cell (p := ⟨g1, i, none⟩) (World.block_lt_of_cell? _ _ c2)).trans c2⟩ ?_
        rotate_left
        · intro W hSW
          go_simp
          try with_reducible rfl
        simp only [Act.put, List.setIfInBounds_toArray, List.set_cons_zero, List.set_cons_succ]
        refine wpAnyL_take' (i := 13) (v := ?_) (oi := { dst := some 43, op := Op.binOp BinOp.sub 3 (Operand.tmp 42) (Operand.const (Value.int IntKind.i64 1)) 3, type := 3, pos := "law.go:87", after := #[{ on := 12, ground := Ground.data }, { on := 10, ground := Ground.guard }], guard := some (10, true) }) rfl (by kernel_rfl) (by kernel_rfl) (by kernel_rfl) (by kernel_rfl) rfl (fun _ _ _ h => h) (Or.inl ⟨by rfl, ?_⟩) ⟨(hbi.cell (p := ⟨g1, j, none⟩) (World.block_lt_of_cell? _ _ c1)).trans c1, (hbi.cell (p := ⟨g1, i, none⟩) (World.block_lt_of_cell? _ _ c2)).trans c2⟩ ?_
        rotate_left
        · intro W hSW
          go_simp
          try with_reducible rfl
        simp only [Act.put, List.setIfInBounds_toArray, List.set_cons_zero, List.set_cons_succ]
        refine wpAnyL_take' (i := 14) (v := ?_) (oi := { dst := some 44, op := Op.indexAddr 33 (Operand.tmp 41) (Operand.tmp 43), type := 0, pos := "law.go:87", after := #[{ on := 11, ground := Ground.data }, { on := 13, ground := Ground.data }, { on := 10, ground := Ground.guard }], guard := some (10, true) }) rfl (by kernel_rfl) (by kernel_rfl) (by kernel_rfl) (by kernel_rfl) rfl (fun _ _ _ h => h) (Or.inl ⟨by rfl, ?_⟩) ⟨(hbi.cell (p := ⟨g1, j, none⟩) (World.block_lt_of_cell? _ _ c1)).trans c1, (hbi.cell (p := ⟨g1, i, none⟩) (World.block_lt_of_cell? _ _ c2)).trans c2⟩ ?_
        rotate_left
        · intro W hSW
          go_simp
          try with_reducible rfl
        simp only [Act.put, List.setIfInBounds_toArray, List.set_cons_zero, List.set_cons_succ]
        refine wpAnyL_take' (i := 15) (v := ?_) (oi := { dst := some 45, op := Op.load 25 (Operand.tmp 44), type := 25, pos := "law.go:87", after := #[{ on := 14, ground := Ground.data }, { on := 10, ground := Ground.guard }], guard := some (10, true) }) rfl (by kernel_rfl) (by kernel_rfl) (by kernel_rfl) (by kernel_rfl) rfl (fun _ _ _ h => h) (Or.inl ⟨by rfl, ?_⟩) ⟨(hbi.cell (p := ⟨g1, j, none⟩) (World.block_lt_of_cell? _ _ c1)).trans c1, (hbi.cell (p := ⟨g1, i, none⟩) (World.block_lt_of_cell? _ _ c2)).trans c2⟩ ?_
        rotate_left
        · intro W hSW
          go_simp
          try with_reducible rfl
        simp only [Act.put, List.setIfInBounds_toArray, List.set_cons_zero, List.set_cons_succ]
        refine wpAnyL_take' (i := 16) (v := ?_) (oi := { dst := some 46, op := Op.move (Operand.tmp 3), type := 33, pos := "law.go:87", after := #[{ on := 10, ground := Ground.guard }], guard := some (10, true) }) rfl (by kernel_rfl) (by kernel_rfl) (by kernel_rfl) (by kernel_rfl) rfl (fun _ _ _ h => h) (Or.inl ⟨by rfl, ?_⟩) ⟨(hbi.cell (p := ⟨g1, j, none⟩) (World.block_lt_of_cell? _ _ c1)).trans c1, (hbi.cell (p := ⟨g1, i, none⟩) (World.block_lt_of_cell? _ _ c2)).trans c2⟩ ?_
        rotate_left
        · intro W hSW
          go_simp
          try with_reducible rfl
        simp only [Act.put, List.setIfInBounds_toArray, List.set_cons_zero, List.set_cons_succ]
        refine wpAnyL_take' (i := 17) (v := ?_) (oi := { dst := some 47, op := Op.move (Operand.tmp 7), type := 3, pos := "law.go:87", after := #[{ on := 10, ground := Ground.guard }], guard := some (10, true) }) rfl (by kernel_rfl) (by kernel_rfl) (by kernel_rfl) (by kernel_rfl) rfl (fun _ _ _ h => h) (Or.inl ⟨by rfl, ?_⟩) ⟨(hbi.cell (p := ⟨g1, j, none⟩) (World.block_lt_of_cell? _ _ c1)).trans c1, (hbi.cell (p := ⟨g1, i, none⟩) (World.block_lt_of_cell? _ _ c2)).trans c2⟩ ?_
        rotate_left
        · intro W hSW
          go_simp
          try with_reducible rfl
        simp only [Act.put, List.setIfInBounds_toArray, List.set_cons_zero, List.set_cons_succ]
        refine wpAnyL_take' (i := 18) (v := ?_) (oi := { dst := some 48, op := Op.indexAddr 33 (Operand.tmp 46) (Operand.tmp 47), type := 0, pos := "law.go:87", after := #[{ on := 16, ground := Ground.data }, { on := 17, ground := Ground.data }, { on := 10, ground := Ground.guard }], guard := some (10, true) }) rfl (by kernel_rfl) (by kernel_rfl) (by kernel_rfl) (by kernel_rfl) rfl (fun _ _ _ h => h) (Or.inl ⟨by rfl, ?_⟩) ⟨(hbi.cell (p := ⟨g1, j, none⟩) (World.block_lt_of_cell? _ _ c1)).trans c1, (hbi.cell (p := ⟨g1, i, none⟩) (World.block_lt_of_cell? _ _ c2)).trans c2⟩ ?_
        rotate_left
        · intro W hSW
          go_simp
          try with_reducible rfl
        simp only [Act.put, List.setIfInBounds_toArray, List.set_cons_zero, List.set_cons_succ]
        refine wpAnyL_take' (i := 19) (v := ?_) (oi := { dst := some 49, op := Op.load 25 (Operand.tmp 48), type := 25, pos := "law.go:87", after := #[{ on := 18, ground := Ground.data }, { on := 10, ground := Ground.guard }], guard := some (10, true) }) rfl (by kernel_rfl) (by kernel_rfl) (by kernel_rfl) (by kernel_rfl) rfl (fun _ _ _ h => h) (Or.inl ⟨by rfl, ?_⟩) ⟨(hbi.cell (p := ⟨g1, j, none⟩) (World.block_lt_of_cell? _ _ c1)).trans c1, (hbi.cell (p := ⟨g1, i, none⟩) (World.block_lt_of_cell? _ _ c2)).trans c2⟩ ?_
        rotate_left
        · intro W hSW
          go_simp
          try with_reducible rfl
        simp only [Act.put, List.setIfInBounds_toArray, List.set_cons_zero, List.set_cons_succ]
        refine wpAnyL_one' (i := 20) (o := { dst := some 50, op := Op.call { callee := Callee.value (Operand.func 25), args := #[Operand.tmp 45, Operand.tmp 49], argTypes := #[25, 25] }, type := 3, pos := "law.go:87", after := #[{ on := 15, ground := Ground.data }, { on := 19, ground := Ground.data }, { on := 10, ground := Ground.chain }, { on := 10, ground := Ground.guard }], guard := some (10, true) }) (by kernel_rfl) rfl rfl (fun K hK => ?_)
        go_simp
        refine (hor.out wi hbi).mono ?_
        rintro e wo ⟨rfl, hwo⟩
        refine hK.out _ _ (fun _ => (hwo ▸ ⟨(hbi.cell (p := ⟨g1, j, none⟩) (World.block_lt_of_cell? _ _ c1)).trans c1, (hbi.cell (p := ⟨g1, i, none⟩) (World.block_lt_of_cell? _ _ c2)).trans c2⟩)) ?_
        clear hK
        refine wpAnyL_take' (i := 21) (v := ?_) (oi := { dst := some 51, op := Op.binOp BinOp.neq 3 (Operand.tmp 50) (Operand.const (Value.int IntKind.i64 (-1))) 3, type := 4, pos := "law.go:87", after := #[{ on := 20, ground := Ground.data }, { on := 10, ground := Ground.guard }], guard := some (10, true) }) rfl (by kernel_rfl) (by kernel_rfl) (by kernel_rfl) (by kernel_rfl) rfl (fun _ _ _ h => h) (Or.inl ⟨by rfl, ?_⟩) (hwo ▸ ⟨(hbi.cell (p := ⟨g1, j, none⟩) (World.block_lt_of_cell? _ _ c1)).trans c1, (hbi.cell (p := ⟨g1, i, none⟩) (World.block_lt_of_cell? _ _ c2)).trans c2⟩) ?_
        rotate_left
        · intro W hSW
          go_simp
          try with_reducible rfl
        simp only [Act.put, List.setIfInBounds_toArray, List.set_cons_zero, List.set_cons_succ]
        refine wpAnyL_take' (i := 22) (v := ?_) (oi := { dst := some 52, op := Op.pick (Operand.tmp 40) (Operand.tmp 51) (Operand.const (Value.bool false)), type := 4, pos := "law.go:87", after := #[{ on := 10, ground := Ground.data }, { on := 21, ground := Ground.data }, { on := 7, ground := Ground.guard }], guard := some (7, false) }) rfl (by kernel_rfl) (by kernel_rfl) (by kernel_rfl) (by kernel_rfl) rfl (fun _ _ _ h => h) (Or.inl ⟨by rfl, ?_⟩) (hwo ▸ ⟨(hbi.cell (p := ⟨g1, j, none⟩) (World.block_lt_of_cell? _ _ c1)).trans c1, (hbi.cell (p := ⟨g1, i, none⟩) (World.block_lt_of_cell? _ _ c2)).trans c2⟩) ?_
        rotate_left
        · intro W hSW
          go_simp
          try with_reducible rfl
        simp only [Act.put, List.setIfInBounds_toArray, List.set_cons_zero, List.set_cons_succ]
        refine wpAnyL_take' (i := 23) (v := ?_) (oi := { dst := some 53, op := Op.pick (Operand.tmp 37) (Operand.const (Value.bool true)) (Operand.tmp 52), type := 4, pos := "law.go:87", after := #[{ on := 7, ground := Ground.data }, { on := 22, ground := Ground.data }], guard := none }) rfl (by kernel_rfl) (by kernel_rfl) (by kernel_rfl) (by kernel_rfl) rfl (fun _ _ _ h => h) (Or.inl ⟨by rfl, ?_⟩) (hwo ▸ ⟨(hbi.cell (p := ⟨g1, j, none⟩) (World.block_lt_of_cell? _ _ c1)).trans c1, (hbi.cell (p := ⟨g1, i, none⟩) (World.block_lt_of_cell? _ _ c2)).trans c2⟩) ?_
        rotate_left
        · intro W hSW
          go_simp
          try with_reducible rfl
        simp only [Act.put, List.setIfInBounds_toArray, List.set_cons_zero, List.set_cons_succ]
        refine wpAnyL_done (by kernel_rfl) ?_ _
        obtain rfl : wi = wo := hwo.symm
        clear hwo
        have HWi : Hid (Below wB.heap.size wB wi ∧ Below W0.heap.size W0 wi) := ⟨(below_next HB.out hbi), below_next HWB.out (below_next HB.out hbi)⟩
        obtain ⟨v0, v1, v2, v3, v4, v5, v6⟩ := cells7_at (HR.out wi HWi.out.2)
        have hx := HNX.out j hlt _ wi HWi.out.2 (HSD.out.next hbi)
        clear hin hbi c1 c2 HSD hor
        go_wp2_with fail
        refine hx.mono ?_
        rintro e wn ⟨⟨nv, rfl, hno⟩, hb⟩
        have HWn : Hid (Below wB.heap.size wB wn ∧ Below W0.heap.size W0 wn) := ⟨below_next HWi.out.1 hb, below_next HWi.out.2 hb⟩
        have HNV : Hid (SlP ((nextN t (F j)).getD []) nv wn) := SlP.of_own hno
        obtain ⟨na, nn, nc, rfl⟩ : ∃ na nn nc, nv = .slice na nn nc := by
          obtain ⟨a, c, e, _⟩ := SlP.of_own hno
          exact ⟨a, _, c, e⟩
        clear hx hb hno v0 v1 v2 v3 v4 v5 v6
        by_cases hj2 : j < pl'
        · have hm := (HM1.out j (by have := HPL.out; omega)).1
          rw [hm] at HNV
          have l1 : (j : Int) < (pl' : Int) := by omega
          have l2 : decide ((j : Int) < (pl' : Int)) = true := decide_eq_true l1
          rw [hm]
          simp only [Option.isSome_some]
          go_wp2_with fail
          exact ⟨⟨j + 1, na, nn, nc, rfl, by go_num, by omega, HWn.out.1, fun _ => HNV.out⟩, by simp [intOf]; omega⟩
        · have hm := HM2.out j (by have := HPL.out; omega)
          have l1 : ¬ (j : Int) < (pl' : Int) := by omega
          have l2 : decide ((j : Int) < (pl' : Int)) = false := decide_eq_false l1
          rw [hm]
          simp only [Option.isSome_none]
          go_wp2_with fail
          exact ⟨⟨j + 1, na, nn, nc, rfl, by go_num, by omega, HWn.out.1, fun h => by have := HPL.out; omega⟩, by simp [intOf]; omega⟩
    · have k1 : ¬ (j : Int) < (pl : Int) := by omega
      have HWr : Hid (Below W0.heap.size W0 wr) := below_next HWB.out hBj
      have hA := HA.out wr
      clear hBj
      go_wp2_with fail
      refine hA.mono ?_
      rintro e w9 ⟨rfl, hb⟩
      have HW9 : Hid (Below w.heap.size w w9) := HB.out.trans ((below_next HWr.out hb).mono HB.out.size)
      clear hA hb
      go_wp2_with fail
      go_ret
      exact ⟨rfl, HW9.out⟩
end Go.Proofs.Ytmkkjjhlppagpaa
