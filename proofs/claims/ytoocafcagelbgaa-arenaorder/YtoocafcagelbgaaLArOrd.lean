/- ArenaOrder: the law, for every three trees. -/
import Derived.Test.YtoocafcagelbgaaJAOrd2
import Derived.Test.YtoocafcagelbgaaLAw20
import Derived.Test.YtoocafcagelbgaaRSmall
import Derived.Deep.Cut
namespace Go.Proofs.Ytoocafcagelbgaa
open Go.RowKit
attribute [local go_sem] Oper.semAt_some

theorem small200 (c : Nat) : (¬ c ≤ 200 ∧ smallV c 200 = -1) ∨ (c ≤ 200 ∧ ∃ r : Int, smallV c 200 = r ∧ ¬ r < 0) := by
  unfold smallV
  by_cases h : c ≤ 200
  · exact .inr ⟨h, _, by rw [if_pos (by omega)], by omega⟩
  · exact .inl ⟨h, by rw [if_neg (by omega)]⟩
set_option maxRecDepth 100000 in
set_option maxHeartbeats 16000000 in
theorem lorder20_any {A : Nat → Prop} (n0 n1 n2 : Nat) (m n x : Nd) (v0 v1 v2 : Value) (w : World) (h0 : TAt A n0 m v0 w) (h1 : TAt A n1 n v1 w) (h2 : TAt A n2 x v2 w) :
    Calls Try.prog 7 #[v0, v1, v2] w fun e w' => e = .returned (.bool true) ∧ Below w.heap.size w w' := by
  have HH0 : Hid (∀ W, Below w.heap.size w W → TAt A n0 m v0 W) := fun W hb => h0.next hb
  have HH1 : Hid (∀ W, Below w.heap.size w W → TAt A n1 n v1 W) := fun W hb => h1.next hb
  have HH2 : Hid (∀ W, Below w.heap.size w W → TAt A n2 x v2 W) := fun W hb => h2.next hb
  obtain ⟨ba0, bc0, rfl, -⟩ := h0.val
  obtain ⟨ba1, bc1, rfl, -⟩ := h1.val
  obtain ⟨ba2, bc2, rfl, -⟩ := h2.val
  clear h0 h1 h2
  unfold ndV at *
  have hl : ∀ (U : World) (o : Obj), (U.alloc o).heap.size = U.heap.size + 1 := fun U o => by simp
  have B0 : Below w.heap.size w (((w.alloc (Obj.cells #[.string m.h.kind, .bool m.h.named, .string m.h.field, .int .i64 m.h.frm, .int .i64 m.h.til, .int .i64 m.h.bad, .slice ba0 m.kids.length bc0] 32)).alloc (Obj.cells #[.string n.h.kind, .bool n.h.named, .string n.h.field, .int .i64 n.h.frm, .int .i64 n.h.til, .int .i64 n.h.bad, .slice ba1 n.kids.length bc1] 32)).alloc (Obj.cells #[.string x.h.kind, .bool x.h.named, .string x.h.field, .int .i64 x.h.frm, .int .i64 x.h.til, .int .i64 x.h.bad, .slice ba2 x.kids.length bc2] 32)) := (((Below.refl _ _).alloc (Nat.le_refl _) _).alloc (by simp) _).alloc (by simp; omega) _
  have k0 : (((w.alloc (Obj.cells #[.string m.h.kind, .bool m.h.named, .string m.h.field, .int .i64 m.h.frm, .int .i64 m.h.til, .int .i64 m.h.bad, .slice ba0 m.kids.length bc0] 32)).alloc (Obj.cells #[.string n.h.kind, .bool n.h.named, .string n.h.field, .int .i64 n.h.frm, .int .i64 n.h.til, .int .i64 n.h.bad, .slice ba1 n.kids.length bc1] 32)).alloc (Obj.cells #[.string x.h.kind, .bool x.h.named, .string x.h.field, .int .i64 x.h.frm, .int .i64 x.h.til, .int .i64 x.h.bad, .slice ba2 x.kids.length bc2] 32)).heap[w.heap.size]? = some (Obj.cells #[.string m.h.kind, .bool m.h.named, .string m.h.field, .int .i64 m.h.frm, .int .i64 m.h.til, .int .i64 m.h.bad, .slice ba0 m.kids.length bc0] 32) := (Below.heap_alloc _ _ _ (by rw [hl, hl]; omega)).trans ((Below.heap_alloc _ _ _ (by rw [hl]; omega)).trans (heap_alloc_new w _))
  have k1 : (((w.alloc (Obj.cells #[.string m.h.kind, .bool m.h.named, .string m.h.field, .int .i64 m.h.frm, .int .i64 m.h.til, .int .i64 m.h.bad, .slice ba0 m.kids.length bc0] 32)).alloc (Obj.cells #[.string n.h.kind, .bool n.h.named, .string n.h.field, .int .i64 n.h.frm, .int .i64 n.h.til, .int .i64 n.h.bad, .slice ba1 n.kids.length bc1] 32)).alloc (Obj.cells #[.string x.h.kind, .bool x.h.named, .string x.h.field, .int .i64 x.h.frm, .int .i64 x.h.til, .int .i64 x.h.bad, .slice ba2 x.kids.length bc2] 32)).heap[w.heap.size + 1]? = some (Obj.cells #[.string n.h.kind, .bool n.h.named, .string n.h.field, .int .i64 n.h.frm, .int .i64 n.h.til, .int .i64 n.h.bad, .slice ba1 n.kids.length bc1] 32) := (Below.heap_alloc _ _ _ (by rw [hl, hl]; omega)).trans (by have := heap_alloc_new (w.alloc (Obj.cells #[.string m.h.kind, .bool m.h.named, .string m.h.field, .int .i64 m.h.frm, .int .i64 m.h.til, .int .i64 m.h.bad, .slice ba0 m.kids.length bc0] 32)) (Obj.cells #[.string n.h.kind, .bool n.h.named, .string n.h.field, .int .i64 n.h.frm, .int .i64 n.h.til, .int .i64 n.h.bad, .slice ba1 n.kids.length bc1] 32); rw [hl] at this; exact this)
  have k2 : (((w.alloc (Obj.cells #[.string m.h.kind, .bool m.h.named, .string m.h.field, .int .i64 m.h.frm, .int .i64 m.h.til, .int .i64 m.h.bad, .slice ba0 m.kids.length bc0] 32)).alloc (Obj.cells #[.string n.h.kind, .bool n.h.named, .string n.h.field, .int .i64 n.h.frm, .int .i64 n.h.til, .int .i64 n.h.bad, .slice ba1 n.kids.length bc1] 32)).alloc (Obj.cells #[.string x.h.kind, .bool x.h.named, .string x.h.field, .int .i64 x.h.frm, .int .i64 x.h.til, .int .i64 x.h.bad, .slice ba2 x.kids.length bc2] 32)).heap[w.heap.size + 1 + 1]? = some (Obj.cells #[.string x.h.kind, .bool x.h.named, .string x.h.field, .int .i64 x.h.frm, .int .i64 x.h.til, .int .i64 x.h.bad, .slice ba2 x.kids.length bc2] 32) := by have := heap_alloc_new ((w.alloc (Obj.cells #[.string m.h.kind, .bool m.h.named, .string m.h.field, .int .i64 m.h.frm, .int .i64 m.h.til, .int .i64 m.h.bad, .slice ba0 m.kids.length bc0] 32)).alloc (Obj.cells #[.string n.h.kind, .bool n.h.named, .string n.h.field, .int .i64 n.h.frm, .int .i64 n.h.til, .int .i64 n.h.bad, .slice ba1 n.kids.length bc1] 32)) (Obj.cells #[.string x.h.kind, .bool x.h.named, .string x.h.field, .int .i64 x.h.frm, .int .i64 x.h.til, .int .i64 x.h.bad, .slice ba2 x.kids.length bc2] 32); rw [hl, hl] at this; exact this
  go_enter Try.func7, Try.ntmps7
  go_upto_region 1 with fail
  obtain ⟨w0, hw0⟩ : ∃ w0, w0 = ((w.alloc (Obj.cells #[.string m.h.kind, .bool m.h.named, .string m.h.field, .int .i64 m.h.frm, .int .i64 m.h.til, .int .i64 m.h.bad, .slice ba0 m.kids.length bc0] 32)).alloc (Obj.cells #[.string n.h.kind, .bool n.h.named, .string n.h.field, .int .i64 n.h.frm, .int .i64 n.h.til, .int .i64 n.h.bad, .slice ba1 n.kids.length bc1] 32)).alloc (Obj.cells #[.string x.h.kind, .bool x.h.named, .string x.h.field, .int .i64 x.h.frm, .int .i64 x.h.til, .int .i64 x.h.bad, .slice ba2 x.kids.length bc2] 32) := ⟨_, rfl⟩
  rw [← hw0] at B0 k0 k1 k2
  rw [← hw0]
  clear hw0 hl
  have HB0 : Hid (Below w.heap.size w w0) := B0
  have HT0 : Hid (∀ W, Below w0.heap.size w0 W → TAt A n0 m (.agg #[.string m.h.kind, .bool m.h.named, .string m.h.field, .int .i64 m.h.frm, .int .i64 m.h.til, .int .i64 m.h.bad, .slice ba0 m.kids.length bc0]) W) := fun W hb => HH0.out W (below_next HB0.out hb)
  have HS0 : Hid (∀ W, Below w0.heap.size w0 W → (W.cell? ⟨w.heap.size, 0, none⟩ = some (.string m.h.kind) ∧ W.cell? ⟨w.heap.size, 1, none⟩ = some (.bool m.h.named) ∧ W.cell? ⟨w.heap.size, 2, none⟩ = some (.string m.h.field) ∧ W.cell? ⟨w.heap.size, 3, none⟩ = some (.int .i64 m.h.frm) ∧ W.cell? ⟨w.heap.size, 4, none⟩ = some (.int .i64 m.h.til) ∧ W.cell? ⟨w.heap.size, 5, none⟩ = some (.int .i64 m.h.bad) ∧ W.cell? ⟨w.heap.size, 6, none⟩ = some (.slice ba0 m.kids.length bc0))) := fun W hb => by
    have := (hb.block _ (blk_lt k0)).trans k0
    refine ⟨?_, ?_, ?_, ?_, ?_, ?_, ?_⟩ <;> (rw [Lib.cell_of_heap this]; rfl)
  have HT1 : Hid (∀ W, Below w0.heap.size w0 W → TAt A n1 n (.agg #[.string n.h.kind, .bool n.h.named, .string n.h.field, .int .i64 n.h.frm, .int .i64 n.h.til, .int .i64 n.h.bad, .slice ba1 n.kids.length bc1]) W) := fun W hb => HH1.out W (below_next HB0.out hb)
  have HS1 : Hid (∀ W, Below w0.heap.size w0 W → (W.cell? ⟨w.heap.size + 1, 0, none⟩ = some (.string n.h.kind) ∧ W.cell? ⟨w.heap.size + 1, 1, none⟩ = some (.bool n.h.named) ∧ W.cell? ⟨w.heap.size + 1, 2, none⟩ = some (.string n.h.field) ∧ W.cell? ⟨w.heap.size + 1, 3, none⟩ = some (.int .i64 n.h.frm) ∧ W.cell? ⟨w.heap.size + 1, 4, none⟩ = some (.int .i64 n.h.til) ∧ W.cell? ⟨w.heap.size + 1, 5, none⟩ = some (.int .i64 n.h.bad) ∧ W.cell? ⟨w.heap.size + 1, 6, none⟩ = some (.slice ba1 n.kids.length bc1))) := fun W hb => by
    have := (hb.block _ (blk_lt k1)).trans k1
    refine ⟨?_, ?_, ?_, ?_, ?_, ?_, ?_⟩ <;> (rw [Lib.cell_of_heap this]; rfl)
  have HT2 : Hid (∀ W, Below w0.heap.size w0 W → TAt A n2 x (.agg #[.string x.h.kind, .bool x.h.named, .string x.h.field, .int .i64 x.h.frm, .int .i64 x.h.til, .int .i64 x.h.bad, .slice ba2 x.kids.length bc2]) W) := fun W hb => HH2.out W (below_next HB0.out hb)
  have HS2 : Hid (∀ W, Below w0.heap.size w0 W → (W.cell? ⟨w.heap.size + 1 + 1, 0, none⟩ = some (.string x.h.kind) ∧ W.cell? ⟨w.heap.size + 1 + 1, 1, none⟩ = some (.bool x.h.named) ∧ W.cell? ⟨w.heap.size + 1 + 1, 2, none⟩ = some (.string x.h.field) ∧ W.cell? ⟨w.heap.size + 1 + 1, 3, none⟩ = some (.int .i64 x.h.frm) ∧ W.cell? ⟨w.heap.size + 1 + 1, 4, none⟩ = some (.int .i64 x.h.til) ∧ W.cell? ⟨w.heap.size + 1 + 1, 5, none⟩ = some (.int .i64 x.h.bad) ∧ W.cell? ⟨w.heap.size + 1 + 1, 6, none⟩ = some (.slice ba2 x.kids.length bc2))) := fun W hb => by
    have := (hb.block _ (blk_lt k2)).trans k2
    refine ⟨?_, ?_, ?_, ?_, ?_, ?_, ?_⟩ <;> (rw [Lib.cell_of_heap this]; rfl)
  clear B0 k0 k1 k2 HH0 HH1 HH2
  generalize w.heap.size + 1 + 1 = q2 at *
  generalize w.heap.size + 1 = q1 at *
  obtain ⟨e00, e01, e02, e03, e04, e05, e06⟩ := HS0.out w0 (Below.refl _ _)
  have hS := small_any n0 m _ 200 w0 (HT0.out w0 (Below.refl _ _)) (by decide) (by decide)
  rcases small200 (cntN m) with ⟨hc0, hv⟩ | ⟨hc0, r0, hv, hr0⟩
  · rw [hv] at hS
    clear hv
    have HA : Hid (∀ W, _) := awake20_any
    go_wp2_with fail
    refine hS.mono ?_
    rintro e wa ⟨rfl, hba⟩
    have hA := HA.out wa
    have HBa : Hid (Below w0.heap.size w0 wa) := below_next (Below.refl _ _) hba
    clear hS hba
    go_wp2_with fail
    refine hA.mono ?_
    rintro e wb ⟨rfl, hbb⟩
    have HBb : Hid (Below w.heap.size w wb) := below_next (below_next HB0.out HBa.out) hbb
    clear hA hbb HBa
    go_wp2_with fail
    go_ret
    exact ⟨rfl, HBb.out⟩
  rw [hv] at hS
  clear hv
  go_wp2_with fail
  refine hS.mono ?_
  rintro e u1 ⟨rfl, hbu⟩
  have HU1 : Hid (Below w0.heap.size w0 u1) := below_next (Below.refl _ _) hbu
  clear hS hbu e00 e01 e02 e03 e04 e05 e06
  obtain ⟨e10, e11, e12, e13, e14, e15, e16⟩ := HS1.out u1 HU1.out
  have hS := small_any n1 n _ 200 u1 (HT1.out u1 HU1.out) (by decide) (by decide)
  rcases small200 (cntN n) with ⟨hc1, hv⟩ | ⟨hc1, r1, hv, hr1⟩
  · rw [hv] at hS
    clear hv
    have HA : Hid (∀ W, _) := awake20_any
    go_wp2_with fail
    refine hS.mono ?_
    rintro e wa ⟨rfl, hba⟩
    have hA := HA.out wa
    have HBa : Hid (Below w0.heap.size w0 wa) := below_next HU1.out hba
    clear hS hba
    go_wp2_with fail
    refine hA.mono ?_
    rintro e wb ⟨rfl, hbb⟩
    have HBb : Hid (Below w.heap.size w wb) := below_next (below_next HB0.out HBa.out) hbb
    clear hA hbb HBa
    go_wp2_with fail
    go_ret
    exact ⟨rfl, HBb.out⟩
  rw [hv] at hS
  clear hv
  go_wp2_with fail
  refine hS.mono ?_
  rintro e u2 ⟨rfl, hbu⟩
  have HU2 : Hid (Below w0.heap.size w0 u2) := below_next HU1.out hbu
  clear hS hbu e10 e11 e12 e13 e14 e15 e16
  obtain ⟨e20, e21, e22, e23, e24, e25, e26⟩ := HS2.out u2 HU2.out
  have hS := small_any n2 x _ 200 u2 (HT2.out u2 HU2.out) (by decide) (by decide)
  rcases small200 (cntN x) with ⟨hc2, hv⟩ | ⟨hc2, r2, hv, hr2⟩
  · rw [hv] at hS
    clear hv
    have HA : Hid (∀ W, _) := awake20_any
    go_wp2_with fail
    refine hS.mono ?_
    rintro e wa ⟨rfl, hba⟩
    have hA := HA.out wa
    have HBa : Hid (Below w0.heap.size w0 wa) := below_next HU2.out hba
    clear hS hba
    go_wp2_with fail
    refine hA.mono ?_
    rintro e wb ⟨rfl, hbb⟩
    have HBb : Hid (Below w.heap.size w wb) := below_next (below_next HB0.out HBa.out) hbb
    clear hA hbb HBa
    go_wp2_with fail
    go_ret
    exact ⟨rfl, HBb.out⟩
  rw [hv] at hS
  clear hv
  go_wp2_with fail
  refine hS.mono ?_
  rintro e u3 ⟨rfl, hbu⟩
  have HU3 : Hid (Below w0.heap.size w0 u3) := below_next HU2.out hbu
  clear hS hbu e20 e21 e22 e23 e24 e25 e26
  go_upto_region 3 with fail
  have HV0 : Hid (∀ W, Below u3.heap.size u3 W → Below w0.heap.size w0 W) := fun W hb => below_next HU3.out hb
  go_cut [7, 8, 9] from 18 (fun tA tH tE wx => ∃ q S2 p sa sl sc ra rl rc fr, tA = .pointer (some ⟨q, 0, none⟩) ∧ tH = .int .i64 0 ∧ tE = .int .i64 0 ∧ Hid (BoxA u3.heap.size q (addS S2 p).ar (.agg #[.slice sa sl sc, .int .i64 fr, .slice ra rl rc]) (.slice sa sl sc) (.int .i64 fr) (.slice ra rl rc) wx ∧ Added newA m 0 S2 p ∧ Below u3.heap.size u3 wx))
  case first =>
    have HSS : Hid (∀ W, Below u3.heap.size u3 W → (W.cell? ⟨w.heap.size, 0, none⟩ = some (.string m.h.kind) ∧ W.cell? ⟨w.heap.size, 1, none⟩ = some (.bool m.h.named) ∧ W.cell? ⟨w.heap.size, 2, none⟩ = some (.string m.h.field) ∧ W.cell? ⟨w.heap.size, 3, none⟩ = some (.int .i64 m.h.frm) ∧ W.cell? ⟨w.heap.size, 4, none⟩ = some (.int .i64 m.h.til) ∧ W.cell? ⟨w.heap.size, 5, none⟩ = some (.int .i64 m.h.bad) ∧ W.cell? ⟨w.heap.size, 6, none⟩ = some (.slice ba0 m.kids.length bc0))) := fun W hb => HS0.out W (HV0.out W hb)
    have HT : Hid (∀ W, Below u3.heap.size u3 W → TAt A n0 m (.agg #[.string m.h.kind, .bool m.h.named, .string m.h.field, .int .i64 m.h.frm, .int .i64 m.h.til, .int .i64 m.h.bad, .slice ba0 m.kids.length bc0]) W) := fun W hb => HT0.out W (HV0.out W hb)
    clear HS0 HS1 HS2 HT0 HT1 HT2
    have HS0 := HSS.out u3.drew (Below.refl _ _).drew
    have BS : Below u3.heap.size u3 u3.drew := (Below.refl _ _).drew
    refine wp_region_L (fun W => W.cell? ⟨w.heap.size, 0, none⟩ = some (.string m.h.kind) ∧ W.cell? ⟨w.heap.size, 1, none⟩ = some (.bool m.h.named) ∧ W.cell? ⟨w.heap.size, 2, none⟩ = some (.string m.h.field) ∧ W.cell? ⟨w.heap.size, 3, none⟩ = some (.int .i64 m.h.frm) ∧ W.cell? ⟨w.heap.size, 4, none⟩ = some (.int .i64 m.h.til) ∧ W.cell? ⟨w.heap.size, 5, none⟩ = some (.int .i64 m.h.bad) ∧ W.cell? ⟨w.heap.size, 6, none⟩ = some (.slice ba0 m.kids.length bc0)) 11 (by kernel_rfl) 11 rfl ?_
    generalize u3.drew = wd at *
    refine wpAnyL_take' (i := 1) (v := ?_) (oi := { dst := some 34, op := Op.load 32 (Operand.tmp 3), type := 32, pos := "law.go:120", after := #[], guard := none }) rfl (by kernel_rfl) (by kernel_rfl) (by kernel_rfl) (by kernel_rfl) rfl (fun _ _ _ h => h) (Or.inl ⟨by rfl, ?_⟩) HS0 ?_
    rotate_left
    · intro W hSW
      go_simp
      try with_reducible rfl
    simp only [Act.put, List.setIfInBounds_toArray, List.set_cons_zero, List.set_cons_succ]
    refine wpAnyL_two (i := 0) (j := 7) (oi := { dst := some 33, op := Op.call { callee := Callee.value (Operand.func 14), args := #[], argTypes := #[] }, type := 25, pos := "law.go:120", after := #[], guard := none }) (oj := { dst := some 7, op := Op.alloc 25, type := 0, pos := "law.go:120", after := #[], guard := none }) (by kernel_rfl) rfl rfl rfl rfl (fun K hK => ?_) (fun K hK => ?_)
    · go_simp
      refine (new_any _).mono ?_
      rintro e W1 ⟨nv, rfl, hnv, hbn⟩
      have BS1 : Below u3.heap.size u3 W1 := below_next BS hbn
      refine hK.out _ _ (fun _ => HSS.out _ BS1) ?_
      clear hK
      try simp only [Act.put, List.setIfInBounds_toArray, List.set_cons_zero, List.set_cons_succ]
      refine wpAnyL_two (i := 2) (j := 7) (oi := { dst := some 35, op := Op.call { callee := Callee.value (Operand.func 24), args := #[Operand.tmp 33, Operand.tmp 34], argTypes := #[25, 32] }, type := 43, pos := "law.go:120", after := #[{ on := 0, ground := Ground.data }, { on := 1, ground := Ground.data }, { on := 0, ground := Ground.chain }], guard := none }) (oj := { dst := some 7, op := Op.alloc 25, type := 0, pos := "law.go:120", after := #[], guard := none }) (by kernel_rfl) rfl rfl rfl rfl (fun K hK => ?_) (fun K hK => ?_)
      · go_simp
        refine (addNew_any nv m _ _ W1 hnv (HT.out _ BS1) (by omega)).mono ?_
        rintro e W2 ⟨⟨S2, p, sa, sl, sc, ra, rl, rc, fr, rfl, hav, had⟩, hba⟩
        have BS2 : Below u3.heap.size u3 W2 := below_next BS1 hba
        have hsA := hba.size
        refine hK.out _ _ (fun _ => HSS.out _ BS2) ?_
        clear hK
        try simp only [Act.put, List.setIfInBounds_toArray, List.set_cons_zero, List.set_cons_succ]
        refine wpAnyL_take' (i := 3) (v := ?_) (oi := { dst := some 32, op := Op.move (Operand.tmp 35), type := 43, pos := "law.go:120", after := #[{ on := 2, ground := Ground.data }], guard := none }) rfl (by kernel_rfl) (by kernel_rfl) (by kernel_rfl) (by kernel_rfl) rfl (fun _ _ _ h => h) (Or.inl ⟨by rfl, ?_⟩) (HSS.out _ BS2) ?_
        rotate_left
        · intro W hSW
          go_simp
          try with_reducible rfl
        simp only [Act.put, List.setIfInBounds_toArray, List.set_cons_zero, List.set_cons_succ]
        refine wpAnyL_take' (i := 4) (v := ?_) (oi := { dst := some 36, op := Op.extract (Operand.tmp 32) 0, type := 25, pos := "law.go:120", after := #[{ on := 3, ground := Ground.data }], guard := none }) rfl (by kernel_rfl) (by kernel_rfl) (by kernel_rfl) (by kernel_rfl) rfl (fun _ _ _ h => h) (Or.inl ⟨by rfl, ?_⟩) (HSS.out _ BS2) ?_
        rotate_left
        · intro W hSW
          go_simp
          try with_reducible rfl
        simp only [Act.put, List.setIfInBounds_toArray, List.set_cons_zero, List.set_cons_succ]
        refine wpAnyL_take' (i := 5) (v := ?_) (oi := { dst := some 37, op := Op.extract (Operand.tmp 32) 1, type := 3, pos := "law.go:120", after := #[{ on := 3, ground := Ground.data }, { on := 8, ground := Ground.gcOnly Departure.lateStores }], guard := none }) rfl (by kernel_rfl) (by kernel_rfl) (by kernel_rfl) (by kernel_rfl) rfl (fun _ _ _ h => h) (Or.inl ⟨by rfl, ?_⟩) (HSS.out _ BS2) ?_
        rotate_left
        · intro W hSW
          go_simp
          try with_reducible rfl
        simp only [Act.put, List.setIfInBounds_toArray, List.set_cons_zero, List.set_cons_succ]
        refine wpAnyL_take' (i := 6) (v := ?_) (oi := { dst := some 38, op := Op.extract (Operand.tmp 32) 2, type := 33, pos := "law.go:120", after := #[{ on := 3, ground := Ground.data }, { on := 9, ground := Ground.gcOnly Departure.lateStores }], guard := none }) rfl (by kernel_rfl) (by kernel_rfl) (by kernel_rfl) (by kernel_rfl) rfl (fun _ _ _ h => h) (Or.inl ⟨by rfl, ?_⟩) (HSS.out _ BS2) ?_
        rotate_left
        · intro W hSW
          go_simp
          try with_reducible rfl
        simp only [Act.put, List.setIfInBounds_toArray, List.set_cons_zero, List.set_cons_succ]
        refine wpAnyL_one' (i := 7) (o := { dst := some 7, op := Op.alloc 25, type := 0, pos := "law.go:120", after := #[], guard := none }) (by kernel_rfl) rfl rfl (fun K hK => ?_)
        go_simp
        have BS3 : Below u3.heap.size u3 (W2.alloc (Obj.cells #[.slice none 0 0, .int .i64 0, .slice none 0 0] 25)) := BS2.alloc (BS2).size _
        refine hK.out _ _ (fun _ => HSS.out _ BS3) ?_
        clear hK
        try simp only [Act.put, List.setIfInBounds_toArray, List.set_cons_zero, List.set_cons_succ]
        have hbn' : Below W2.heap.size W2 (W2.alloc (Obj.cells #[.slice none 0 0, .int .i64 0, .slice none 0 0] 25)) := (Below.refl _ _).alloc (Nat.le_refl _) _
        have kt : (W2.alloc (Obj.cells #[.slice none 0 0, .int .i64 0, .slice none 0 0] 25)).heap[W2.heap.size]? = some (Obj.cells #[.slice none 0 0, .int .i64 0, .slice none 0 0] 25) := heap_alloc_new _ _
        have hlt : u3.heap.size ≤ W2.heap.size := (BS2).size
        have hlt2 : W2.heap.size < (W2.alloc (Obj.cells #[.slice none 0 0, .int .i64 0, .slice none 0 0] 25)).heap.size := by simp
        obtain ⟨q, hq⟩ : ∃ q, q = W2.heap.size := ⟨_, rfl⟩
        obtain ⟨W3, hW⟩ : ∃ V1, V1 = W2.alloc (Obj.cells #[.slice none 0 0, .int .i64 0, .slice none 0 0] 25) := ⟨_, rfl⟩
        rw [← hW, ← hq] at kt hlt2
        rw [← hq] at hlt
        rw [← hW] at hbn' BS3
        rw [← hW, ← hq]
        have hqA : W2.heap.size ≤ q := Nat.le_of_eq hq.symm
        clear hW hq
        have HBX := box_new (q := q) (x := .slice sa sl sc) (y := .int .i64 fr) (z := .slice ra rl rc) BS2 hbn' hqA kt hav
        have c0' : W3.cell? ⟨q, 0, none⟩ = some (.slice none 0 0) := by rw [Lib.cell_of_heap kt]; rfl
        have c1' : W3.cell? ⟨q, 1, none⟩ = some (.int .i64 0) := by rw [Lib.cell_of_heap kt]; rfl
        have c2' : W3.cell? ⟨q, 2, none⟩ = some (.slice none 0 0) := by rw [Lib.cell_of_heap kt]; rfl
        have f' : ∀ o, W3.frozen? ⟨q, o, none⟩ = false := fun o => Lib.frozen_of_heap kt _
        refine wpAnyL_one' (i := 8) (o := { dst := none, op := Op.store 25 (Operand.tmp 7) (Operand.tmp 36), type := 0, pos := "law.go:120", after := #[{ on := 7, ground := Ground.data }, { on := 4, ground := Ground.data }, { on := 2, ground := Ground.chain }, { on := 0, ground := Ground.phase }, { on := 1, ground := Ground.phase }, { on := 2, ground := Ground.phase }, { on := 3, ground := Ground.phase }, { on := 4, ground := Ground.phase }, { on := 5, ground := Ground.textOnly Departure.lateStores }, { on := 6, ground := Ground.textOnly Departure.lateStores }, { on := 7, ground := Ground.phase }], guard := none }) (by kernel_rfl) rfl rfl (fun K hK => ?_)
        go_simp
        refine hK.out _ _ (fun _ => HSS.out _ HBX.2) ?_
        clear hK c0' c1' c2' f'
        try simp only [Act.put, List.setIfInBounds_toArray, List.set_cons_zero, List.set_cons_succ]
        refine wpAnyL_one' (i := 9) (o := { dst := some 8, op := Op.assign (Operand.tmp 37), type := 3, pos := "law.go:120", after := #[{ on := 5, ground := Ground.data }, { on := 8, ground := Ground.chain }, { on := 0, ground := Ground.phase }, { on := 1, ground := Ground.phase }, { on := 2, ground := Ground.phase }, { on := 3, ground := Ground.phase }, { on := 4, ground := Ground.phase }, { on := 5, ground := Ground.phase }, { on := 6, ground := Ground.textOnly Departure.lateStores }, { on := 7, ground := Ground.phase }, { on := 8, ground := Ground.phase }], guard := none }) (by kernel_rfl) rfl rfl (fun K hK => ?_)
        go_simp
        refine hK.out _ _ (fun _ => HSS.out _ HBX.2) ?_
        clear hK
        try simp only [Act.put, List.setIfInBounds_toArray, List.set_cons_zero, List.set_cons_succ]
        refine wpAnyL_one' (i := 10) (o := { dst := some 9, op := Op.assign (Operand.tmp 38), type := 33, pos := "law.go:120", after := #[{ on := 6, ground := Ground.data }, { on := 9, ground := Ground.chain }, { on := 0, ground := Ground.phase }, { on := 1, ground := Ground.phase }, { on := 2, ground := Ground.phase }, { on := 3, ground := Ground.phase }, { on := 4, ground := Ground.phase }, { on := 5, ground := Ground.phase }, { on := 6, ground := Ground.phase }, { on := 7, ground := Ground.phase }, { on := 8, ground := Ground.phase }, { on := 9, ground := Ground.phase }], guard := none }) (by kernel_rfl) rfl rfl (fun K hK => ?_)
        go_simp
        refine hK.out _ _ (fun _ => HSS.out _ HBX.2) ?_
        clear hK
        try simp only [Act.put, List.setIfInBounds_toArray, List.set_cons_zero, List.set_cons_succ]
        refine wpAnyL_done (by kernel_rfl) ?_ _
        have HR : Hid (_ ∧ _) := ⟨HBX, had⟩
        clear HBX had
        go_wp2_with fail
        go_meet
        exact ⟨q, S2, p, sa, sl, sc, ra, rl, rc, fr, rfl, rfl, rfl, ⟨HR.out.1.1, HR.out.2, HR.out.1.2⟩⟩
      · go_simp
        have BS2 : Below u3.heap.size u3 (W1.alloc (Obj.cells #[.slice none 0 0, .int .i64 0, .slice none 0 0] 25)) := BS1.alloc (BS1).size _
        refine hK.out _ _ (fun _ => HSS.out _ BS2) ?_
        clear hK
        try simp only [Act.put, List.setIfInBounds_toArray, List.set_cons_zero, List.set_cons_succ]
        have hbn' : Below W1.heap.size W1 (W1.alloc (Obj.cells #[.slice none 0 0, .int .i64 0, .slice none 0 0] 25)) := (Below.refl _ _).alloc (Nat.le_refl _) _
        have kt : (W1.alloc (Obj.cells #[.slice none 0 0, .int .i64 0, .slice none 0 0] 25)).heap[W1.heap.size]? = some (Obj.cells #[.slice none 0 0, .int .i64 0, .slice none 0 0] 25) := heap_alloc_new _ _
        have hlt : u3.heap.size ≤ W1.heap.size := (BS1).size
        have hlt2 : W1.heap.size < (W1.alloc (Obj.cells #[.slice none 0 0, .int .i64 0, .slice none 0 0] 25)).heap.size := by simp
        obtain ⟨q, hq⟩ : ∃ q, q = W1.heap.size := ⟨_, rfl⟩
        obtain ⟨W2, hW⟩ : ∃ V1, V1 = W1.alloc (Obj.cells #[.slice none 0 0, .int .i64 0, .slice none 0 0] 25) := ⟨_, rfl⟩
        rw [← hW, ← hq] at kt hlt2
        rw [← hq] at hlt
        rw [← hW] at hbn' BS2
        rw [← hW, ← hq]
        have hqA : W1.heap.size ≤ q := Nat.le_of_eq hq.symm
        clear hW hq
        refine wpAnyL_one' (i := 2) (o := { dst := some 35, op := Op.call { callee := Callee.value (Operand.func 24), args := #[Operand.tmp 33, Operand.tmp 34], argTypes := #[25, 32] }, type := 43, pos := "law.go:120", after := #[{ on := 0, ground := Ground.data }, { on := 1, ground := Ground.data }, { on := 0, ground := Ground.chain }], guard := none }) (by kernel_rfl) rfl rfl (fun K hK => ?_)
        go_simp
        refine (addNew_any nv m _ _ W2 (hnv.next hbn') (HT.out _ BS2) (by omega)).mono ?_
        rintro e W3 ⟨⟨S2, p, sa, sl, sc, ra, rl, rc, fr, rfl, hav, had⟩, hba⟩
        have BS3 : Below u3.heap.size u3 W3 := below_next BS2 hba
        have hsA := hba.size
        refine hK.out _ _ (fun _ => HSS.out _ BS3) ?_
        clear hK
        try simp only [Act.put, List.setIfInBounds_toArray, List.set_cons_zero, List.set_cons_succ]
        refine wpAnyL_take' (i := 3) (v := ?_) (oi := { dst := some 32, op := Op.move (Operand.tmp 35), type := 43, pos := "law.go:120", after := #[{ on := 2, ground := Ground.data }], guard := none }) rfl (by kernel_rfl) (by kernel_rfl) (by kernel_rfl) (by kernel_rfl) rfl (fun _ _ _ h => h) (Or.inl ⟨by rfl, ?_⟩) (HSS.out _ BS3) ?_
        rotate_left
        · intro W hSW
          go_simp
          try with_reducible rfl
        simp only [Act.put, List.setIfInBounds_toArray, List.set_cons_zero, List.set_cons_succ]
        refine wpAnyL_take' (i := 4) (v := ?_) (oi := { dst := some 36, op := Op.extract (Operand.tmp 32) 0, type := 25, pos := "law.go:120", after := #[{ on := 3, ground := Ground.data }], guard := none }) rfl (by kernel_rfl) (by kernel_rfl) (by kernel_rfl) (by kernel_rfl) rfl (fun _ _ _ h => h) (Or.inl ⟨by rfl, ?_⟩) (HSS.out _ BS3) ?_
        rotate_left
        · intro W hSW
          go_simp
          try with_reducible rfl
        simp only [Act.put, List.setIfInBounds_toArray, List.set_cons_zero, List.set_cons_succ]
        refine wpAnyL_take' (i := 5) (v := ?_) (oi := { dst := some 37, op := Op.extract (Operand.tmp 32) 1, type := 3, pos := "law.go:120", after := #[{ on := 3, ground := Ground.data }, { on := 8, ground := Ground.gcOnly Departure.lateStores }], guard := none }) rfl (by kernel_rfl) (by kernel_rfl) (by kernel_rfl) (by kernel_rfl) rfl (fun _ _ _ h => h) (Or.inl ⟨by rfl, ?_⟩) (HSS.out _ BS3) ?_
        rotate_left
        · intro W hSW
          go_simp
          try with_reducible rfl
        simp only [Act.put, List.setIfInBounds_toArray, List.set_cons_zero, List.set_cons_succ]
        refine wpAnyL_take' (i := 6) (v := ?_) (oi := { dst := some 38, op := Op.extract (Operand.tmp 32) 2, type := 33, pos := "law.go:120", after := #[{ on := 3, ground := Ground.data }, { on := 9, ground := Ground.gcOnly Departure.lateStores }], guard := none }) rfl (by kernel_rfl) (by kernel_rfl) (by kernel_rfl) (by kernel_rfl) rfl (fun _ _ _ h => h) (Or.inl ⟨by rfl, ?_⟩) (HSS.out _ BS3) ?_
        rotate_left
        · intro W hSW
          go_simp
          try with_reducible rfl
        simp only [Act.put, List.setIfInBounds_toArray, List.set_cons_zero, List.set_cons_succ]
        have kt := (hba.block _ hlt2).trans kt
        have HBX := box_old (q := q) (x := .slice sa sl sc) (y := .int .i64 fr) (z := .slice ra rl rc) BS3 hlt hlt2 kt hav
        have c0' : W3.cell? ⟨q, 0, none⟩ = some (.slice none 0 0) := by rw [Lib.cell_of_heap kt]; rfl
        have c1' : W3.cell? ⟨q, 1, none⟩ = some (.int .i64 0) := by rw [Lib.cell_of_heap kt]; rfl
        have c2' : W3.cell? ⟨q, 2, none⟩ = some (.slice none 0 0) := by rw [Lib.cell_of_heap kt]; rfl
        have f' : ∀ o, W3.frozen? ⟨q, o, none⟩ = false := fun o => Lib.frozen_of_heap kt _
        refine wpAnyL_one' (i := 8) (o := { dst := none, op := Op.store 25 (Operand.tmp 7) (Operand.tmp 36), type := 0, pos := "law.go:120", after := #[{ on := 7, ground := Ground.data }, { on := 4, ground := Ground.data }, { on := 2, ground := Ground.chain }, { on := 0, ground := Ground.phase }, { on := 1, ground := Ground.phase }, { on := 2, ground := Ground.phase }, { on := 3, ground := Ground.phase }, { on := 4, ground := Ground.phase }, { on := 5, ground := Ground.textOnly Departure.lateStores }, { on := 6, ground := Ground.textOnly Departure.lateStores }, { on := 7, ground := Ground.phase }], guard := none }) (by kernel_rfl) rfl rfl (fun K hK => ?_)
        go_simp
        refine hK.out _ _ (fun _ => HSS.out _ HBX.2) ?_
        clear hK c0' c1' c2' f'
        try simp only [Act.put, List.setIfInBounds_toArray, List.set_cons_zero, List.set_cons_succ]
        refine wpAnyL_one' (i := 9) (o := { dst := some 8, op := Op.assign (Operand.tmp 37), type := 3, pos := "law.go:120", after := #[{ on := 5, ground := Ground.data }, { on := 8, ground := Ground.chain }, { on := 0, ground := Ground.phase }, { on := 1, ground := Ground.phase }, { on := 2, ground := Ground.phase }, { on := 3, ground := Ground.phase }, { on := 4, ground := Ground.phase }, { on := 5, ground := Ground.phase }, { on := 6, ground := Ground.textOnly Departure.lateStores }, { on := 7, ground := Ground.phase }, { on := 8, ground := Ground.phase }], guard := none }) (by kernel_rfl) rfl rfl (fun K hK => ?_)
        go_simp
        refine hK.out _ _ (fun _ => HSS.out _ HBX.2) ?_
        clear hK
        try simp only [Act.put, List.setIfInBounds_toArray, List.set_cons_zero, List.set_cons_succ]
        refine wpAnyL_one' (i := 10) (o := { dst := some 9, op := Op.assign (Operand.tmp 38), type := 33, pos := "law.go:120", after := #[{ on := 6, ground := Ground.data }, { on := 9, ground := Ground.chain }, { on := 0, ground := Ground.phase }, { on := 1, ground := Ground.phase }, { on := 2, ground := Ground.phase }, { on := 3, ground := Ground.phase }, { on := 4, ground := Ground.phase }, { on := 5, ground := Ground.phase }, { on := 6, ground := Ground.phase }, { on := 7, ground := Ground.phase }, { on := 8, ground := Ground.phase }, { on := 9, ground := Ground.phase }], guard := none }) (by kernel_rfl) rfl rfl (fun K hK => ?_)
        go_simp
        refine hK.out _ _ (fun _ => HSS.out _ HBX.2) ?_
        clear hK
        try simp only [Act.put, List.setIfInBounds_toArray, List.set_cons_zero, List.set_cons_succ]
        refine wpAnyL_done (by kernel_rfl) ?_ _
        have HR : Hid (_ ∧ _) := ⟨HBX, had⟩
        clear HBX had
        go_wp2_with fail
        go_meet
        exact ⟨q, S2, p, sa, sl, sc, ra, rl, rc, fr, rfl, rfl, rfl, ⟨HR.out.1.1, HR.out.2, HR.out.1.2⟩⟩
    · go_simp
      have BS1 : Below u3.heap.size u3 (wd.alloc (Obj.cells #[.slice none 0 0, .int .i64 0, .slice none 0 0] 25)) := BS.alloc (BS).size _
      refine hK.out _ _ (fun _ => HSS.out _ BS1) ?_
      clear hK
      try simp only [Act.put, List.setIfInBounds_toArray, List.set_cons_zero, List.set_cons_succ]
      have hbn' : Below wd.heap.size wd (wd.alloc (Obj.cells #[.slice none 0 0, .int .i64 0, .slice none 0 0] 25)) := (Below.refl _ _).alloc (Nat.le_refl _) _
      have kt : (wd.alloc (Obj.cells #[.slice none 0 0, .int .i64 0, .slice none 0 0] 25)).heap[wd.heap.size]? = some (Obj.cells #[.slice none 0 0, .int .i64 0, .slice none 0 0] 25) := heap_alloc_new _ _
      have hlt : u3.heap.size ≤ wd.heap.size := (BS).size
      have hlt2 : wd.heap.size < (wd.alloc (Obj.cells #[.slice none 0 0, .int .i64 0, .slice none 0 0] 25)).heap.size := by simp
      obtain ⟨q, hq⟩ : ∃ q, q = wd.heap.size := ⟨_, rfl⟩
      obtain ⟨W1, hW⟩ : ∃ V1, V1 = wd.alloc (Obj.cells #[.slice none 0 0, .int .i64 0, .slice none 0 0] 25) := ⟨_, rfl⟩
      rw [← hW, ← hq] at kt hlt2
      rw [← hq] at hlt
      rw [← hW] at hbn' BS1
      rw [← hW, ← hq]
      have hqA : wd.heap.size ≤ q := Nat.le_of_eq hq.symm
      clear hW hq
      refine wpAnyL_one' (i := 0) (o := { dst := some 33, op := Op.call { callee := Callee.value (Operand.func 14), args := #[], argTypes := #[] }, type := 25, pos := "law.go:120", after := #[], guard := none }) (by kernel_rfl) rfl rfl (fun K hK => ?_)
      go_simp
      refine (new_any _).mono ?_
      rintro e W2 ⟨nv, rfl, hnv, hbn⟩
      have BS2 : Below u3.heap.size u3 W2 := below_next BS1 hbn
      refine hK.out _ _ (fun _ => HSS.out _ BS2) ?_
      clear hK
      try simp only [Act.put, List.setIfInBounds_toArray, List.set_cons_zero, List.set_cons_succ]
      refine wpAnyL_one' (i := 2) (o := { dst := some 35, op := Op.call { callee := Callee.value (Operand.func 24), args := #[Operand.tmp 33, Operand.tmp 34], argTypes := #[25, 32] }, type := 43, pos := "law.go:120", after := #[{ on := 0, ground := Ground.data }, { on := 1, ground := Ground.data }, { on := 0, ground := Ground.chain }], guard := none }) (by kernel_rfl) rfl rfl (fun K hK => ?_)
      go_simp
      refine (addNew_any nv m _ _ W2 hnv (HT.out _ BS2) (by omega)).mono ?_
      rintro e W3 ⟨⟨S2, p, sa, sl, sc, ra, rl, rc, fr, rfl, hav, had⟩, hba⟩
      have BS3 : Below u3.heap.size u3 W3 := below_next BS2 hba
      have hsA := hba.size
      refine hK.out _ _ (fun _ => HSS.out _ BS3) ?_
      clear hK
      try simp only [Act.put, List.setIfInBounds_toArray, List.set_cons_zero, List.set_cons_succ]
      refine wpAnyL_take' (i := 3) (v := ?_) (oi := { dst := some 32, op := Op.move (Operand.tmp 35), type := 43, pos := "law.go:120", after := #[{ on := 2, ground := Ground.data }], guard := none }) rfl (by kernel_rfl) (by kernel_rfl) (by kernel_rfl) (by kernel_rfl) rfl (fun _ _ _ h => h) (Or.inl ⟨by rfl, ?_⟩) (HSS.out _ BS3) ?_
      rotate_left
      · intro W hSW
        go_simp
        try with_reducible rfl
      simp only [Act.put, List.setIfInBounds_toArray, List.set_cons_zero, List.set_cons_succ]
      refine wpAnyL_take' (i := 4) (v := ?_) (oi := { dst := some 36, op := Op.extract (Operand.tmp 32) 0, type := 25, pos := "law.go:120", after := #[{ on := 3, ground := Ground.data }], guard := none }) rfl (by kernel_rfl) (by kernel_rfl) (by kernel_rfl) (by kernel_rfl) rfl (fun _ _ _ h => h) (Or.inl ⟨by rfl, ?_⟩) (HSS.out _ BS3) ?_
      rotate_left
      · intro W hSW
        go_simp
        try with_reducible rfl
      simp only [Act.put, List.setIfInBounds_toArray, List.set_cons_zero, List.set_cons_succ]
      refine wpAnyL_take' (i := 5) (v := ?_) (oi := { dst := some 37, op := Op.extract (Operand.tmp 32) 1, type := 3, pos := "law.go:120", after := #[{ on := 3, ground := Ground.data }, { on := 8, ground := Ground.gcOnly Departure.lateStores }], guard := none }) rfl (by kernel_rfl) (by kernel_rfl) (by kernel_rfl) (by kernel_rfl) rfl (fun _ _ _ h => h) (Or.inl ⟨by rfl, ?_⟩) (HSS.out _ BS3) ?_
      rotate_left
      · intro W hSW
        go_simp
        try with_reducible rfl
      simp only [Act.put, List.setIfInBounds_toArray, List.set_cons_zero, List.set_cons_succ]
      refine wpAnyL_take' (i := 6) (v := ?_) (oi := { dst := some 38, op := Op.extract (Operand.tmp 32) 2, type := 33, pos := "law.go:120", after := #[{ on := 3, ground := Ground.data }, { on := 9, ground := Ground.gcOnly Departure.lateStores }], guard := none }) rfl (by kernel_rfl) (by kernel_rfl) (by kernel_rfl) (by kernel_rfl) rfl (fun _ _ _ h => h) (Or.inl ⟨by rfl, ?_⟩) (HSS.out _ BS3) ?_
      rotate_left
      · intro W hSW
        go_simp
        try with_reducible rfl
      simp only [Act.put, List.setIfInBounds_toArray, List.set_cons_zero, List.set_cons_succ]
      have kt := (hba.block _ (Nat.lt_of_lt_of_le hlt2 hbn.size)).trans ((hbn.block _ hlt2).trans kt)
      have HBX := box_old (q := q) (x := .slice sa sl sc) (y := .int .i64 fr) (z := .slice ra rl rc) BS3 hlt (Nat.lt_of_lt_of_le hlt2 hbn.size) kt hav
      have c0' : W3.cell? ⟨q, 0, none⟩ = some (.slice none 0 0) := by rw [Lib.cell_of_heap kt]; rfl
      have c1' : W3.cell? ⟨q, 1, none⟩ = some (.int .i64 0) := by rw [Lib.cell_of_heap kt]; rfl
      have c2' : W3.cell? ⟨q, 2, none⟩ = some (.slice none 0 0) := by rw [Lib.cell_of_heap kt]; rfl
      have f' : ∀ o, W3.frozen? ⟨q, o, none⟩ = false := fun o => Lib.frozen_of_heap kt _
      refine wpAnyL_one' (i := 8) (o := { dst := none, op := Op.store 25 (Operand.tmp 7) (Operand.tmp 36), type := 0, pos := "law.go:120", after := #[{ on := 7, ground := Ground.data }, { on := 4, ground := Ground.data }, { on := 2, ground := Ground.chain }, { on := 0, ground := Ground.phase }, { on := 1, ground := Ground.phase }, { on := 2, ground := Ground.phase }, { on := 3, ground := Ground.phase }, { on := 4, ground := Ground.phase }, { on := 5, ground := Ground.textOnly Departure.lateStores }, { on := 6, ground := Ground.textOnly Departure.lateStores }, { on := 7, ground := Ground.phase }], guard := none }) (by kernel_rfl) rfl rfl (fun K hK => ?_)
      go_simp
      refine hK.out _ _ (fun _ => HSS.out _ HBX.2) ?_
      clear hK c0' c1' c2' f'
      try simp only [Act.put, List.setIfInBounds_toArray, List.set_cons_zero, List.set_cons_succ]
      refine wpAnyL_one' (i := 9) (o := { dst := some 8, op := Op.assign (Operand.tmp 37), type := 3, pos := "law.go:120", after := #[{ on := 5, ground := Ground.data }, { on := 8, ground := Ground.chain }, { on := 0, ground := Ground.phase }, { on := 1, ground := Ground.phase }, { on := 2, ground := Ground.phase }, { on := 3, ground := Ground.phase }, { on := 4, ground := Ground.phase }, { on := 5, ground := Ground.phase }, { on := 6, ground := Ground.textOnly Departure.lateStores }, { on := 7, ground := Ground.phase }, { on := 8, ground := Ground.phase }], guard := none }) (by kernel_rfl) rfl rfl (fun K hK => ?_)
      go_simp
      refine hK.out _ _ (fun _ => HSS.out _ HBX.2) ?_
      clear hK
      try simp only [Act.put, List.setIfInBounds_toArray, List.set_cons_zero, List.set_cons_succ]
      refine wpAnyL_one' (i := 10) (o := { dst := some 9, op := Op.assign (Operand.tmp 38), type := 33, pos := "law.go:120", after := #[{ on := 6, ground := Ground.data }, { on := 9, ground := Ground.chain }, { on := 0, ground := Ground.phase }, { on := 1, ground := Ground.phase }, { on := 2, ground := Ground.phase }, { on := 3, ground := Ground.phase }, { on := 4, ground := Ground.phase }, { on := 5, ground := Ground.phase }, { on := 6, ground := Ground.phase }, { on := 7, ground := Ground.phase }, { on := 8, ground := Ground.phase }, { on := 9, ground := Ground.phase }], guard := none }) (by kernel_rfl) rfl rfl (fun K hK => ?_)
      go_simp
      refine hK.out _ _ (fun _ => HSS.out _ HBX.2) ?_
      clear hK
      try simp only [Act.put, List.setIfInBounds_toArray, List.set_cons_zero, List.set_cons_succ]
      refine wpAnyL_done (by kernel_rfl) ?_ _
      have HR : Hid (_ ∧ _) := ⟨HBX, had⟩
      clear HBX had
      go_wp2_with fail
      go_meet
      exact ⟨q, S2, p, sa, sl, sc, ra, rl, rc, fr, rfl, rfl, rfl, ⟨HR.out.1.1, HR.out.2, HR.out.1.2⟩⟩
  case rest =>
    obtain ⟨qa, Sa, pa, a1, a2, a3, a4, a5, a6, a7, rfl, rfl, rfl, HA⟩ := hcut
    rename World => u4
    have HV4 : Hid (Below u3.heap.size u3 u4) := HA.out.2.2
    have HRA : Hid (Added newA m 0 Sa pa) := HA.out.2.1
    have hAx := HA.out.1
    have hTx := HT1.out u4 (HV0.out u4 HV4.out)
    obtain ⟨c0, c1, c2, cf⟩ := hAx.cells
    obtain ⟨e10, e11, e12, e13, e14, e15, e16⟩ := HS1.out u4 (HV0.out u4 HV4.out)
    have hrl : (addS Sa pa).ar.roots.length < 4096 := by rw [HRA.out.roots]; simp [newA]
    have hD := add_parts (addS Sa pa).ar _ n _ n1 (0 + cntN m) u4 hAx.ar HRA.out.ok hrl hTx (by omega) (by omega)
    have HAX : Hid (BoxA _ _ _ _ _ _ _ u4) := hAx
    clear hrl hAx hTx HA
    go_upto_region 4 with fail
    go_wp2_with fail
    refine hD.mono ?_
    rintro e u5 ⟨⟨Sb, pb, b1, b2, b3, b4, b5, b6, b7, rfl, hav, had⟩, hb5⟩
    clear hD c0 c1 c2 cf e10 e11 e12 e13 e14 e15 e16
    have k0 := (hb5.block _ (blk_lt HAX.out.bx)).trans HAX.out.bx
    have c0 : u5.cell? ⟨qa, 0, none⟩ = some (.slice a1 a2 a3) := by rw [Lib.cell_of_heap k0]; rfl
    have c1 : u5.cell? ⟨qa, 1, none⟩ = some (.int .i64 a7) := by rw [Lib.cell_of_heap k0]; rfl
    have c2 : u5.cell? ⟨qa, 2, none⟩ = some (.slice a4 a5 a6) := by rw [Lib.cell_of_heap k0]; rfl
    have cf : ∀ o, u5.frozen? ⟨qa, o, none⟩ = false := fun o => Lib.frozen_of_heap k0 _
    have HBX : Hid _ := box_old (x := .slice b1 b2 b3) (y := .int .i64 b7) (z := .slice b4 b5 b6) (below_next HV4.out hb5) HAX.out.lo (blk_lt HAX.out.bx) k0 hav
    have HRB : Hid (Added (addS Sa pa).ar n (0 + cntN m) Sb pb) := had
    clear k0 hav had hb5 HAX HV4
    go_upto_region 5 with fail
    clear c0 c1 c2 cf
    generalize (((u5.setCell ⟨qa, 0, none⟩ (.slice b1 b2 b3)).setCell ⟨qa, 1, none⟩ (.int .i64 b7)).setCell ⟨qa, 2, none⟩ (.slice b4 b5 b6)) = u6 at *
    have HAA : Hid (∀ W, Below u6.heap.size u6 W → BoxA u3.heap.size qa (addS Sb pb).ar (.agg #[.slice b1 b2 b3, .int .i64 b7, .slice b4 b5 b6]) (.slice b1 b2 b3) (.int .i64 b7) (.slice b4 b5 b6) W) := fun W hb => HBX.out.1.next hb
    have HU6 : Hid (Below w0.heap.size w0 u6) := HV0.out u6 HBX.out.2
    have HV6 : Hid (∀ W, Below u6.heap.size u6 W → Below w0.heap.size w0 W) := fun W hb => below_next HU6.out hb
    clear HBX HV0
    go_cut [10, 11, 12] from 18 (fun tA tH tE wx => ∃ q S2 p sa sl sc ra rl rc fr, tA = .pointer (some ⟨q, 0, none⟩) ∧ tH = .int .i64 0 ∧ tE = .int .i64 0 ∧ Hid (BoxA u6.heap.size q (addS S2 p).ar (.agg #[.slice sa sl sc, .int .i64 fr, .slice ra rl rc]) (.slice sa sl sc) (.int .i64 fr) (.slice ra rl rc) wx ∧ Added newA n 0 S2 p ∧ Below u6.heap.size u6 wx))
    case first =>
      have HSS : Hid (∀ W, Below u6.heap.size u6 W → (W.cell? ⟨q1, 0, none⟩ = some (.string n.h.kind) ∧ W.cell? ⟨q1, 1, none⟩ = some (.bool n.h.named) ∧ W.cell? ⟨q1, 2, none⟩ = some (.string n.h.field) ∧ W.cell? ⟨q1, 3, none⟩ = some (.int .i64 n.h.frm) ∧ W.cell? ⟨q1, 4, none⟩ = some (.int .i64 n.h.til) ∧ W.cell? ⟨q1, 5, none⟩ = some (.int .i64 n.h.bad) ∧ W.cell? ⟨q1, 6, none⟩ = some (.slice ba1 n.kids.length bc1))) := fun W hb => HS1.out W (HV6.out W hb)
      have HT : Hid (∀ W, Below u6.heap.size u6 W → TAt A n1 n (.agg #[.string n.h.kind, .bool n.h.named, .string n.h.field, .int .i64 n.h.frm, .int .i64 n.h.til, .int .i64 n.h.bad, .slice ba1 n.kids.length bc1]) W) := fun W hb => HT1.out W (HV6.out W hb)
      clear HS0 HS1 HS2 HT0 HT1 HT2 HAA HRA HRB
      have HS0 := HSS.out u6.drew (Below.refl _ _).drew
      have BS : Below u6.heap.size u6 u6.drew := (Below.refl _ _).drew
      refine wp_region_L (fun W => W.cell? ⟨q1, 0, none⟩ = some (.string n.h.kind) ∧ W.cell? ⟨q1, 1, none⟩ = some (.bool n.h.named) ∧ W.cell? ⟨q1, 2, none⟩ = some (.string n.h.field) ∧ W.cell? ⟨q1, 3, none⟩ = some (.int .i64 n.h.frm) ∧ W.cell? ⟨q1, 4, none⟩ = some (.int .i64 n.h.til) ∧ W.cell? ⟨q1, 5, none⟩ = some (.int .i64 n.h.bad) ∧ W.cell? ⟨q1, 6, none⟩ = some (.slice ba1 n.kids.length bc1)) 11 (by kernel_rfl) 11 rfl ?_
      generalize u6.drew = wd at *
      refine wpAnyL_take' (i := 1) (v := ?_) (oi := { dst := some 48, op := Op.load 32 (Operand.tmp 4), type := 32, pos := "law.go:122", after := #[], guard := none }) rfl (by kernel_rfl) (by kernel_rfl) (by kernel_rfl) (by kernel_rfl) rfl (fun _ _ _ h => h) (Or.inl ⟨by rfl, ?_⟩) HS0 ?_
      rotate_left
      · intro W hSW
        go_simp
        try with_reducible rfl
      simp only [Act.put, List.setIfInBounds_toArray, List.set_cons_zero, List.set_cons_succ]
      refine wpAnyL_two (i := 0) (j := 7) (oi := { dst := some 47, op := Op.call { callee := Callee.value (Operand.func 14), args := #[], argTypes := #[] }, type := 25, pos := "law.go:122", after := #[], guard := none }) (oj := { dst := some 10, op := Op.alloc 25, type := 0, pos := "law.go:122", after := #[], guard := none }) (by kernel_rfl) rfl rfl rfl rfl (fun K hK => ?_) (fun K hK => ?_)
      · go_simp
        refine (new_any _).mono ?_
        rintro e W1 ⟨nv, rfl, hnv, hbn⟩
        have BS1 : Below u6.heap.size u6 W1 := below_next BS hbn
        refine hK.out _ _ (fun _ => HSS.out _ BS1) ?_
        clear hK
        try simp only [Act.put, List.setIfInBounds_toArray, List.set_cons_zero, List.set_cons_succ]
        refine wpAnyL_two (i := 2) (j := 7) (oi := { dst := some 49, op := Op.call { callee := Callee.value (Operand.func 24), args := #[Operand.tmp 47, Operand.tmp 48], argTypes := #[25, 32] }, type := 43, pos := "law.go:122", after := #[{ on := 0, ground := Ground.data }, { on := 1, ground := Ground.data }, { on := 0, ground := Ground.chain }], guard := none }) (oj := { dst := some 10, op := Op.alloc 25, type := 0, pos := "law.go:122", after := #[], guard := none }) (by kernel_rfl) rfl rfl rfl rfl (fun K hK => ?_) (fun K hK => ?_)
        · go_simp
          refine (addNew_any nv n _ _ W1 hnv (HT.out _ BS1) (by omega)).mono ?_
          rintro e W2 ⟨⟨S2, p, sa, sl, sc, ra, rl, rc, fr, rfl, hav, had⟩, hba⟩
          have BS2 : Below u6.heap.size u6 W2 := below_next BS1 hba
          have hsA := hba.size
          refine hK.out _ _ (fun _ => HSS.out _ BS2) ?_
          clear hK
          try simp only [Act.put, List.setIfInBounds_toArray, List.set_cons_zero, List.set_cons_succ]
          refine wpAnyL_take' (i := 3) (v := ?_) (oi := { dst := some 46, op := Op.move (Operand.tmp 49), type := 43, pos := "law.go:122", after := #[{ on := 2, ground := Ground.data }], guard := none }) rfl (by kernel_rfl) (by kernel_rfl) (by kernel_rfl) (by kernel_rfl) rfl (fun _ _ _ h => h) (Or.inl ⟨by rfl, ?_⟩) (HSS.out _ BS2) ?_
          rotate_left
          · intro W hSW
            go_simp
            try with_reducible rfl
          simp only [Act.put, List.setIfInBounds_toArray, List.set_cons_zero, List.set_cons_succ]
          refine wpAnyL_take' (i := 4) (v := ?_) (oi := { dst := some 50, op := Op.extract (Operand.tmp 46) 0, type := 25, pos := "law.go:122", after := #[{ on := 3, ground := Ground.data }], guard := none }) rfl (by kernel_rfl) (by kernel_rfl) (by kernel_rfl) (by kernel_rfl) rfl (fun _ _ _ h => h) (Or.inl ⟨by rfl, ?_⟩) (HSS.out _ BS2) ?_
          rotate_left
          · intro W hSW
            go_simp
            try with_reducible rfl
          simp only [Act.put, List.setIfInBounds_toArray, List.set_cons_zero, List.set_cons_succ]
          refine wpAnyL_take' (i := 5) (v := ?_) (oi := { dst := some 51, op := Op.extract (Operand.tmp 46) 1, type := 3, pos := "law.go:122", after := #[{ on := 3, ground := Ground.data }, { on := 8, ground := Ground.gcOnly Departure.lateStores }], guard := none }) rfl (by kernel_rfl) (by kernel_rfl) (by kernel_rfl) (by kernel_rfl) rfl (fun _ _ _ h => h) (Or.inl ⟨by rfl, ?_⟩) (HSS.out _ BS2) ?_
          rotate_left
          · intro W hSW
            go_simp
            try with_reducible rfl
          simp only [Act.put, List.setIfInBounds_toArray, List.set_cons_zero, List.set_cons_succ]
          refine wpAnyL_take' (i := 6) (v := ?_) (oi := { dst := some 52, op := Op.extract (Operand.tmp 46) 2, type := 33, pos := "law.go:122", after := #[{ on := 3, ground := Ground.data }, { on := 9, ground := Ground.gcOnly Departure.lateStores }], guard := none }) rfl (by kernel_rfl) (by kernel_rfl) (by kernel_rfl) (by kernel_rfl) rfl (fun _ _ _ h => h) (Or.inl ⟨by rfl, ?_⟩) (HSS.out _ BS2) ?_
          rotate_left
          · intro W hSW
            go_simp
            try with_reducible rfl
          simp only [Act.put, List.setIfInBounds_toArray, List.set_cons_zero, List.set_cons_succ]
          refine wpAnyL_one' (i := 7) (o := { dst := some 10, op := Op.alloc 25, type := 0, pos := "law.go:122", after := #[], guard := none }) (by kernel_rfl) rfl rfl (fun K hK => ?_)
          go_simp
          have BS3 : Below u6.heap.size u6 (W2.alloc (Obj.cells #[.slice none 0 0, .int .i64 0, .slice none 0 0] 25)) := BS2.alloc (BS2).size _
          refine hK.out _ _ (fun _ => HSS.out _ BS3) ?_
          clear hK
          try simp only [Act.put, List.setIfInBounds_toArray, List.set_cons_zero, List.set_cons_succ]
          have hbn' : Below W2.heap.size W2 (W2.alloc (Obj.cells #[.slice none 0 0, .int .i64 0, .slice none 0 0] 25)) := (Below.refl _ _).alloc (Nat.le_refl _) _
          have kt : (W2.alloc (Obj.cells #[.slice none 0 0, .int .i64 0, .slice none 0 0] 25)).heap[W2.heap.size]? = some (Obj.cells #[.slice none 0 0, .int .i64 0, .slice none 0 0] 25) := heap_alloc_new _ _
          have hlt : u6.heap.size ≤ W2.heap.size := (BS2).size
          have hlt2 : W2.heap.size < (W2.alloc (Obj.cells #[.slice none 0 0, .int .i64 0, .slice none 0 0] 25)).heap.size := by simp
          obtain ⟨q, hq⟩ : ∃ q, q = W2.heap.size := ⟨_, rfl⟩
          obtain ⟨W3, hW⟩ : ∃ V1, V1 = W2.alloc (Obj.cells #[.slice none 0 0, .int .i64 0, .slice none 0 0] 25) := ⟨_, rfl⟩
          rw [← hW, ← hq] at kt hlt2
          rw [← hq] at hlt
          rw [← hW] at hbn' BS3
          rw [← hW, ← hq]
          have hqA : W2.heap.size ≤ q := Nat.le_of_eq hq.symm
          clear hW hq
          have HBX := box_new (q := q) (x := .slice sa sl sc) (y := .int .i64 fr) (z := .slice ra rl rc) BS2 hbn' hqA kt hav
          have c0' : W3.cell? ⟨q, 0, none⟩ = some (.slice none 0 0) := by rw [Lib.cell_of_heap kt]; rfl
          have c1' : W3.cell? ⟨q, 1, none⟩ = some (.int .i64 0) := by rw [Lib.cell_of_heap kt]; rfl
          have c2' : W3.cell? ⟨q, 2, none⟩ = some (.slice none 0 0) := by rw [Lib.cell_of_heap kt]; rfl
          have f' : ∀ o, W3.frozen? ⟨q, o, none⟩ = false := fun o => Lib.frozen_of_heap kt _
          refine wpAnyL_one' (i := 8) (o := { dst := none, op := Op.store 25 (Operand.tmp 10) (Operand.tmp 50), type := 0, pos := "law.go:122", after := #[{ on := 7, ground := Ground.data }, { on := 4, ground := Ground.data }, { on := 2, ground := Ground.chain }, { on := 0, ground := Ground.phase }, { on := 1, ground := Ground.phase }, { on := 2, ground := Ground.phase }, { on := 3, ground := Ground.phase }, { on := 4, ground := Ground.phase }, { on := 5, ground := Ground.textOnly Departure.lateStores }, { on := 6, ground := Ground.textOnly Departure.lateStores }, { on := 7, ground := Ground.phase }], guard := none }) (by kernel_rfl) rfl rfl (fun K hK => ?_)
          go_simp
          refine hK.out _ _ (fun _ => HSS.out _ HBX.2) ?_
          clear hK c0' c1' c2' f'
          try simp only [Act.put, List.setIfInBounds_toArray, List.set_cons_zero, List.set_cons_succ]
          refine wpAnyL_one' (i := 9) (o := { dst := some 11, op := Op.assign (Operand.tmp 51), type := 3, pos := "law.go:122", after := #[{ on := 5, ground := Ground.data }, { on := 8, ground := Ground.chain }, { on := 0, ground := Ground.phase }, { on := 1, ground := Ground.phase }, { on := 2, ground := Ground.phase }, { on := 3, ground := Ground.phase }, { on := 4, ground := Ground.phase }, { on := 5, ground := Ground.phase }, { on := 6, ground := Ground.textOnly Departure.lateStores }, { on := 7, ground := Ground.phase }, { on := 8, ground := Ground.phase }], guard := none }) (by kernel_rfl) rfl rfl (fun K hK => ?_)
          go_simp
          refine hK.out _ _ (fun _ => HSS.out _ HBX.2) ?_
          clear hK
          try simp only [Act.put, List.setIfInBounds_toArray, List.set_cons_zero, List.set_cons_succ]
          refine wpAnyL_one' (i := 10) (o := { dst := some 12, op := Op.assign (Operand.tmp 52), type := 33, pos := "law.go:122", after := #[{ on := 6, ground := Ground.data }, { on := 9, ground := Ground.chain }, { on := 0, ground := Ground.phase }, { on := 1, ground := Ground.phase }, { on := 2, ground := Ground.phase }, { on := 3, ground := Ground.phase }, { on := 4, ground := Ground.phase }, { on := 5, ground := Ground.phase }, { on := 6, ground := Ground.phase }, { on := 7, ground := Ground.phase }, { on := 8, ground := Ground.phase }, { on := 9, ground := Ground.phase }], guard := none }) (by kernel_rfl) rfl rfl (fun K hK => ?_)
          go_simp
          refine hK.out _ _ (fun _ => HSS.out _ HBX.2) ?_
          clear hK
          try simp only [Act.put, List.setIfInBounds_toArray, List.set_cons_zero, List.set_cons_succ]
          refine wpAnyL_done (by kernel_rfl) ?_ _
          have HR : Hid (_ ∧ _) := ⟨HBX, had⟩
          clear HBX had
          go_wp2_with fail
          go_meet
          exact ⟨q, S2, p, sa, sl, sc, ra, rl, rc, fr, rfl, rfl, rfl, ⟨HR.out.1.1, HR.out.2, HR.out.1.2⟩⟩
        · go_simp
          have BS2 : Below u6.heap.size u6 (W1.alloc (Obj.cells #[.slice none 0 0, .int .i64 0, .slice none 0 0] 25)) := BS1.alloc (BS1).size _
          refine hK.out _ _ (fun _ => HSS.out _ BS2) ?_
          clear hK
          try simp only [Act.put, List.setIfInBounds_toArray, List.set_cons_zero, List.set_cons_succ]
          have hbn' : Below W1.heap.size W1 (W1.alloc (Obj.cells #[.slice none 0 0, .int .i64 0, .slice none 0 0] 25)) := (Below.refl _ _).alloc (Nat.le_refl _) _
          have kt : (W1.alloc (Obj.cells #[.slice none 0 0, .int .i64 0, .slice none 0 0] 25)).heap[W1.heap.size]? = some (Obj.cells #[.slice none 0 0, .int .i64 0, .slice none 0 0] 25) := heap_alloc_new _ _
          have hlt : u6.heap.size ≤ W1.heap.size := (BS1).size
          have hlt2 : W1.heap.size < (W1.alloc (Obj.cells #[.slice none 0 0, .int .i64 0, .slice none 0 0] 25)).heap.size := by simp
          obtain ⟨q, hq⟩ : ∃ q, q = W1.heap.size := ⟨_, rfl⟩
          obtain ⟨W2, hW⟩ : ∃ V1, V1 = W1.alloc (Obj.cells #[.slice none 0 0, .int .i64 0, .slice none 0 0] 25) := ⟨_, rfl⟩
          rw [← hW, ← hq] at kt hlt2
          rw [← hq] at hlt
          rw [← hW] at hbn' BS2
          rw [← hW, ← hq]
          have hqA : W1.heap.size ≤ q := Nat.le_of_eq hq.symm
          clear hW hq
          refine wpAnyL_one' (i := 2) (o := { dst := some 49, op := Op.call { callee := Callee.value (Operand.func 24), args := #[Operand.tmp 47, Operand.tmp 48], argTypes := #[25, 32] }, type := 43, pos := "law.go:122", after := #[{ on := 0, ground := Ground.data }, { on := 1, ground := Ground.data }, { on := 0, ground := Ground.chain }], guard := none }) (by kernel_rfl) rfl rfl (fun K hK => ?_)
          go_simp
          refine (addNew_any nv n _ _ W2 (hnv.next hbn') (HT.out _ BS2) (by omega)).mono ?_
          rintro e W3 ⟨⟨S2, p, sa, sl, sc, ra, rl, rc, fr, rfl, hav, had⟩, hba⟩
          have BS3 : Below u6.heap.size u6 W3 := below_next BS2 hba
          have hsA := hba.size
          refine hK.out _ _ (fun _ => HSS.out _ BS3) ?_
          clear hK
          try simp only [Act.put, List.setIfInBounds_toArray, List.set_cons_zero, List.set_cons_succ]
          refine wpAnyL_take' (i := 3) (v := ?_) (oi := { dst := some 46, op := Op.move (Operand.tmp 49), type := 43, pos := "law.go:122", after := #[{ on := 2, ground := Ground.data }], guard := none }) rfl (by kernel_rfl) (by kernel_rfl) (by kernel_rfl) (by kernel_rfl) rfl (fun _ _ _ h => h) (Or.inl ⟨by rfl, ?_⟩) (HSS.out _ BS3) ?_
          rotate_left
          · intro W hSW
            go_simp
            try with_reducible rfl
          simp only [Act.put, List.setIfInBounds_toArray, List.set_cons_zero, List.set_cons_succ]
          refine wpAnyL_take' (i := 4) (v := ?_) (oi := { dst := some 50, op := Op.extract (Operand.tmp 46) 0, type := 25, pos := "law.go:122", after := #[{ on := 3, ground := Ground.data }], guard := none }) rfl (by kernel_rfl) (by kernel_rfl) (by kernel_rfl) (by kernel_rfl) rfl (fun _ _ _ h => h) (Or.inl ⟨by rfl, ?_⟩) (HSS.out _ BS3) ?_
          rotate_left
          · intro W hSW
            go_simp
            try with_reducible rfl
          simp only [Act.put, List.setIfInBounds_toArray, List.set_cons_zero, List.set_cons_succ]
          refine wpAnyL_take' (i := 5) (v := ?_) (oi := { dst := some 51, op := Op.extract (Operand.tmp 46) 1, type := 3, pos := "law.go:122", after := #[{ on := 3, ground := Ground.data }, { on := 8, ground := Ground.gcOnly Departure.lateStores }], guard := none }) rfl (by kernel_rfl) (by kernel_rfl) (by kernel_rfl) (by kernel_rfl) rfl (fun _ _ _ h => h) (Or.inl ⟨by rfl, ?_⟩) (HSS.out _ BS3) ?_
          rotate_left
          · intro W hSW
            go_simp
            try with_reducible rfl
          simp only [Act.put, List.setIfInBounds_toArray, List.set_cons_zero, List.set_cons_succ]
          refine wpAnyL_take' (i := 6) (v := ?_) (oi := { dst := some 52, op := Op.extract (Operand.tmp 46) 2, type := 33, pos := "law.go:122", after := #[{ on := 3, ground := Ground.data }, { on := 9, ground := Ground.gcOnly Departure.lateStores }], guard := none }) rfl (by kernel_rfl) (by kernel_rfl) (by kernel_rfl) (by kernel_rfl) rfl (fun _ _ _ h => h) (Or.inl ⟨by rfl, ?_⟩) (HSS.out _ BS3) ?_
          rotate_left
          · intro W hSW
            go_simp
            try with_reducible rfl
          simp only [Act.put, List.setIfInBounds_toArray, List.set_cons_zero, List.set_cons_succ]
          have kt := (hba.block _ hlt2).trans kt
          have HBX := box_old (q := q) (x := .slice sa sl sc) (y := .int .i64 fr) (z := .slice ra rl rc) BS3 hlt hlt2 kt hav
          have c0' : W3.cell? ⟨q, 0, none⟩ = some (.slice none 0 0) := by rw [Lib.cell_of_heap kt]; rfl
          have c1' : W3.cell? ⟨q, 1, none⟩ = some (.int .i64 0) := by rw [Lib.cell_of_heap kt]; rfl
          have c2' : W3.cell? ⟨q, 2, none⟩ = some (.slice none 0 0) := by rw [Lib.cell_of_heap kt]; rfl
          have f' : ∀ o, W3.frozen? ⟨q, o, none⟩ = false := fun o => Lib.frozen_of_heap kt _
          refine wpAnyL_one' (i := 8) (o := { dst := none, op := Op.store 25 (Operand.tmp 10) (Operand.tmp 50), type := 0, pos := "law.go:122", after := #[{ on := 7, ground := Ground.data }, { on := 4, ground := Ground.data }, { on := 2, ground := Ground.chain }, { on := 0, ground := Ground.phase }, { on := 1, ground := Ground.phase }, { on := 2, ground := Ground.phase }, { on := 3, ground := Ground.phase }, { on := 4, ground := Ground.phase }, { on := 5, ground := Ground.textOnly Departure.lateStores }, { on := 6, ground := Ground.textOnly Departure.lateStores }, { on := 7, ground := Ground.phase }], guard := none }) (by kernel_rfl) rfl rfl (fun K hK => ?_)
          go_simp
          refine hK.out _ _ (fun _ => HSS.out _ HBX.2) ?_
          clear hK c0' c1' c2' f'
          try simp only [Act.put, List.setIfInBounds_toArray, List.set_cons_zero, List.set_cons_succ]
          refine wpAnyL_one' (i := 9) (o := { dst := some 11, op := Op.assign (Operand.tmp 51), type := 3, pos := "law.go:122", after := #[{ on := 5, ground := Ground.data }, { on := 8, ground := Ground.chain }, { on := 0, ground := Ground.phase }, { on := 1, ground := Ground.phase }, { on := 2, ground := Ground.phase }, { on := 3, ground := Ground.phase }, { on := 4, ground := Ground.phase }, { on := 5, ground := Ground.phase }, { on := 6, ground := Ground.textOnly Departure.lateStores }, { on := 7, ground := Ground.phase }, { on := 8, ground := Ground.phase }], guard := none }) (by kernel_rfl) rfl rfl (fun K hK => ?_)
          go_simp
          refine hK.out _ _ (fun _ => HSS.out _ HBX.2) ?_
          clear hK
          try simp only [Act.put, List.setIfInBounds_toArray, List.set_cons_zero, List.set_cons_succ]
          refine wpAnyL_one' (i := 10) (o := { dst := some 12, op := Op.assign (Operand.tmp 52), type := 33, pos := "law.go:122", after := #[{ on := 6, ground := Ground.data }, { on := 9, ground := Ground.chain }, { on := 0, ground := Ground.phase }, { on := 1, ground := Ground.phase }, { on := 2, ground := Ground.phase }, { on := 3, ground := Ground.phase }, { on := 4, ground := Ground.phase }, { on := 5, ground := Ground.phase }, { on := 6, ground := Ground.phase }, { on := 7, ground := Ground.phase }, { on := 8, ground := Ground.phase }, { on := 9, ground := Ground.phase }], guard := none }) (by kernel_rfl) rfl rfl (fun K hK => ?_)
          go_simp
          refine hK.out _ _ (fun _ => HSS.out _ HBX.2) ?_
          clear hK
          try simp only [Act.put, List.setIfInBounds_toArray, List.set_cons_zero, List.set_cons_succ]
          refine wpAnyL_done (by kernel_rfl) ?_ _
          have HR : Hid (_ ∧ _) := ⟨HBX, had⟩
          clear HBX had
          go_wp2_with fail
          go_meet
          exact ⟨q, S2, p, sa, sl, sc, ra, rl, rc, fr, rfl, rfl, rfl, ⟨HR.out.1.1, HR.out.2, HR.out.1.2⟩⟩
      · go_simp
        have BS1 : Below u6.heap.size u6 (wd.alloc (Obj.cells #[.slice none 0 0, .int .i64 0, .slice none 0 0] 25)) := BS.alloc (BS).size _
        refine hK.out _ _ (fun _ => HSS.out _ BS1) ?_
        clear hK
        try simp only [Act.put, List.setIfInBounds_toArray, List.set_cons_zero, List.set_cons_succ]
        have hbn' : Below wd.heap.size wd (wd.alloc (Obj.cells #[.slice none 0 0, .int .i64 0, .slice none 0 0] 25)) := (Below.refl _ _).alloc (Nat.le_refl _) _
        have kt : (wd.alloc (Obj.cells #[.slice none 0 0, .int .i64 0, .slice none 0 0] 25)).heap[wd.heap.size]? = some (Obj.cells #[.slice none 0 0, .int .i64 0, .slice none 0 0] 25) := heap_alloc_new _ _
        have hlt : u6.heap.size ≤ wd.heap.size := (BS).size
        have hlt2 : wd.heap.size < (wd.alloc (Obj.cells #[.slice none 0 0, .int .i64 0, .slice none 0 0] 25)).heap.size := by simp
        obtain ⟨q, hq⟩ : ∃ q, q = wd.heap.size := ⟨_, rfl⟩
        obtain ⟨W1, hW⟩ : ∃ V1, V1 = wd.alloc (Obj.cells #[.slice none 0 0, .int .i64 0, .slice none 0 0] 25) := ⟨_, rfl⟩
        rw [← hW, ← hq] at kt hlt2
        rw [← hq] at hlt
        rw [← hW] at hbn' BS1
        rw [← hW, ← hq]
        have hqA : wd.heap.size ≤ q := Nat.le_of_eq hq.symm
        clear hW hq
        refine wpAnyL_one' (i := 0) (o := { dst := some 47, op := Op.call { callee := Callee.value (Operand.func 14), args := #[], argTypes := #[] }, type := 25, pos := "law.go:122", after := #[], guard := none }) (by kernel_rfl) rfl rfl (fun K hK => ?_)
        go_simp
        refine (new_any _).mono ?_
        rintro e W2 ⟨nv, rfl, hnv, hbn⟩
        have BS2 : Below u6.heap.size u6 W2 := below_next BS1 hbn
        refine hK.out _ _ (fun _ => HSS.out _ BS2) ?_
        clear hK
        try simp only [Act.put, List.setIfInBounds_toArray, List.set_cons_zero, List.set_cons_succ]
        refine wpAnyL_one' (i := 2) (o := { dst := some 49, op := Op.call { callee := Callee.value (Operand.func 24), args := #[Operand.tmp 47, Operand.tmp 48], argTypes := #[25, 32] }, type := 43, pos := "law.go:122", after := #[{ on := 0, ground := Ground.data }, { on := 1, ground := Ground.data }, { on := 0, ground := Ground.chain }], guard := none }) (by kernel_rfl) rfl rfl (fun K hK => ?_)
        go_simp
        refine (addNew_any nv n _ _ W2 hnv (HT.out _ BS2) (by omega)).mono ?_
        rintro e W3 ⟨⟨S2, p, sa, sl, sc, ra, rl, rc, fr, rfl, hav, had⟩, hba⟩
        have BS3 : Below u6.heap.size u6 W3 := below_next BS2 hba
        have hsA := hba.size
        refine hK.out _ _ (fun _ => HSS.out _ BS3) ?_
        clear hK
        try simp only [Act.put, List.setIfInBounds_toArray, List.set_cons_zero, List.set_cons_succ]
        refine wpAnyL_take' (i := 3) (v := ?_) (oi := { dst := some 46, op := Op.move (Operand.tmp 49), type := 43, pos := "law.go:122", after := #[{ on := 2, ground := Ground.data }], guard := none }) rfl (by kernel_rfl) (by kernel_rfl) (by kernel_rfl) (by kernel_rfl) rfl (fun _ _ _ h => h) (Or.inl ⟨by rfl, ?_⟩) (HSS.out _ BS3) ?_
        rotate_left
        · intro W hSW
          go_simp
          try with_reducible rfl
        simp only [Act.put, List.setIfInBounds_toArray, List.set_cons_zero, List.set_cons_succ]
        refine wpAnyL_take' (i := 4) (v := ?_) (oi := { dst := some 50, op := Op.extract (Operand.tmp 46) 0, type := 25, pos := "law.go:122", after := #[{ on := 3, ground := Ground.data }], guard := none }) rfl (by kernel_rfl) (by kernel_rfl) (by kernel_rfl) (by kernel_rfl) rfl (fun _ _ _ h => h) (Or.inl ⟨by rfl, ?_⟩) (HSS.out _ BS3) ?_
        rotate_left
        · intro W hSW
          go_simp
          try with_reducible rfl
        simp only [Act.put, List.setIfInBounds_toArray, List.set_cons_zero, List.set_cons_succ]
        refine wpAnyL_take' (i := 5) (v := ?_) (oi := { dst := some 51, op := Op.extract (Operand.tmp 46) 1, type := 3, pos := "law.go:122", after := #[{ on := 3, ground := Ground.data }, { on := 8, ground := Ground.gcOnly Departure.lateStores }], guard := none }) rfl (by kernel_rfl) (by kernel_rfl) (by kernel_rfl) (by kernel_rfl) rfl (fun _ _ _ h => h) (Or.inl ⟨by rfl, ?_⟩) (HSS.out _ BS3) ?_
        rotate_left
        · intro W hSW
          go_simp
          try with_reducible rfl
        simp only [Act.put, List.setIfInBounds_toArray, List.set_cons_zero, List.set_cons_succ]
        refine wpAnyL_take' (i := 6) (v := ?_) (oi := { dst := some 52, op := Op.extract (Operand.tmp 46) 2, type := 33, pos := "law.go:122", after := #[{ on := 3, ground := Ground.data }, { on := 9, ground := Ground.gcOnly Departure.lateStores }], guard := none }) rfl (by kernel_rfl) (by kernel_rfl) (by kernel_rfl) (by kernel_rfl) rfl (fun _ _ _ h => h) (Or.inl ⟨by rfl, ?_⟩) (HSS.out _ BS3) ?_
        rotate_left
        · intro W hSW
          go_simp
          try with_reducible rfl
        simp only [Act.put, List.setIfInBounds_toArray, List.set_cons_zero, List.set_cons_succ]
        have kt := (hba.block _ (Nat.lt_of_lt_of_le hlt2 hbn.size)).trans ((hbn.block _ hlt2).trans kt)
        have HBX := box_old (q := q) (x := .slice sa sl sc) (y := .int .i64 fr) (z := .slice ra rl rc) BS3 hlt (Nat.lt_of_lt_of_le hlt2 hbn.size) kt hav
        have c0' : W3.cell? ⟨q, 0, none⟩ = some (.slice none 0 0) := by rw [Lib.cell_of_heap kt]; rfl
        have c1' : W3.cell? ⟨q, 1, none⟩ = some (.int .i64 0) := by rw [Lib.cell_of_heap kt]; rfl
        have c2' : W3.cell? ⟨q, 2, none⟩ = some (.slice none 0 0) := by rw [Lib.cell_of_heap kt]; rfl
        have f' : ∀ o, W3.frozen? ⟨q, o, none⟩ = false := fun o => Lib.frozen_of_heap kt _
        refine wpAnyL_one' (i := 8) (o := { dst := none, op := Op.store 25 (Operand.tmp 10) (Operand.tmp 50), type := 0, pos := "law.go:122", after := #[{ on := 7, ground := Ground.data }, { on := 4, ground := Ground.data }, { on := 2, ground := Ground.chain }, { on := 0, ground := Ground.phase }, { on := 1, ground := Ground.phase }, { on := 2, ground := Ground.phase }, { on := 3, ground := Ground.phase }, { on := 4, ground := Ground.phase }, { on := 5, ground := Ground.textOnly Departure.lateStores }, { on := 6, ground := Ground.textOnly Departure.lateStores }, { on := 7, ground := Ground.phase }], guard := none }) (by kernel_rfl) rfl rfl (fun K hK => ?_)
        go_simp
        refine hK.out _ _ (fun _ => HSS.out _ HBX.2) ?_
        clear hK c0' c1' c2' f'
        try simp only [Act.put, List.setIfInBounds_toArray, List.set_cons_zero, List.set_cons_succ]
        refine wpAnyL_one' (i := 9) (o := { dst := some 11, op := Op.assign (Operand.tmp 51), type := 3, pos := "law.go:122", after := #[{ on := 5, ground := Ground.data }, { on := 8, ground := Ground.chain }, { on := 0, ground := Ground.phase }, { on := 1, ground := Ground.phase }, { on := 2, ground := Ground.phase }, { on := 3, ground := Ground.phase }, { on := 4, ground := Ground.phase }, { on := 5, ground := Ground.phase }, { on := 6, ground := Ground.textOnly Departure.lateStores }, { on := 7, ground := Ground.phase }, { on := 8, ground := Ground.phase }], guard := none }) (by kernel_rfl) rfl rfl (fun K hK => ?_)
        go_simp
        refine hK.out _ _ (fun _ => HSS.out _ HBX.2) ?_
        clear hK
        try simp only [Act.put, List.setIfInBounds_toArray, List.set_cons_zero, List.set_cons_succ]
        refine wpAnyL_one' (i := 10) (o := { dst := some 12, op := Op.assign (Operand.tmp 52), type := 33, pos := "law.go:122", after := #[{ on := 6, ground := Ground.data }, { on := 9, ground := Ground.chain }, { on := 0, ground := Ground.phase }, { on := 1, ground := Ground.phase }, { on := 2, ground := Ground.phase }, { on := 3, ground := Ground.phase }, { on := 4, ground := Ground.phase }, { on := 5, ground := Ground.phase }, { on := 6, ground := Ground.phase }, { on := 7, ground := Ground.phase }, { on := 8, ground := Ground.phase }, { on := 9, ground := Ground.phase }], guard := none }) (by kernel_rfl) rfl rfl (fun K hK => ?_)
        go_simp
        refine hK.out _ _ (fun _ => HSS.out _ HBX.2) ?_
        clear hK
        try simp only [Act.put, List.setIfInBounds_toArray, List.set_cons_zero, List.set_cons_succ]
        refine wpAnyL_done (by kernel_rfl) ?_ _
        have HR : Hid (_ ∧ _) := ⟨HBX, had⟩
        clear HBX had
        go_wp2_with fail
        go_meet
        exact ⟨q, S2, p, sa, sl, sc, ra, rl, rc, fr, rfl, rfl, rfl, ⟨HR.out.1.1, HR.out.2, HR.out.1.2⟩⟩
    case rest =>
      obtain ⟨qb, Sc, pc, d1, d2, d3, d4, d5, d6, d7, rfl, rfl, rfl, HA⟩ := hcut
      rename World => u7
      have HV7 : Hid (Below u6.heap.size u6 u7) := HA.out.2.2
      have HRC : Hid (Added newA n 0 Sc pc) := HA.out.2.1
      have hAx := HA.out.1
      have hTx := HT0.out u7 (HV6.out u7 HV7.out)
      obtain ⟨c0, c1, c2, cf⟩ := hAx.cells
      obtain ⟨e00, e01, e02, e03, e04, e05, e06⟩ := HS0.out u7 (HV6.out u7 HV7.out)
      have hrl : (addS Sc pc).ar.roots.length < 4096 := by rw [HRC.out.roots]; simp [newA]
      have hD := add_parts (addS Sc pc).ar _ m _ n0 (0 + cntN n) u7 hAx.ar HRC.out.ok hrl hTx (by omega) (by omega)
      have HAX : Hid (BoxA _ _ _ _ _ _ _ u7) := hAx
      clear hrl hAx hTx HA
      go_upto_region 6 with fail
      go_wp2_with fail
      refine hD.mono ?_
      rintro e u8 ⟨⟨Sd, pd, f1, f2, f3, f4, f5, f6, f7, rfl, hav, had⟩, hb8⟩
      clear hD c0 c1 c2 cf e00 e01 e02 e03 e04 e05 e06
      have k0 := (hb8.block _ (blk_lt HAX.out.bx)).trans HAX.out.bx
      have c0 : u8.cell? ⟨qb, 0, none⟩ = some (.slice d1 d2 d3) := by rw [Lib.cell_of_heap k0]; rfl
      have c1 : u8.cell? ⟨qb, 1, none⟩ = some (.int .i64 d7) := by rw [Lib.cell_of_heap k0]; rfl
      have c2 : u8.cell? ⟨qb, 2, none⟩ = some (.slice d4 d5 d6) := by rw [Lib.cell_of_heap k0]; rfl
      have cf : ∀ o, u8.frozen? ⟨qb, o, none⟩ = false := fun o => Lib.frozen_of_heap k0 _
      have HBX : Hid _ := box_old (x := .slice f1 f2 f3) (y := .int .i64 f7) (z := .slice f4 f5 f6) (below_next HV7.out hb8) HAX.out.lo (blk_lt HAX.out.bx) k0 hav
      have HRD : Hid (Added (addS Sc pc).ar m (0 + cntN n) Sd pd) := had
      clear k0 hav had hb8 HAX HV7
      go_upto_region 7 with fail
      clear c0 c1 c2 cf
      generalize (((u8.setCell ⟨qb, 0, none⟩ (.slice f1 f2 f3)).setCell ⟨qb, 1, none⟩ (.int .i64 f7)).setCell ⟨qb, 2, none⟩ (.slice f4 f5 f6)) = u9 at *
      have HBB : Hid (∀ W, Below u9.heap.size u9 W → BoxA u6.heap.size qb (addS Sd pd).ar (.agg #[.slice f1 f2 f3, .int .i64 f7, .slice f4 f5 f6]) (.slice f1 f2 f3) (.int .i64 f7) (.slice f4 f5 f6) W) := fun W hb => HBX.out.1.next hb
      have HV9 : Hid (∀ W, Below u9.heap.size u9 W → Below u6.heap.size u6 W) := fun W hb => below_next HBX.out.2 hb
      have hTx := HT2.out u9 (HV6.out u9 HBX.out.2)
      obtain ⟨c0, c1, c2, cf⟩ := (HAA.out u9 HBX.out.2).cells
      obtain ⟨e20, e21, e22, e23, e24, e25, e26⟩ := HS2.out u9 (HV6.out u9 HBX.out.2)
      have hrl := roots_two HRA.out HRB.out
      have hD := add_parts (addS Sb pb).ar _ x _ n2 (0 + cntN m + cntN n) u9 (HAA.out u9 HBX.out.2).ar HRB.out.ok (by omega) hTx (by omega) (by omega)
      rw [hrl.2] at hD
      clear hTx HBX
      go_wp2_with fail
      refine hD.mono ?_
      rintro e u10 ⟨⟨Sg, pg, g1, g2, g3, g4, g5, g6, g7, rfl, hav, had⟩, hb10⟩
      clear hD c0 c1 c2 cf e20 e21 e22 e23 e24 e25 e26
      have HRG : Hid (Added (addS Sb pb).ar x (0 + cntN m + cntN n) Sg pg) := had
      go_upto_region 8 with fail
      have B4 : Below u9.heap.size u9 (u10.alloc (Obj.cells #[.slice g1 g2 g3, .int .i64 g7, .slice g4 g5 g6] 25)) := hb10.alloc hb10.size _
      have b4n : Below u10.heap.size u10 (u10.alloc (Obj.cells #[.slice g1 g2 g3, .int .i64 g7, .slice g4 g5 g6] 25)) := (Below.refl _ _).alloc (Nat.le_refl _) _
      have kt : (u10.alloc (Obj.cells #[.slice g1 g2 g3, .int .i64 g7, .slice g4 g5 g6] 25)).heap[u10.heap.size]? = some (Obj.cells #[.slice g1 g2 g3, .int .i64 g7, .slice g4 g5 g6] 25) := heap_alloc_new _ _
      have hBC := BoxA.mk (B := 0) (Nat.zero_le _) kt rfl (hav _ (But.of_next b4n))
      generalize u10.heap.size = qc at *
      generalize (u10.alloc (Obj.cells #[.slice g1 g2 g3, .int .i64 g7, .slice g4 g5 g6] 25)) = u11 at *
      obtain ⟨c0, c1, c2, cf⟩ := hBC.cells
      have HU11 : Hid (Below u9.heap.size u9 u11) := B4
      have hrl := roots_two HRA.out HRB.out
      have hlast : (addS Sg pg).ar.roots[2]? = some (pg : Int) := by
        have := root_last HRG.out
        rw [hrl.2] at this
        exact this
      have hD : Calls Try.prog 26 #[(.agg #[.slice g1 g2 g3, .int .i64 g7, .slice g4 g5 g6]), .int .i64 2] u11 _ := drop_parts (addS Sg pg).ar _ 2 pg u11 hBC.ar had.ok.fit had.ok.kl hlast
      clear hBC hlast B4 b4n kt hb10 hav had
      go_wp2_with fail
      refine hD.mono ?_
      rintro e u12 ⟨⟨cD, j1, j2, j3, j4, j5, j6, j7, rfl, hcv, hcd⟩, hb12⟩
      clear hD c0 c1 c2 cf
      go_upto_region 9 with fail
      have B4 : Below u11.heap.size u11 (u12.alloc (Obj.cells #[.slice j1 j2 j3, .int .i64 j7, .slice j4 j5 j6] 25)) := hb12.alloc hb12.size _
      have b4n : Below u12.heap.size u12 (u12.alloc (Obj.cells #[.slice j1 j2 j3, .int .i64 j7, .slice j4 j5 j6] 25)) := (Below.refl _ _).alloc (Nat.le_refl _) _
      have kt : (u12.alloc (Obj.cells #[.slice j1 j2 j3, .int .i64 j7, .slice j4 j5 j6] 25)).heap[u12.heap.size]? = some (Obj.cells #[.slice j1 j2 j3, .int .i64 j7, .slice j4 j5 j6] 25) := heap_alloc_new _ _
      have hBD := BoxA.mk (B := 0) (Nat.zero_le _) kt rfl (hcv.next b4n)
      generalize u12.heap.size = qd at *
      generalize (u12.alloc (Obj.cells #[.slice j1 j2 j3, .int .i64 j7, .slice j4 j5 j6] 25)) = v9 at *
      have HU9 : Hid (Below u9.heap.size u9 v9) := below_next HU11.out B4
      have HDD : Hid (∀ W, Below v9.heap.size v9 W → BoxA 0 qd cD (.agg #[.slice j1 j2 j3, .int .i64 j7, .slice j4 j5 j6]) (.slice j1 j2 j3) (.int .i64 j7) (.slice j4 j5 j6) W) := fun W hb => hBD.next hb
      have HAA : Hid (∀ W, Below v9.heap.size v9 W → BoxA u3.heap.size qa (addS Sb pb).ar (.agg #[.slice b1 b2 b3, .int .i64 b7, .slice b4 b5 b6]) (.slice b1 b2 b3) (.int .i64 b7) (.slice b4 b5 b6) W) := fun W hb => HAA.out W (HV9.out W (below_next HU9.out hb))
      have HBB : Hid (∀ W, Below v9.heap.size v9 W → BoxA u6.heap.size qb (addS Sd pd).ar (.agg #[.slice f1 f2 f3, .int .i64 f7, .slice f4 f5 f6]) (.slice f1 f2 f3) (.int .i64 f7) (.slice f4 f5 f6) W) := fun W hb => HBB.out W (below_next HU9.out hb)
      have HW : Hid (Below w.heap.size w v9) := below_next HB0.out (HV6.out v9 (HV9.out v9 HU9.out))
      clear B4 b4n kt hb12 hcv hBD
      have hl1 := live_order HRA.out HRB.out HRC.out HRD.out
      have hl2 := live_back HRB.out.ok.fit HRG.out hrl.2.symm hcd
      obtain ⟨L, hL⟩ : ∃ L : Int, L = (liveN (addS Sb pb).ar.slots : Int) := ⟨_, rfl⟩
      have HLA : Hid (∀ W, Below v9.heap.size v9 W → Calls Try.prog 19 #[.agg #[.slice b1 b2 b3, .int .i64 b7, .slice b4 b5 b6]] W fun e w' => e = .returned (.int .i64 L) ∧ Below W.heap.size W w') := fun W hb => by
        have := live_any _ _ W (HAA.out W hb).ar
        rw [← hL] at this
        exact this
      have HLB : Hid (∀ W, Below v9.heap.size v9 W → Calls Try.prog 19 #[.agg #[.slice f1 f2 f3, .int .i64 f7, .slice f4 f5 f6]] W fun e w' => e = .returned (.int .i64 L) ∧ Below W.heap.size W w') := fun W hb => by
        have := live_any _ _ W (HBB.out W hb).ar
        rw [← hl1, ← hL] at this
        exact this
      have HLD : Hid (∀ W, Below v9.heap.size v9 W → Calls Try.prog 19 #[.agg #[.slice j1 j2 j3, .int .i64 j7, .slice j4 j5 j6]] W fun e w' => e = .returned (.int .i64 L) ∧ Below W.heap.size W w') := fun W hb => by
        have := live_any _ _ W (HDD.out W hb).ar
        rw [hl2, ← hL] at this
        exact this
      have HS : Hid (∀ W, Below v9.heap.size v9 W → (W.cell? ⟨qa, 0, none⟩ = some (.slice b1 b2 b3) ∧ W.cell? ⟨qa, 1, none⟩ = some (.int .i64 b7) ∧ W.cell? ⟨qa, 2, none⟩ = some (.slice b4 b5 b6) ∧ W.cell? ⟨qb, 0, none⟩ = some (.slice f1 f2 f3) ∧ W.cell? ⟨qb, 1, none⟩ = some (.int .i64 f7) ∧ W.cell? ⟨qb, 2, none⟩ = some (.slice f4 f5 f6) ∧ W.cell? ⟨qd, 0, none⟩ = some (.slice j1 j2 j3) ∧ W.cell? ⟨qd, 1, none⟩ = some (.int .i64 j7) ∧ W.cell? ⟨qd, 2, none⟩ = some (.slice j4 j5 j6))) := fun W hb =>
        ⟨(HAA.out W hb).cells.1, (HAA.out W hb).cells.2.1, (HAA.out W hb).cells.2.2.1, (HBB.out W hb).cells.1, (HBB.out W hb).cells.2.1, (HBB.out W hb).cells.2.2.1, (HDD.out W hb).cells.1, (HDD.out W hb).cells.2.1, (HDD.out W hb).cells.2.2.1⟩
      have HA : Hid (∀ W, _) := awake20_any
      have HS0' := HS.out v9.drew (Below.refl _ _).drew
      have BS : Below v9.heap.size v9 v9.drew := (Below.refl _ _).drew
      clear HAA HBB HDD hl1 hl2 hL hcd hrl HRA HRB HRC HRD HRG HT0 HT1 HT2 HS0 HS1 HS2 HU1 HU2 HU3 HU6 HU9 HU11 HV6 HV9 HB0
      go_wp2_with fail
      refine wp_region_L (fun W => W.cell? ⟨qa, 0, none⟩ = some (.slice b1 b2 b3) ∧ W.cell? ⟨qa, 1, none⟩ = some (.int .i64 b7) ∧ W.cell? ⟨qa, 2, none⟩ = some (.slice b4 b5 b6) ∧ W.cell? ⟨qb, 0, none⟩ = some (.slice f1 f2 f3) ∧ W.cell? ⟨qb, 1, none⟩ = some (.int .i64 f7) ∧ W.cell? ⟨qb, 2, none⟩ = some (.slice f4 f5 f6) ∧ W.cell? ⟨qd, 0, none⟩ = some (.slice j1 j2 j3) ∧ W.cell? ⟨qd, 1, none⟩ = some (.int .i64 j7) ∧ W.cell? ⟨qd, 2, none⟩ = some (.slice j4 j5 j6)) 24 (by kernel_rfl) 24 rfl ?_
      generalize v9.drew = vd at *
      refine wpAnyL_take' (i := 0) (v := ?_) (oi := { dst := some 73, op := Op.move (Operand.tmp 15), type := 33, pos := "law.go:126", after := #[], guard := none }) rfl (by kernel_rfl) (by kernel_rfl) (by kernel_rfl) (by kernel_rfl) rfl (fun _ _ _ h => h) (Or.inl ⟨by rfl, ?_⟩) HS0' ?_
      rotate_left
      · intro W hSW
        go_simp
        try with_reducible rfl
      simp only [Act.put, List.setIfInBounds_toArray, List.set_cons_zero, List.set_cons_succ]
      refine wpAnyL_take' (i := 1) (v := ?_) (oi := { dst := some 74, op := Op.binOp BinOp.eql 33 (Operand.tmp 73) (Operand.const (Value.int IntKind.i64 0)) 33, type := 4, pos := "law.go:126", after := #[{ on := 0, ground := Ground.data }], guard := none }) rfl (by kernel_rfl) (by kernel_rfl) (by kernel_rfl) (by kernel_rfl) rfl (fun _ _ _ h => h) (Or.inl ⟨by rfl, ?_⟩) HS0' ?_
      rotate_left
      · intro W hSW
        go_simp
        try with_reducible rfl
      simp only [Act.put, List.setIfInBounds_toArray, List.set_cons_zero, List.set_cons_succ]
      refine wpAnyL_take' (i := 2) (v := ?_) (oi := { dst := some 75, op := Op.move (Operand.tmp 74), type := 4, pos := "law.go:126", after := #[{ on := 1, ground := Ground.data }], guard := none }) rfl (by kernel_rfl) (by kernel_rfl) (by kernel_rfl) (by kernel_rfl) rfl (fun _ _ _ h => h) (Or.inl ⟨by rfl, ?_⟩) HS0' ?_
      rotate_left
      · intro W hSW
        go_simp
        try with_reducible rfl
      simp only [Act.put, List.setIfInBounds_toArray, List.set_cons_zero, List.set_cons_succ]
      refine wpAnyL_take' (i := 3) (v := ?_) (oi := { dst := some 76, op := Op.move (Operand.tmp 17), type := 33, pos := "law.go:126", after := #[{ on := 2, ground := Ground.guard }], guard := some (2, true) }) rfl (by kernel_rfl) (by kernel_rfl) (by kernel_rfl) (by kernel_rfl) rfl (fun _ _ _ h => h) (Or.inl ⟨by rfl, ?_⟩) HS0' ?_
      rotate_left
      · intro W hSW
        go_simp
        try with_reducible rfl
      simp only [Act.put, List.setIfInBounds_toArray, List.set_cons_zero, List.set_cons_succ]
      refine wpAnyL_take' (i := 4) (v := ?_) (oi := { dst := some 77, op := Op.binOp BinOp.eql 33 (Operand.tmp 76) (Operand.const (Value.int IntKind.i64 0)) 33, type := 4, pos := "law.go:126", after := #[{ on := 3, ground := Ground.data }, { on := 2, ground := Ground.guard }], guard := some (2, true) }) rfl (by kernel_rfl) (by kernel_rfl) (by kernel_rfl) (by kernel_rfl) rfl (fun _ _ _ h => h) (Or.inl ⟨by rfl, ?_⟩) HS0' ?_
      rotate_left
      · intro W hSW
        go_simp
        try with_reducible rfl
      simp only [Act.put, List.setIfInBounds_toArray, List.set_cons_zero, List.set_cons_succ]
      refine wpAnyL_take' (i := 5) (v := ?_) (oi := { dst := some 78, op := Op.pick (Operand.tmp 75) (Operand.tmp 77) (Operand.const (Value.bool false)), type := 4, pos := "law.go:126", after := #[{ on := 2, ground := Ground.data }, { on := 4, ground := Ground.data }], guard := none }) rfl (by kernel_rfl) (by kernel_rfl) (by kernel_rfl) (by kernel_rfl) rfl (fun _ _ _ h => h) (Or.inl ⟨by rfl, ?_⟩) HS0' ?_
      rotate_left
      · intro W hSW
        go_simp
        try with_reducible rfl
      simp only [Act.put, List.setIfInBounds_toArray, List.set_cons_zero, List.set_cons_succ]
      refine wpAnyL_take' (i := 6) (v := ?_) (oi := { dst := some 79, op := Op.move (Operand.tmp 78), type := 4, pos := "law.go:126", after := #[{ on := 5, ground := Ground.data }, { on := 2, ground := Ground.chain }], guard := none }) rfl (by kernel_rfl) (by kernel_rfl) (by kernel_rfl) (by kernel_rfl) rfl (fun _ _ _ h => h) (Or.inl ⟨by rfl, ?_⟩) HS0' ?_
      rotate_left
      · intro W hSW
        go_simp
        try with_reducible rfl
      simp only [Act.put, List.setIfInBounds_toArray, List.set_cons_zero, List.set_cons_succ]
      refine wpAnyL_take' (i := 7) (v := ?_) (oi := { dst := some 80, op := Op.load 25 (Operand.tmp 7), type := 25, pos := "law.go:126", after := #[{ on := 6, ground := Ground.guard }], guard := some (6, true) }) rfl (by kernel_rfl) (by kernel_rfl) (by kernel_rfl) (by kernel_rfl) rfl (fun _ _ _ h => h) (Or.inl ⟨by rfl, ?_⟩) HS0' ?_
      rotate_left
      · intro W hSW
        go_simp
        try with_reducible rfl
      simp only [Act.put, List.setIfInBounds_toArray, List.set_cons_zero, List.set_cons_succ]
      refine wpAnyL_take' (i := 9) (v := ?_) (oi := { dst := some 82, op := Op.load 25 (Operand.tmp 10), type := 25, pos := "law.go:126", after := #[{ on := 6, ground := Ground.guard }], guard := some (6, true) }) rfl (by kernel_rfl) (by kernel_rfl) (by kernel_rfl) (by kernel_rfl) rfl (fun _ _ _ h => h) (Or.inl ⟨by rfl, ?_⟩) HS0' ?_
      rotate_left
      · intro W hSW
        go_simp
        try with_reducible rfl
      simp only [Act.put, List.setIfInBounds_toArray, List.set_cons_zero, List.set_cons_succ]
      refine wpAnyL_one' (i := 8) (o := { dst := some 81, op := Op.call { callee := Callee.value (Operand.func 19), args := #[Operand.tmp 80], argTypes := #[25] }, type := 3, pos := "law.go:126", after := #[{ on := 7, ground := Ground.data }, { on := 6, ground := Ground.chain }, { on := 6, ground := Ground.guard }], guard := some (6, true) }) (by kernel_rfl) rfl rfl (fun K hK => ?_)
      go_simp
      refine (HLA.out _ BS).mono ?_
      rintro e x1 ⟨rfl, x1b⟩
      refine hK.out _ _ (fun _ => HS.out _ (below_next BS x1b)) ?_
      clear hK
      have B1 : Below v9.heap.size v9 x1 := below_next BS x1b
      clear x1b
      try simp only [Act.put, List.setIfInBounds_toArray, List.set_cons_zero, List.set_cons_succ]
      refine wpAnyL_one' (i := 10) (o := { dst := some 83, op := Op.call { callee := Callee.value (Operand.func 19), args := #[Operand.tmp 82], argTypes := #[25] }, type := 3, pos := "law.go:126", after := #[{ on := 9, ground := Ground.data }, { on := 8, ground := Ground.chain }, { on := 6, ground := Ground.guard }], guard := some (6, true) }) (by kernel_rfl) rfl rfl (fun K hK => ?_)
      go_simp
      refine (HLB.out _ B1).mono ?_
      rintro e x2 ⟨rfl, x2b⟩
      refine hK.out _ _ (fun _ => HS.out _ (below_next B1 x2b)) ?_
      clear hK
      have B2 : Below v9.heap.size v9 x2 := below_next B1 x2b
      clear x2b
      try simp only [Act.put, List.setIfInBounds_toArray, List.set_cons_zero, List.set_cons_succ]
      refine wpAnyL_take' (i := 11) (v := ?_) (oi := { dst := some 84, op := Op.binOp BinOp.eql 3 (Operand.tmp 81) (Operand.tmp 83) 3, type := 4, pos := "law.go:126", after := #[{ on := 8, ground := Ground.data }, { on := 10, ground := Ground.data }, { on := 6, ground := Ground.guard }], guard := some (6, true) }) rfl (by kernel_rfl) (by kernel_rfl) (by kernel_rfl) (by kernel_rfl) rfl (fun _ _ _ h => h) (Or.inl ⟨by rfl, ?_⟩) (HS.out _ B2) ?_
      rotate_left
      · intro W hSW
        go_simp
        try with_reducible rfl
      simp only [Act.put, List.setIfInBounds_toArray, List.set_cons_zero, List.set_cons_succ]
      refine wpAnyL_take' (i := 12) (v := ?_) (oi := { dst := some 85, op := Op.pick (Operand.tmp 79) (Operand.tmp 84) (Operand.const (Value.bool false)), type := 4, pos := "law.go:126", after := #[{ on := 6, ground := Ground.data }, { on := 11, ground := Ground.data }], guard := none }) rfl (by kernel_rfl) (by kernel_rfl) (by kernel_rfl) (by kernel_rfl) rfl (fun _ _ _ h => h) (Or.inl ⟨by rfl, ?_⟩) (HS.out _ B2) ?_
      rotate_left
      · intro W hSW
        go_simp
        try with_reducible rfl
      simp only [Act.put, List.setIfInBounds_toArray, List.set_cons_zero, List.set_cons_succ]
      refine wpAnyL_take' (i := 13) (v := ?_) (oi := { dst := some 86, op := Op.move (Operand.tmp 85), type := 4, pos := "law.go:126", after := #[{ on := 12, ground := Ground.data }, { on := 10, ground := Ground.chain }], guard := none }) rfl (by kernel_rfl) (by kernel_rfl) (by kernel_rfl) (by kernel_rfl) rfl (fun _ _ _ h => h) (Or.inl ⟨by rfl, ?_⟩) (HS.out _ B2) ?_
      rotate_left
      · intro W hSW
        go_simp
        try with_reducible rfl
      simp only [Act.put, List.setIfInBounds_toArray, List.set_cons_zero, List.set_cons_succ]
      refine wpAnyL_take' (i := 14) (v := ?_) (oi := { dst := some 87, op := Op.load 25 (Operand.tmp 16), type := 25, pos := "law.go:126", after := #[{ on := 13, ground := Ground.guard }], guard := some (13, true) }) rfl (by kernel_rfl) (by kernel_rfl) (by kernel_rfl) (by kernel_rfl) rfl (fun _ _ _ h => h) (Or.inl ⟨by rfl, ?_⟩) (HS.out _ B2) ?_
      rotate_left
      · intro W hSW
        go_simp
        try with_reducible rfl
      simp only [Act.put, List.setIfInBounds_toArray, List.set_cons_zero, List.set_cons_succ]
      refine wpAnyL_take' (i := 16) (v := ?_) (oi := { dst := some 89, op := Op.load 25 (Operand.tmp 7), type := 25, pos := "law.go:126", after := #[{ on := 13, ground := Ground.guard }], guard := some (13, true) }) rfl (by kernel_rfl) (by kernel_rfl) (by kernel_rfl) (by kernel_rfl) rfl (fun _ _ _ h => h) (Or.inl ⟨by rfl, ?_⟩) (HS.out _ B2) ?_
      rotate_left
      · intro W hSW
        go_simp
        try with_reducible rfl
      simp only [Act.put, List.setIfInBounds_toArray, List.set_cons_zero, List.set_cons_succ]
      refine wpAnyL_one' (i := 15) (o := { dst := some 88, op := Op.call { callee := Callee.value (Operand.func 19), args := #[Operand.tmp 87], argTypes := #[25] }, type := 3, pos := "law.go:126", after := #[{ on := 14, ground := Ground.data }, { on := 13, ground := Ground.chain }, { on := 13, ground := Ground.guard }], guard := some (13, true) }) (by kernel_rfl) rfl rfl (fun K hK => ?_)
      go_simp
      refine (HLD.out _ B2).mono ?_
      rintro e x3 ⟨rfl, x3b⟩
      refine hK.out _ _ (fun _ => HS.out _ (below_next B2 x3b)) ?_
      clear hK
      have B3 : Below v9.heap.size v9 x3 := below_next B2 x3b
      clear x3b
      try simp only [Act.put, List.setIfInBounds_toArray, List.set_cons_zero, List.set_cons_succ]
      refine wpAnyL_one' (i := 17) (o := { dst := some 90, op := Op.call { callee := Callee.value (Operand.func 19), args := #[Operand.tmp 89], argTypes := #[25] }, type := 3, pos := "law.go:126", after := #[{ on := 16, ground := Ground.data }, { on := 15, ground := Ground.chain }, { on := 13, ground := Ground.guard }], guard := some (13, true) }) (by kernel_rfl) rfl rfl (fun K hK => ?_)
      go_simp
      refine (HLA.out _ B3).mono ?_
      rintro e x4 ⟨rfl, x4b⟩
      refine hK.out _ _ (fun _ => HS.out _ (below_next B3 x4b)) ?_
      clear hK
      have B4 : Below v9.heap.size v9 x4 := below_next B3 x4b
      clear x4b
      try simp only [Act.put, List.setIfInBounds_toArray, List.set_cons_zero, List.set_cons_succ]
      refine wpAnyL_take' (i := 18) (v := ?_) (oi := { dst := some 91, op := Op.binOp BinOp.eql 3 (Operand.tmp 88) (Operand.tmp 90) 3, type := 4, pos := "law.go:126", after := #[{ on := 15, ground := Ground.data }, { on := 17, ground := Ground.data }, { on := 13, ground := Ground.guard }], guard := some (13, true) }) rfl (by kernel_rfl) (by kernel_rfl) (by kernel_rfl) (by kernel_rfl) rfl (fun _ _ _ h => h) (Or.inl ⟨by rfl, ?_⟩) (HS.out _ B4) ?_
      rotate_left
      · intro W hSW
        go_simp
        try with_reducible rfl
      simp only [Act.put, List.setIfInBounds_toArray, List.set_cons_zero, List.set_cons_succ]
      refine wpAnyL_take' (i := 19) (v := ?_) (oi := { dst := some 92, op := Op.pick (Operand.tmp 86) (Operand.tmp 91) (Operand.const (Value.bool false)), type := 4, pos := "law.go:126", after := #[{ on := 13, ground := Ground.data }, { on := 18, ground := Ground.data }], guard := none }) rfl (by kernel_rfl) (by kernel_rfl) (by kernel_rfl) (by kernel_rfl) rfl (fun _ _ _ h => h) (Or.inl ⟨by rfl, ?_⟩) (HS.out _ B4) ?_
      rotate_left
      · intro W hSW
        go_simp
        try with_reducible rfl
      simp only [Act.put, List.setIfInBounds_toArray, List.set_cons_zero, List.set_cons_succ]
      refine wpAnyL_take' (i := 20) (v := ?_) (oi := { dst := some 93, op := Op.move (Operand.tmp 92), type := 4, pos := "law.go:126", after := #[{ on := 19, ground := Ground.data }, { on := 17, ground := Ground.chain }], guard := none }) rfl (by kernel_rfl) (by kernel_rfl) (by kernel_rfl) (by kernel_rfl) rfl (fun _ _ _ h => h) (Or.inl ⟨by rfl, ?_⟩) (HS.out _ B4) ?_
      rotate_left
      · intro W hSW
        go_simp
        try with_reducible rfl
      simp only [Act.put, List.setIfInBounds_toArray, List.set_cons_zero, List.set_cons_succ]
      refine wpAnyL_one' (i := 21) (o := { dst := some 94, op := Op.call { callee := Callee.value (Operand.func 9), args := #[], argTypes := #[] }, type := 4, pos := "law.go:126", after := #[{ on := 20, ground := Ground.chain }, { on := 20, ground := Ground.guard }], guard := some (20, true) }) (by kernel_rfl) rfl rfl (fun K hK => ?_)
      go_simp
      refine (HA.out _).mono ?_
      rintro e x5 ⟨rfl, x5b⟩
      refine hK.out _ _ (fun _ => HS.out _ (below_next B4 x5b)) ?_
      clear hK
      have B5 : Below v9.heap.size v9 x5 := below_next B4 x5b
      clear x5b
      try simp only [Act.put, List.setIfInBounds_toArray, List.set_cons_zero, List.set_cons_succ]
      refine wpAnyL_take' (i := 22) (v := ?_) (oi := { dst := some 95, op := Op.pick (Operand.tmp 93) (Operand.tmp 94) (Operand.const (Value.bool false)), type := 4, pos := "law.go:126", after := #[{ on := 20, ground := Ground.data }, { on := 21, ground := Ground.data }], guard := none }) rfl (by kernel_rfl) (by kernel_rfl) (by kernel_rfl) (by kernel_rfl) rfl (fun _ _ _ h => h) (Or.inl ⟨by rfl, ?_⟩) (HS.out _ B5) ?_
      rotate_left
      · intro W hSW
        go_simp
        try with_reducible rfl
      simp only [Act.put, List.setIfInBounds_toArray, List.set_cons_zero, List.set_cons_succ]
      refine wpAnyL_take' (i := 23) (v := ?_) (oi := { dst := some 6, op := Op.assign (Operand.tmp 95), type := 4, pos := "law.go:126", after := #[{ on := 22, ground := Ground.data }, { on := 21, ground := Ground.chain }, { on := 0, ground := Ground.phase }, { on := 1, ground := Ground.phase }, { on := 2, ground := Ground.phase }, { on := 3, ground := Ground.phase }, { on := 4, ground := Ground.phase }, { on := 5, ground := Ground.phase }, { on := 6, ground := Ground.phase }, { on := 7, ground := Ground.phase }, { on := 8, ground := Ground.phase }, { on := 9, ground := Ground.phase }, { on := 10, ground := Ground.phase }, { on := 11, ground := Ground.phase }, { on := 12, ground := Ground.phase }, { on := 13, ground := Ground.phase }, { on := 14, ground := Ground.phase }, { on := 15, ground := Ground.phase }, { on := 16, ground := Ground.phase }, { on := 17, ground := Ground.phase }, { on := 18, ground := Ground.phase }, { on := 19, ground := Ground.phase }, { on := 20, ground := Ground.phase }, { on := 21, ground := Ground.phase }, { on := 22, ground := Ground.phase }], guard := none }) rfl (by kernel_rfl) (by kernel_rfl) (by kernel_rfl) (by kernel_rfl) rfl (fun _ _ _ h => h) (Or.inl ⟨by rfl, ?_⟩) (HS.out _ B5) ?_
      rotate_left
      · intro W hSW
        go_simp
        try with_reducible rfl
      simp only [Act.put, List.setIfInBounds_toArray, List.set_cons_zero, List.set_cons_succ]
      refine wpAnyL_done (by kernel_rfl) ?_ _
      go_wp2_with fail
      go_ret
      exact ⟨rfl, below_next HW.out B5⟩
end Go.Proofs.Ytoocafcagelbgaa
