/- Stacks: the law GssMerges, walked. -/
import Derived.Test.YtjpbfckdiojghaaMMerge
import Derived.Test.YtjpbfckdiojghaaGSame
import Derived.Test.YtjpbfckdiojghaaGFew
import Derived.Test.YtjpbfckdiojghaaHeldTwo
import Derived.Test.YtjpbfckdiojghaaKData
namespace Go.Proofs.Ytjpbfckdiojghaa
open Go.RowKit

theorem Joins2.ok {a b m : List Gn} (h : Joins2 a b m) : linksOk m := fun x hx => by have := h.fit.len hx; omega

set_option maxRecDepth 100000 in
set_option maxHeartbeats 8000000 in
theorem gmerges_any (a b c : List Gn) (u v y : Value) (w : World) (ha : SlN a u w) (hb : SlN b v w) (hc : SlN c y w) :
    Calls Try.prog 4 #[.agg #[u], .agg #[v], .agg #[y]] w fun e w' => e = .returned (.bool true) ∧ Below w.heap.size w w' := by
  have HA : Hid (∀ W, Below w.heap.size w W → SlN a u W) := fun W h => ha.next h
  have HB : Hid (∀ W, Below w.heap.size w W → SlN b v W) := fun W h => hb.next h
  have HC : Hid (∀ W, Below w.heap.size w W → SlN c y W) := fun W h => hc.next h
  obtain ⟨aa, ac, rfl, _⟩ := ha
  obtain ⟨ba, bc, rfl, _⟩ := hb
  obtain ⟨ca, cc, rfl, _⟩ := hc
  obtain ⟨w0, hw0⟩ : ∃ w0, w0 = ((w.alloc (Obj.cells #[.slice aa a.length ac] 24)).alloc (Obj.cells #[.slice ba b.length bc] 24)).alloc (Obj.cells #[.slice ca c.length cc] 24) := ⟨_, rfl⟩
  have B0 : Below w.heap.size w w0 := by rw [hw0]; exact (((Below.refl _ _).alloc (Nat.le_refl _) _).alloc (by simp) _).alloc (by simp; omega) _
  have k0 : w0.heap[w.heap.size]? = some (Obj.cells #[.slice aa a.length ac] 24) := by rw [hw0]; exact blk_new (blk_new (heap_alloc_new _ _))
  have k1 : w0.heap[w.heap.size + 1]? = some (Obj.cells #[.slice ba b.length bc] 24) := by rw [hw0]; exact blk_new (by simpa using heap_alloc_new (w.alloc (Obj.cells #[.slice aa a.length ac] 24)) (Obj.cells #[.slice ba b.length bc] 24))
  have k2 : w0.heap[w.heap.size + 1 + 1]? = some (Obj.cells #[.slice ca c.length cc] 24) := by rw [hw0]; simpa using heap_alloc_new ((w.alloc (Obj.cells #[.slice aa a.length ac] 24)).alloc (Obj.cells #[.slice ba b.length bc] 24)) (Obj.cells #[.slice ca c.length cc] 24)
  have HBB : Hid (∀ W, Below w0.heap.size w0 W → Below w.heap.size w W) := fun W h => below_then B0 h B0.size
  have HCL : Hid (∀ W, Below w0.heap.size w0 W → W.cell? ⟨w.heap.size, 0, none⟩ = some (.slice aa a.length ac) ∧ W.cell? ⟨w.heap.size + 1, 0, none⟩ = some (.slice ba b.length bc) ∧ W.cell? ⟨w.heap.size + 1 + 1, 0, none⟩ = some (.slice ca c.length cc)) := fun W h => ⟨by rw [Lib.cell_of_heap ((h.block _ (blk_lt k0)).trans k0)]; rfl, by rw [Lib.cell_of_heap ((h.block _ (blk_lt k1)).trans k1)]; rfl, by rw [Lib.cell_of_heap ((h.block _ (blk_lt k2)).trans k2)]; rfl⟩
  have HW : Hid (∀ W, Below w0.heap.size w0 W → (Calls Try.prog 5 #[.agg #[.slice aa a.length ac]] W fun e w' => e = .returned (.bool (fewG a)) ∧ Below W.heap.size W w') ∧ (Calls Try.prog 5 #[.agg #[.slice ba b.length bc]] W fun e w' => e = .returned (.bool (fewG b)) ∧ Below W.heap.size W w') ∧ (Calls Try.prog 5 #[.agg #[.slice ca c.length cc]] W fun e w' => e = .returned (.bool (fewG c)) ∧ Below W.heap.size W w') ∧ (Calls Try.prog 6 #[.agg #[.slice aa a.length ac]] W fun e w' => e = .returned (.bool (fitG a)) ∧ Below W.heap.size W w') ∧ (Calls Try.prog 6 #[.agg #[.slice ba b.length bc]] W fun e w' => e = .returned (.bool (fitG b)) ∧ Below W.heap.size W w') ∧ (Calls Try.prog 6 #[.agg #[.slice ca c.length cc]] W fun e w' => e = .returned (.bool (fitG c)) ∧ Below W.heap.size W w')) := fun W h => ⟨gfew_any a _ W (HA.out W (HBB.out W h)), gfew_any b _ W (HB.out W (HBB.out W h)), gfew_any c _ W (HC.out W (HBB.out W h)), gfit_any a _ W (HA.out W (HBB.out W h)), gfit_any b _ W (HB.out W (HBB.out W h)), gfit_any c _ W (HC.out W (HBB.out W h))⟩
  have HF1 : Hid (fewG a = true → a.length ≤ 120) := fun h => by unfold fewG at h; simp at h; omega
  have HF2 : Hid (fewG b = true → b.length ≤ 120) := fun h => by unfold fewG at h; simp at h; omega
  have HF3 : Hid (fewG c = true → c.length ≤ 120) := fun h => by unfold fewG at h; simp at h; omega
  have HT1 : Hid (fitG a = true → fitP a) := (fitG_iff a).1
  have HT2 : Hid (fitG b = true → fitP b) := (fitG_iff b).1
  have HT3 : Hid (fitG c = true → fitP c) := (fitG_iff c).1
  generalize fewG a = F1 at *
  generalize fewG b = F2 at *
  generalize fewG c = F3 at *
  generalize fitG a = T1 at *
  generalize fitG b = T2 at *
  generalize fitG c = T3 at *
  have HK7 : Hid (w0.heap[w.heap.size]? = some (Obj.cells #[.slice aa a.length ac] 24) ∧ w0.heap[w.heap.size + 1]? = some (Obj.cells #[.slice ba b.length bc] 24) ∧ w0.heap[w.heap.size + 1 + 1]? = some (Obj.cells #[.slice ca c.length cc] 24)) := ⟨k0, k1, k2⟩
  go_enter Try.func4, Try.ntmps4
  clear k0 k1 k2
  go_upto_region 1 with fail
  rw [← hw0]
  clear hw0
  go_cut [35] from 8 to 35 (fun t35 wx => t35 = .bool (!(F1 && F2 && F3 && T1 && T2 && T3)) ∧ Below w0.heap.size w0 wx)
  case first =>
    have bz0 : Below w0.heap.size w0 w0 := Below.refl _ _
    obtain ⟨q0, q1, q2⟩ := HCL.out _ bz0
    have HQ := (HW.out _ bz0).1
    go_wp2_with fail
    refine HQ.mono ?_
    clear HQ q0 q1 q2
    rintro e wz1 ⟨rfl, bb1⟩
    have bz1 := below_then bz0 bb1 bz0.size
    clear bb1
    cases F1
    · go_wp2_with fail
      go_meet
      exact ⟨by simp, bz1⟩
    obtain ⟨q0, q1, q2⟩ := HCL.out _ bz1
    have HQ := (HW.out _ bz1).2.1
    go_wp2_with fail
    refine HQ.mono ?_
    clear HQ q0 q1 q2
    rintro e wz2 ⟨rfl, bb2⟩
    have bz2 := below_then bz1 bb2 bz1.size
    clear bb2
    cases F2
    · go_wp2_with fail
      go_meet
      exact ⟨by simp, bz2⟩
    obtain ⟨q0, q1, q2⟩ := HCL.out _ bz2
    have HQ := (HW.out _ bz2).2.2.1
    go_wp2_with fail
    refine HQ.mono ?_
    clear HQ q0 q1 q2
    rintro e wz3 ⟨rfl, bb3⟩
    have bz3 := below_then bz2 bb3 bz2.size
    clear bb3
    cases F3
    · go_wp2_with fail
      go_meet
      exact ⟨by simp, bz3⟩
    obtain ⟨q0, q1, q2⟩ := HCL.out _ bz3
    have HQ := (HW.out _ bz3).2.2.2.1
    go_wp2_with fail
    refine HQ.mono ?_
    clear HQ q0 q1 q2
    rintro e wz4 ⟨rfl, bb4⟩
    have bz4 := below_then bz3 bb4 bz3.size
    clear bb4
    cases T1
    · go_wp2_with fail
      go_meet
      exact ⟨by simp, bz4⟩
    obtain ⟨q0, q1, q2⟩ := HCL.out _ bz4
    have HQ := (HW.out _ bz4).2.2.2.2.1
    go_wp2_with fail
    refine HQ.mono ?_
    clear HQ q0 q1 q2
    rintro e wz5 ⟨rfl, bb5⟩
    have bz5 := below_then bz4 bb5 bz4.size
    clear bb5
    cases T2
    · go_wp2_with fail
      go_meet
      exact ⟨by simp, bz5⟩
    obtain ⟨q0, q1, q2⟩ := HCL.out _ bz5
    have HQ := (HW.out _ bz5).2.2.2.2.2
    go_wp2_with fail
    refine HQ.mono ?_
    clear HQ q0 q1 q2
    rintro e wz6 ⟨rfl, bb6⟩
    have bz6 := below_then bz5 bb6 bz5.size
    clear bb6
    cases T3
    · go_wp2_with fail
      go_meet
      exact ⟨by simp, bz6⟩
    go_wp2_with fail
    go_meet
    exact ⟨by simp, bz6⟩
  case rest =>
    obtain ⟨rfl, bx⟩ := hcut
    by_cases hall : (F1 && F2 && F3 && T1 && T2 && T3) = true
    case neg =>
      have hall' : (F1 && F2 && F3 && T1 && T2 && T3) = false := by simpa using hall
      rw [hall']
      have HAW := awake_any wc
      have HBW : Hid (Below w.heap.size w wc) := HBB.out _ bx
      clear HW HA HB HC HF1 HF2 HF3 HT1 HT2 HT3 hall hall' HCL HBB bx
      simp only [Bool.not_false]
      go_wp2_with fail
      refine HAW.mono ?_
      rintro e w1 ⟨rfl, b1⟩
      go_wp2_with fail
      go_ret
      exact ⟨rfl, below_then HBW.out b1 HBW.out.size⟩
    rw [hall]
    simp only [Bool.and_eq_true] at hall
    obtain ⟨⟨⟨⟨⟨h1, h2⟩, h3⟩, h4⟩, h5⟩, h6⟩ := hall
    have hla := HF1.out h1
    have hlb := HF2.out h2
    have hlc := HF3.out h3
    have HFA : Hid (fitP a) := HT1.out h4
    have HFB : Hid (fitP b) := HT2.out h5
    have HFC : Hid (fitP c) := HT3.out h6
    clear HW HF1 HF2 HF3 HT1 HT2 HT3 h1 h2 h3 h4 h5 h6 F1 F2 F3 T1 T2 T3
    have HMR : Hid (∀ (l m : List Gn) (u v : Value) W, SlN l u W → SlN m v W → fitP l → fitP m → l.length ≤ 360 → m.length ≤ 360 → Calls Try.prog 11 #[.agg #[u], .agg #[v]] W fun e w' => ∃ z ma mc, e = .returned (.agg #[.slice ma (List.length z) mc]) ∧ Joins2 l m z ∧ SlN z (.slice ma z.length mc) w' ∧ Below W.heap.size W w') := fun l m u v W h1 h2 h3 h4 h5 h6 => merge_any l m u v W h1 h2 h3 h4 (by omega) (by omega)
    have HSM : Hid (∀ (l m : List Gn) (u v : Value) W, SlN l u W → SlN m v W → linksOk l → linksOk m → l = m → Calls Try.prog 10 #[.agg #[u], .agg #[v]] W fun e w' => e = .returned (.bool true) ∧ Below W.heap.size W w') := fun l m u v W h1 h2 h3 h4 h5 => (gsame_any l m u v W h1 h2 h3 h4).mono fun e w' ⟨h6, h7⟩ => ⟨by rw [h6, decide_eq_true h5], h7⟩
    have HC1 := HMR.out a b _ _ wc (HA.out wc (HBB.out _ bx)) (HB.out wc (HBB.out _ bx)) HFA.out HFB.out (by omega) (by omega)
    obtain ⟨q0, q1, q2⟩ := HCL.out wc bx
    simp only [Bool.not_true]
    go_wp2_with fail
    refine HC1.mono ?_
    rintro e w1 ⟨X, xa, xc, rfl, jX, sX, b1⟩
    have bx1 : Below w0.heap.size w0 w1 := below_then bx b1 bx.size
    have HXL : Hid (X.length ≤ 240) := by have := jX.len; show _ ≤ _; omega
    have HJX : Hid (Joins2 a b X) := jX
    have HSX : Hid (SlN X (.slice xa X.length xc) w1) := sX
    have BX : Below w1.heap.size w1 (w1.alloc (Obj.cells #[.slice xa X.length xc] 24)) := below_box _ _ _
    have kx : (w1.alloc (Obj.cells #[.slice xa X.length xc] 24)).heap[w1.heap.size]? = some (Obj.cells #[.slice xa X.length xc] 24) := heap_alloc_new _ _
    have HB2 : Hid (Below w0.heap.size w0 (w1.alloc (Obj.cells #[.slice xa X.length xc] 24))) := below_then bx1 BX bx1.size
    have HX2 : Hid (SlN X (.slice xa X.length xc) (w1.alloc (Obj.cells #[.slice xa X.length xc] 24))) := sX.next BX
    clear HC1 q0 q1 q2 b1 bx bx1 jX sX BX HSX
    go_upto_region 4 with fail
    obtain ⟨xb, hxb⟩ : ∃ xb, xb = w1.heap.size := ⟨_, rfl⟩
    rw [← hxb] at kx ⊢
    generalize w1.alloc (Obj.cells #[.slice xa X.length xc] 24) = wb at *
    clear hxb
    have HBW : Hid (∀ W, Below wb.heap.size wb W → Below w.heap.size w W) := fun W h => HBB.out W (below_then HB2.out h HB2.out.size)
    have HS : ∀ W, Below wb.heap.size wb W → W.cell? ⟨w.heap.size, 0, none⟩ = some (.slice aa a.length ac) ∧ W.cell? ⟨w.heap.size + 1, 0, none⟩ = some (.slice ba b.length bc) ∧ W.cell? ⟨w.heap.size + 1 + 1, 0, none⟩ = some (.slice ca c.length cc) ∧ W.cell? ⟨xb, 0, none⟩ = some (.slice xa X.length xc) := fun W h => by
      obtain ⟨z1, z2, z3⟩ := HCL.out W (below_then HB2.out h HB2.out.size)
      exact ⟨z1, z2, z3, by rw [Lib.cell_of_heap ((h.block _ (blk_lt kx)).trans kx)]; rfl⟩
    have HSA : Hid (∀ W, Below wb.heap.size wb W → SlN a (.slice aa a.length ac) W ∧ SlN b (.slice ba b.length bc) W ∧ SlN c (.slice ca c.length cc) W ∧ SlN X (.slice xa X.length xc) W) := fun W h => ⟨HA.out W (HBW.out W h), HB.out W (HBW.out W h), HC.out W (HBW.out W h), HX2.out.next h⟩
    have D0 : Below wb.heap.size wb wb.drew := below_drewN (Below.refl _ _) 1
    have HC0 : Calls Try.prog 6 #[.agg #[.slice xa X.length xc]] wb.drew fun e w' => e = .returned (.bool true) ∧ Below wb.drew.heap.size wb.drew w' := (gfit_any X _ _ (HSA.out _ D0).2.2.2).mono fun e w' ⟨h1, h2⟩ => ⟨by rw [h1, (fitG_iff X).2 HJX.out.fit], h2⟩
    clear HA HB HC HCL HBB HX2 kx HK7
    refine wp_region_L (fun W => W.cell? ⟨w.heap.size, 0, none⟩ = some (.slice aa a.length ac) ∧ W.cell? ⟨w.heap.size + 1, 0, none⟩ = some (.slice ba b.length bc) ∧ W.cell? ⟨w.heap.size + 1 + 1, 0, none⟩ = some (.slice ca c.length cc) ∧ W.cell? ⟨xb, 0, none⟩ = some (.slice xa X.length xc)) 31 (by kernel_rfl) 31 rfl ?_
    refine wpAnyL_take' (i := 0) (v := ?_) (oi := { dst := some 40, op := Op.load 24 (Operand.tmp 7), type := 24, pos := "law.go:51", after := #[], guard := none }) rfl (by kernel_rfl) (by kernel_rfl) (by kernel_rfl) (by kernel_rfl) rfl (fun _ _ _ h => h) (Or.inl ⟨by rfl, ?_⟩) (HS _ D0) ?_
    rotate_left
    · intro W hSW
      go_simp
      try with_reducible rfl
    simp only [Act.put, List.setIfInBounds_toArray, List.set_cons_zero, List.set_cons_succ]
    refine wpAnyL_one' (i := 1) (o := { dst := some 41, op := Op.call { callee := Callee.value (Operand.func 6), args := #[Operand.tmp 40], argTypes := #[24] }, type := 4, pos := "law.go:51", after := #[{ on := 0, ground := Ground.data }], guard := none }) (by kernel_rfl) rfl rfl (fun K hK => ?_)
    go_simp
    refine (HC0).mono ?_
    rintro e w1 ⟨rfl, e1⟩
    refine hK.out _ _ (fun _ => HS _ (below_then D0 e1 D0.size)) ?_
    clear hK
    have D1 := below_then D0 e1 D0.size
    clear e1 HC0
    refine wpAnyL_take' (i := 2) (v := ?_) (oi := { dst := some 42, op := Op.move (Operand.tmp 41), type := 4, pos := "law.go:51", after := #[{ on := 1, ground := Ground.data }, { on := 1, ground := Ground.chain }], guard := none }) rfl (by kernel_rfl) (by kernel_rfl) (by kernel_rfl) (by kernel_rfl) rfl (fun _ _ _ h => h) (Or.inl ⟨by rfl, ?_⟩) (HS _ D1) ?_
    rotate_left
    · intro W hSW
      go_simp
      try with_reducible rfl
    simp only [Act.put, List.setIfInBounds_toArray, List.set_cons_zero, List.set_cons_succ]
    refine wpAnyL_take' (i := 3) (v := ?_) (oi := { dst := some 43, op := Op.load 24 (Operand.tmp 7), type := 24, pos := "law.go:51", after := #[{ on := 2, ground := Ground.guard }], guard := some (2, true) }) rfl (by kernel_rfl) (by kernel_rfl) (by kernel_rfl) (by kernel_rfl) rfl (fun _ _ _ h => h) (Or.inl ⟨by rfl, ?_⟩) (HS _ D1) ?_
    rotate_left
    · intro W hSW
      go_simp
      try with_reducible rfl
    simp only [Act.put, List.setIfInBounds_toArray, List.set_cons_zero, List.set_cons_succ]
    refine wpAnyL_take' (i := 4) (v := ?_) (oi := { dst := some 44, op := Op.load 24 (Operand.tmp 4), type := 24, pos := "law.go:51", after := #[{ on := 2, ground := Ground.guard }], guard := some (2, true) }) rfl (by kernel_rfl) (by kernel_rfl) (by kernel_rfl) (by kernel_rfl) rfl (fun _ _ _ h => h) (Or.inl ⟨by rfl, ?_⟩) (HS _ D1) ?_
    rotate_left
    · intro W hSW
      go_simp
      try with_reducible rfl
    simp only [Act.put, List.setIfInBounds_toArray, List.set_cons_zero, List.set_cons_succ]
    refine wpAnyL_take' (i := 5) (v := ?_) (oi := { dst := some 45, op := Op.load 24 (Operand.tmp 3), type := 24, pos := "law.go:51", after := #[{ on := 2, ground := Ground.guard }], guard := some (2, true) }) rfl (by kernel_rfl) (by kernel_rfl) (by kernel_rfl) (by kernel_rfl) rfl (fun _ _ _ h => h) (Or.inl ⟨by rfl, ?_⟩) (HS _ D1) ?_
    rotate_left
    · intro W hSW
      go_simp
      try with_reducible rfl
    simp only [Act.put, List.setIfInBounds_toArray, List.set_cons_zero, List.set_cons_succ]
    have HCC := HMR.out b a _ _ w1 (HSA.out _ D1).2.1 (HSA.out _ D1).1 HFB.out HFA.out (by omega) (by omega)
    refine wpAnyL_one' (i := 6) (o := { dst := some 46, op := Op.call { callee := Callee.value (Operand.func 11), args := #[Operand.tmp 44, Operand.tmp 45], argTypes := #[24, 24] }, type := 24, pos := "law.go:51", after := #[{ on := 4, ground := Ground.data }, { on := 5, ground := Ground.data }, { on := 2, ground := Ground.chain }, { on := 2, ground := Ground.guard }], guard := some (2, true) }) (by kernel_rfl) rfl rfl (fun K hK => ?_)
    go_simp
    refine (HCC).mono ?_
    rintro e w2 ⟨Y, ya, yc, rfl, jY, sY, e2⟩
    refine hK.out _ _ (fun _ => HS _ (below_then D1 e2 D1.size)) ?_
    clear hK
    have D2 := below_then D1 e2 D1.size
    clear e2 HCC
    have HCC := HSM.out X Y _ _ w2 (HSA.out _ D2).2.2.2 sY HJX.out.ok jY.ok (HJX.out.comm jY)
    clear sY jY
    refine wpAnyL_one' (i := 7) (o := { dst := some 47, op := Op.call { callee := Callee.value (Operand.func 10), args := #[Operand.tmp 43, Operand.tmp 46], argTypes := #[24, 24] }, type := 4, pos := "law.go:51", after := #[{ on := 3, ground := Ground.data }, { on := 6, ground := Ground.data }, { on := 6, ground := Ground.chain }, { on := 2, ground := Ground.guard }], guard := some (2, true) }) (by kernel_rfl) rfl rfl (fun K hK => ?_)
    go_simp
    refine (HCC).mono ?_
    rintro e w3 ⟨rfl, e3⟩
    refine hK.out _ _ (fun _ => HS _ (below_then D2 e3 D2.size)) ?_
    clear hK
    have D3 := below_then D2 e3 D2.size
    clear e3 HCC
    refine wpAnyL_take' (i := 8) (v := ?_) (oi := { dst := some 48, op := Op.pick (Operand.tmp 42) (Operand.tmp 47) (Operand.const (Value.bool false)), type := 4, pos := "law.go:51", after := #[{ on := 2, ground := Ground.data }, { on := 7, ground := Ground.data }], guard := none }) rfl (by kernel_rfl) (by kernel_rfl) (by kernel_rfl) (by kernel_rfl) rfl (fun _ _ _ h => h) (Or.inl ⟨by rfl, ?_⟩) (HS _ D3) ?_
    rotate_left
    · intro W hSW
      go_simp
      try with_reducible rfl
    simp only [Act.put, List.setIfInBounds_toArray, List.set_cons_zero, List.set_cons_succ]
    refine wpAnyL_take' (i := 9) (v := ?_) (oi := { dst := some 49, op := Op.move (Operand.tmp 48), type := 4, pos := "law.go:51", after := #[{ on := 8, ground := Ground.data }, { on := 7, ground := Ground.chain }], guard := none }) rfl (by kernel_rfl) (by kernel_rfl) (by kernel_rfl) (by kernel_rfl) rfl (fun _ _ _ h => h) (Or.inl ⟨by rfl, ?_⟩) (HS _ D3) ?_
    rotate_left
    · intro W hSW
      go_simp
      try with_reducible rfl
    simp only [Act.put, List.setIfInBounds_toArray, List.set_cons_zero, List.set_cons_succ]
    refine wpAnyL_take' (i := 10) (v := ?_) (oi := { dst := some 50, op := Op.load 24 (Operand.tmp 7), type := 24, pos := "law.go:51", after := #[{ on := 9, ground := Ground.guard }], guard := some (9, true) }) rfl (by kernel_rfl) (by kernel_rfl) (by kernel_rfl) (by kernel_rfl) rfl (fun _ _ _ h => h) (Or.inl ⟨by rfl, ?_⟩) (HS _ D3) ?_
    rotate_left
    · intro W hSW
      go_simp
      try with_reducible rfl
    simp only [Act.put, List.setIfInBounds_toArray, List.set_cons_zero, List.set_cons_succ]
    refine wpAnyL_take' (i := 11) (v := ?_) (oi := { dst := some 51, op := Op.load 24 (Operand.tmp 3), type := 24, pos := "law.go:51", after := #[{ on := 9, ground := Ground.guard }], guard := some (9, true) }) rfl (by kernel_rfl) (by kernel_rfl) (by kernel_rfl) (by kernel_rfl) rfl (fun _ _ _ h => h) (Or.inl ⟨by rfl, ?_⟩) (HS _ D3) ?_
    rotate_left
    · intro W hSW
      go_simp
      try with_reducible rfl
    simp only [Act.put, List.setIfInBounds_toArray, List.set_cons_zero, List.set_cons_succ]
    refine wpAnyL_take' (i := 13) (v := ?_) (oi := { dst := some 53, op := Op.load 24 (Operand.tmp 7), type := 24, pos := "law.go:51", after := #[{ on := 9, ground := Ground.guard }], guard := some (9, true) }) rfl (by kernel_rfl) (by kernel_rfl) (by kernel_rfl) (by kernel_rfl) rfl (fun _ _ _ h => h) (Or.inl ⟨by rfl, ?_⟩) (HS _ D3) ?_
    rotate_left
    · intro W hSW
      go_simp
      try with_reducible rfl
    simp only [Act.put, List.setIfInBounds_toArray, List.set_cons_zero, List.set_cons_succ]
    have HCC := HMR.out X a _ _ w3 (HSA.out _ D3).2.2.2 (HSA.out _ D3).1 HJX.out.fit HFA.out (by have := HXL.out; omega) (by omega)
    refine wpAnyL_one' (i := 12) (o := { dst := some 52, op := Op.call { callee := Callee.value (Operand.func 11), args := #[Operand.tmp 50, Operand.tmp 51], argTypes := #[24, 24] }, type := 24, pos := "law.go:51", after := #[{ on := 10, ground := Ground.data }, { on := 11, ground := Ground.data }, { on := 9, ground := Ground.chain }, { on := 9, ground := Ground.guard }], guard := some (9, true) }) (by kernel_rfl) rfl rfl (fun K hK => ?_)
    go_simp
    refine (HCC).mono ?_
    rintro e w4 ⟨Z, za, zc, rfl, jZ, sZ, e4⟩
    refine hK.out _ _ (fun _ => HS _ (below_then D3 e4 D3.size)) ?_
    clear hK
    have D4 := below_then D3 e4 D3.size
    clear e4 HCC
    have HCC := HSM.out Z X _ _ w4 sZ (HSA.out _ D4).2.2.2 jZ.ok HJX.out.ok (HJX.out.twice jZ)
    clear sZ jZ
    refine wpAnyL_one' (i := 14) (o := { dst := some 54, op := Op.call { callee := Callee.value (Operand.func 10), args := #[Operand.tmp 52, Operand.tmp 53], argTypes := #[24, 24] }, type := 4, pos := "law.go:51", after := #[{ on := 12, ground := Ground.data }, { on := 13, ground := Ground.data }, { on := 12, ground := Ground.chain }, { on := 9, ground := Ground.guard }], guard := some (9, true) }) (by kernel_rfl) rfl rfl (fun K hK => ?_)
    go_simp
    refine (HCC).mono ?_
    rintro e w5 ⟨rfl, e5⟩
    refine hK.out _ _ (fun _ => HS _ (below_then D4 e5 D4.size)) ?_
    clear hK
    have D5 := below_then D4 e5 D4.size
    clear e5 HCC
    refine wpAnyL_take' (i := 15) (v := ?_) (oi := { dst := some 55, op := Op.pick (Operand.tmp 49) (Operand.tmp 54) (Operand.const (Value.bool false)), type := 4, pos := "law.go:51", after := #[{ on := 9, ground := Ground.data }, { on := 14, ground := Ground.data }], guard := none }) rfl (by kernel_rfl) (by kernel_rfl) (by kernel_rfl) (by kernel_rfl) rfl (fun _ _ _ h => h) (Or.inl ⟨by rfl, ?_⟩) (HS _ D5) ?_
    rotate_left
    · intro W hSW
      go_simp
      try with_reducible rfl
    simp only [Act.put, List.setIfInBounds_toArray, List.set_cons_zero, List.set_cons_succ]
    refine wpAnyL_take' (i := 16) (v := ?_) (oi := { dst := some 56, op := Op.move (Operand.tmp 55), type := 4, pos := "law.go:51", after := #[{ on := 15, ground := Ground.data }, { on := 14, ground := Ground.chain }], guard := none }) rfl (by kernel_rfl) (by kernel_rfl) (by kernel_rfl) (by kernel_rfl) rfl (fun _ _ _ h => h) (Or.inl ⟨by rfl, ?_⟩) (HS _ D5) ?_
    rotate_left
    · intro W hSW
      go_simp
      try with_reducible rfl
    simp only [Act.put, List.setIfInBounds_toArray, List.set_cons_zero, List.set_cons_succ]
    refine wpAnyL_take' (i := 17) (v := ?_) (oi := { dst := some 57, op := Op.load 24 (Operand.tmp 7), type := 24, pos := "law.go:51", after := #[{ on := 16, ground := Ground.guard }], guard := some (16, true) }) rfl (by kernel_rfl) (by kernel_rfl) (by kernel_rfl) (by kernel_rfl) rfl (fun _ _ _ h => h) (Or.inl ⟨by rfl, ?_⟩) (HS _ D5) ?_
    rotate_left
    · intro W hSW
      go_simp
      try with_reducible rfl
    simp only [Act.put, List.setIfInBounds_toArray, List.set_cons_zero, List.set_cons_succ]
    refine wpAnyL_take' (i := 18) (v := ?_) (oi := { dst := some 58, op := Op.load 24 (Operand.tmp 5), type := 24, pos := "law.go:51", after := #[{ on := 16, ground := Ground.guard }], guard := some (16, true) }) rfl (by kernel_rfl) (by kernel_rfl) (by kernel_rfl) (by kernel_rfl) rfl (fun _ _ _ h => h) (Or.inl ⟨by rfl, ?_⟩) (HS _ D5) ?_
    rotate_left
    · intro W hSW
      go_simp
      try with_reducible rfl
    simp only [Act.put, List.setIfInBounds_toArray, List.set_cons_zero, List.set_cons_succ]
    refine wpAnyL_take' (i := 20) (v := ?_) (oi := { dst := some 60, op := Op.load 24 (Operand.tmp 3), type := 24, pos := "law.go:51", after := #[{ on := 16, ground := Ground.guard }], guard := some (16, true) }) rfl (by kernel_rfl) (by kernel_rfl) (by kernel_rfl) (by kernel_rfl) rfl (fun _ _ _ h => h) (Or.inl ⟨by rfl, ?_⟩) (HS _ D5) ?_
    rotate_left
    · intro W hSW
      go_simp
      try with_reducible rfl
    simp only [Act.put, List.setIfInBounds_toArray, List.set_cons_zero, List.set_cons_succ]
    refine wpAnyL_take' (i := 21) (v := ?_) (oi := { dst := some 61, op := Op.load 24 (Operand.tmp 4), type := 24, pos := "law.go:51", after := #[{ on := 16, ground := Ground.guard }], guard := some (16, true) }) rfl (by kernel_rfl) (by kernel_rfl) (by kernel_rfl) (by kernel_rfl) rfl (fun _ _ _ h => h) (Or.inl ⟨by rfl, ?_⟩) (HS _ D5) ?_
    rotate_left
    · intro W hSW
      go_simp
      try with_reducible rfl
    simp only [Act.put, List.setIfInBounds_toArray, List.set_cons_zero, List.set_cons_succ]
    refine wpAnyL_take' (i := 22) (v := ?_) (oi := { dst := some 62, op := Op.load 24 (Operand.tmp 5), type := 24, pos := "law.go:51", after := #[{ on := 16, ground := Ground.guard }], guard := some (16, true) }) rfl (by kernel_rfl) (by kernel_rfl) (by kernel_rfl) (by kernel_rfl) rfl (fun _ _ _ h => h) (Or.inl ⟨by rfl, ?_⟩) (HS _ D5) ?_
    rotate_left
    · intro W hSW
      go_simp
      try with_reducible rfl
    simp only [Act.put, List.setIfInBounds_toArray, List.set_cons_zero, List.set_cons_succ]
    have HCC := HMR.out X c _ _ w5 (HSA.out _ D5).2.2.2 (HSA.out _ D5).2.2.1 HJX.out.fit HFC.out (by have := HXL.out; omega) (by omega)
    refine wpAnyL_one' (i := 19) (o := { dst := some 59, op := Op.call { callee := Callee.value (Operand.func 11), args := #[Operand.tmp 57, Operand.tmp 58], argTypes := #[24, 24] }, type := 24, pos := "law.go:51", after := #[{ on := 17, ground := Ground.data }, { on := 18, ground := Ground.data }, { on := 16, ground := Ground.chain }, { on := 16, ground := Ground.guard }], guard := some (16, true) }) (by kernel_rfl) rfl rfl (fun K hK => ?_)
    go_simp
    refine (HCC).mono ?_
    rintro e w6 ⟨P, pa, pc, rfl, jP, sP, e6⟩
    refine hK.out _ _ (fun _ => HS _ (below_then D5 e6 D5.size)) ?_
    clear hK
    have D6 := below_then D5 e6 D5.size
    clear e6 HCC
    have HP : Hid (Joins2 X c P ∧ SlN P (.slice pa P.length pc) w6) := ⟨jP, sP⟩
    clear jP sP
    have D6w : Below w6.heap.size w6 w6 := Below.refl _ _
    have HCC := HMR.out b c _ _ w6 (HSA.out _ D6).2.1 (HSA.out _ D6).2.2.1 HFB.out HFC.out (by omega) (by omega)
    refine wpAnyL_one' (i := 23) (o := { dst := some 63, op := Op.call { callee := Callee.value (Operand.func 11), args := #[Operand.tmp 61, Operand.tmp 62], argTypes := #[24, 24] }, type := 24, pos := "law.go:51", after := #[{ on := 21, ground := Ground.data }, { on := 22, ground := Ground.data }, { on := 19, ground := Ground.chain }, { on := 16, ground := Ground.guard }], guard := some (16, true) }) (by kernel_rfl) rfl rfl (fun K hK => ?_)
    go_simp
    refine (HCC).mono ?_
    rintro e w7 ⟨R, ra, rc, rfl, jR, sR, e7⟩
    refine hK.out _ _ (fun _ => HS _ (below_then D6 e7 D6.size)) ?_
    clear hK
    have D7 := below_then D6 e7 D6.size
    have HP7 : Hid (SlN P (.slice pa P.length pc) w7) := HP.out.2.next e7
    have HR : Hid (Joins2 b c R) := jR
    clear e7 HCC
    have HCC := HMR.out a R _ _ w7 (HSA.out _ D7).1 sR HFA.out jR.fit (by omega) (by have := jR.len; omega)
    clear sR jR
    refine wpAnyL_one' (i := 24) (o := { dst := some 64, op := Op.call { callee := Callee.value (Operand.func 11), args := #[Operand.tmp 60, Operand.tmp 63], argTypes := #[24, 24] }, type := 24, pos := "law.go:51", after := #[{ on := 20, ground := Ground.data }, { on := 23, ground := Ground.data }, { on := 23, ground := Ground.chain }, { on := 16, ground := Ground.guard }], guard := some (16, true) }) (by kernel_rfl) rfl rfl (fun K hK => ?_)
    go_simp
    refine (HCC).mono ?_
    rintro e w8 ⟨Q, qa, qc, rfl, jQ, sQ, e8⟩
    refine hK.out _ _ (fun _ => HS _ (below_then D7 e8 D7.size)) ?_
    clear hK
    have D8 := below_then D7 e8 D7.size
    have HP8 : Hid (SlN P (.slice pa P.length pc) w8) := HP7.out.next e8
    clear e8 HCC
    have HCC := HSM.out P Q _ _ w8 HP8.out sQ HP.out.1.ok jQ.ok (HJX.out.assoc HP.out.1 HR.out jQ)
    clear sQ jQ HP HP7 HP8 HR
    refine wpAnyL_one' (i := 25) (o := { dst := some 65, op := Op.call { callee := Callee.value (Operand.func 10), args := #[Operand.tmp 59, Operand.tmp 64], argTypes := #[24, 24] }, type := 4, pos := "law.go:51", after := #[{ on := 19, ground := Ground.data }, { on := 24, ground := Ground.data }, { on := 24, ground := Ground.chain }, { on := 16, ground := Ground.guard }], guard := some (16, true) }) (by kernel_rfl) rfl rfl (fun K hK => ?_)
    go_simp
    refine (HCC).mono ?_
    rintro e w9 ⟨rfl, e9⟩
    refine hK.out _ _ (fun _ => HS _ (below_then D8 e9 D8.size)) ?_
    clear hK
    have D9 := below_then D8 e9 D8.size
    clear e9 HCC
    refine wpAnyL_take' (i := 26) (v := ?_) (oi := { dst := some 66, op := Op.pick (Operand.tmp 56) (Operand.tmp 65) (Operand.const (Value.bool false)), type := 4, pos := "law.go:51", after := #[{ on := 16, ground := Ground.data }, { on := 25, ground := Ground.data }], guard := none }) rfl (by kernel_rfl) (by kernel_rfl) (by kernel_rfl) (by kernel_rfl) rfl (fun _ _ _ h => h) (Or.inl ⟨by rfl, ?_⟩) (HS _ D9) ?_
    rotate_left
    · intro W hSW
      go_simp
      try with_reducible rfl
    simp only [Act.put, List.setIfInBounds_toArray, List.set_cons_zero, List.set_cons_succ]
    refine wpAnyL_take' (i := 27) (v := ?_) (oi := { dst := some 67, op := Op.move (Operand.tmp 66), type := 4, pos := "law.go:51", after := #[{ on := 26, ground := Ground.data }, { on := 25, ground := Ground.chain }], guard := none }) rfl (by kernel_rfl) (by kernel_rfl) (by kernel_rfl) (by kernel_rfl) rfl (fun _ _ _ h => h) (Or.inl ⟨by rfl, ?_⟩) (HS _ D9) ?_
    rotate_left
    · intro W hSW
      go_simp
      try with_reducible rfl
    simp only [Act.put, List.setIfInBounds_toArray, List.set_cons_zero, List.set_cons_succ]
    have HCC := awake_any w9
    refine wpAnyL_one' (i := 28) (o := { dst := some 68, op := Op.call { callee := Callee.value (Operand.func 7), args := #[], argTypes := #[] }, type := 4, pos := "law.go:51", after := #[{ on := 27, ground := Ground.chain }, { on := 27, ground := Ground.guard }], guard := some (27, true) }) (by kernel_rfl) rfl rfl (fun K hK => ?_)
    go_simp
    refine (HCC).mono ?_
    rintro e w10 ⟨rfl, e10⟩
    refine hK.out _ _ (fun _ => HS _ (below_then D9 e10 D9.size)) ?_
    clear hK
    have DD := below_then D9 e10 D9.size
    clear e10 HCC
    refine wpAnyL_take' (i := 29) (v := ?_) (oi := { dst := some 69, op := Op.pick (Operand.tmp 67) (Operand.tmp 68) (Operand.const (Value.bool false)), type := 4, pos := "law.go:51", after := #[{ on := 27, ground := Ground.data }, { on := 28, ground := Ground.data }], guard := none }) rfl (by kernel_rfl) (by kernel_rfl) (by kernel_rfl) (by kernel_rfl) rfl (fun _ _ _ h => h) (Or.inl ⟨by rfl, ?_⟩) (HS _ DD) ?_
    rotate_left
    · intro W hSW
      go_simp
      try with_reducible rfl
    simp only [Act.put, List.setIfInBounds_toArray, List.set_cons_zero, List.set_cons_succ]
    refine wpAnyL_take' (i := 30) (v := ?_) (oi := { dst := some 6, op := Op.assign (Operand.tmp 69), type := 4, pos := "law.go:51", after := #[{ on := 29, ground := Ground.data }, { on := 28, ground := Ground.chain }, { on := 0, ground := Ground.phase }, { on := 1, ground := Ground.phase }, { on := 2, ground := Ground.phase }, { on := 3, ground := Ground.phase }, { on := 4, ground := Ground.phase }, { on := 5, ground := Ground.phase }, { on := 6, ground := Ground.phase }, { on := 7, ground := Ground.phase }, { on := 8, ground := Ground.phase }, { on := 9, ground := Ground.phase }, { on := 10, ground := Ground.phase }, { on := 11, ground := Ground.phase }, { on := 12, ground := Ground.phase }, { on := 13, ground := Ground.phase }, { on := 14, ground := Ground.phase }, { on := 15, ground := Ground.phase }, { on := 16, ground := Ground.phase }, { on := 17, ground := Ground.phase }, { on := 18, ground := Ground.phase }, { on := 19, ground := Ground.phase }, { on := 20, ground := Ground.phase }, { on := 21, ground := Ground.phase }, { on := 22, ground := Ground.phase }, { on := 23, ground := Ground.phase }, { on := 24, ground := Ground.phase }, { on := 25, ground := Ground.phase }, { on := 26, ground := Ground.phase }, { on := 27, ground := Ground.phase }, { on := 28, ground := Ground.phase }, { on := 29, ground := Ground.phase }], guard := none }) rfl (by kernel_rfl) (by kernel_rfl) (by kernel_rfl) (by kernel_rfl) rfl (fun _ _ _ h => h) (Or.inl ⟨by rfl, ?_⟩) (HS _ DD) ?_
    rotate_left
    · intro W hSW
      go_simp
      try with_reducible rfl
    simp only [Act.put, List.setIfInBounds_toArray, List.set_cons_zero, List.set_cons_succ]
    refine wpAnyL_done (by kernel_rfl) ?_ _
    clear HS HSA HMR HSM
    go_wp2_with fail
    refine bodyPost_ret (results_tmp (t := 6) rfl _ _ _) rfl ?_
    exact ⟨rfl, HBW.out _ DD⟩
end Go.Proofs.Ytjpbfckdiojghaa
