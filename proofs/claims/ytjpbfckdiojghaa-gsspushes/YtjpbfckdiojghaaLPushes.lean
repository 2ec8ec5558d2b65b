/- Stacks: the law GssPushes, walked. -/
import Derived.Test.YtjpbfckdiojghaaWMerge
import Derived.Test.YtjpbfckdiojghaaMMerge
import Derived.Test.YtjpbfckdiojghaaLMerges
namespace Go.Proofs.Ytjpbfckdiojghaa
open Go.RowKit

theorem ToldP.one {l m m' : List Gn} {f st pl p p' : Int} {b b' : Bool} (h : ToldP l f st pl m p b) (h' : ToldP l f st pl m' p' b') : m' = m ∧ p' = p ∧ b' = b := by
  by_cases hp : pushB l f st pl
  · obtain ⟨e1, e2, e3⟩ := h.1 hp
    obtain ⟨g1, g2, g3⟩ := h'.1 hp
    exact ⟨by rw [e1, g1], by rw [e2, g2], by rw [e3, g3]⟩
  · obtain ⟨e1, e2, e3⟩ := h.2 hp
    obtain ⟨g1, g2, g3⟩ := h'.2 hp
    exact ⟨by rw [e1, g1], by rw [e2, g2], by rw [e3, g3]⟩
theorem ToldP.ok {l m : List Gn} {f st pl p : Int} {b : Bool} (h : ToldP l f st pl m p b) (hf : fitP l) : linksOk m := by
  by_cases hp : pushB l f st pl
  · rw [(h.1 hp).1]; exact fun x hx => by have := (push_fit hf hp).len hx; omega
  · rw [(h.2 hp).1]; exact fun x hx => by have := hf.len hx; omega
theorem ppush_any (l : List Gn) (v : Value) (f st pl : Int) (w : World) (hl : SlN l v w) (hf : fitP l) :
    Calls Try.prog 8 #[.agg #[v], .int .i64 f, .int .i64 st, .int .i64 pl] w fun e w' => ∃ m ma mc p b, e = .returned (.tuple #[.agg #[.slice ma (List.length m) mc], .int .i64 p, .bool b]) ∧ SlN m (.slice ma m.length mc) w' ∧ ToldP l f st pl m p b ∧ Below w.heap.size w w' := by
  by_cases hp : pushB l f st pl
  · refine (push_yes l v f st pl w hl hf hp).mono ?_
    rintro e w' ⟨v', rfl, h1, h2⟩
    obtain ⟨a, c, rfl, _⟩ := id h1
    exact ⟨_, a, c, _, _, rfl, h1, ⟨fun _ => ⟨rfl, rfl, rfl⟩, fun h => (h hp).elim⟩, h2⟩
  · refine (push_no l v f st pl w hl hf hf.okS hp).mono ?_
    rintro e w' ⟨v', rfl, h1, h2⟩
    obtain ⟨a, c, rfl, _⟩ := id h1
    exact ⟨_, a, c, _, _, rfl, h1, ⟨fun h => (hp h).elim, fun _ => ⟨rfl, rfl, rfl⟩⟩, h2⟩

set_option maxRecDepth 100000 in
set_option maxHeartbeats 8000000 in
theorem gpushes_any (a b : List Gn) (u v : Value) (f st pl : Int) (w : World) (ha : SlN a u w) (hb : SlN b v w) :
    Calls Try.prog 3 #[.agg #[u], .agg #[v], .int .i64 f, .int .i64 st, .int .i64 pl] w fun e w' => e = .returned (.bool true) ∧ Below w.heap.size w w' := by
  have HA : Hid (∀ W, Below w.heap.size w W → SlN a u W) := fun W h => ha.next h
  have HB : Hid (∀ W, Below w.heap.size w W → SlN b v W) := fun W h => hb.next h
  obtain ⟨aa, ac, rfl, _⟩ := ha
  obtain ⟨ba, bc, rfl, _⟩ := hb
  obtain ⟨w0, hw0⟩ : ∃ w0, w0 = (w.alloc (Obj.cells #[.slice aa a.length ac] 24)).alloc (Obj.cells #[.slice ba b.length bc] 24) := ⟨_, rfl⟩
  have B0 : Below w.heap.size w w0 := by rw [hw0]; exact ((Below.refl _ _).alloc (Nat.le_refl _) _).alloc (by simp) _
  have k0 : w0.heap[w.heap.size]? = some (Obj.cells #[.slice aa a.length ac] 24) := by rw [hw0]; exact blk_new (heap_alloc_new _ _)
  have k1 : w0.heap[w.heap.size + 1]? = some (Obj.cells #[.slice ba b.length bc] 24) := by rw [hw0]; simpa using heap_alloc_new (w.alloc (Obj.cells #[.slice aa a.length ac] 24)) (Obj.cells #[.slice ba b.length bc] 24)
  have HBB : Hid (∀ W, Below w0.heap.size w0 W → Below w.heap.size w W) := fun W h => below_then B0 h B0.size
  have HCL : Hid (∀ W, Below w0.heap.size w0 W → W.cell? ⟨w.heap.size, 0, none⟩ = some (.slice aa a.length ac) ∧ W.cell? ⟨w.heap.size + 1, 0, none⟩ = some (.slice ba b.length bc)) := fun W h => ⟨by rw [Lib.cell_of_heap ((h.block _ (blk_lt k0)).trans k0)]; rfl, by rw [Lib.cell_of_heap ((h.block _ (blk_lt k1)).trans k1)]; rfl⟩
  have HW : Hid (∀ W, Below w0.heap.size w0 W → (Calls Try.prog 5 #[.agg #[.slice aa a.length ac]] W fun e w' => e = .returned (.bool (fewG a)) ∧ Below W.heap.size W w') ∧ (Calls Try.prog 5 #[.agg #[.slice ba b.length bc]] W fun e w' => e = .returned (.bool (fewG b)) ∧ Below W.heap.size W w') ∧ (Calls Try.prog 6 #[.agg #[.slice aa a.length ac]] W fun e w' => e = .returned (.bool (fitG a)) ∧ Below W.heap.size W w') ∧ (Calls Try.prog 6 #[.agg #[.slice ba b.length bc]] W fun e w' => e = .returned (.bool (fitG b)) ∧ Below W.heap.size W w')) := fun W h => ⟨gfew_any a _ W (HA.out W (HBB.out W h)), gfew_any b _ W (HB.out W (HBB.out W h)), gfit_any a _ W (HA.out W (HBB.out W h)), gfit_any b _ W (HB.out W (HBB.out W h))⟩
  have HF1 : Hid (fewG a = true → a.length ≤ 120) := fun h => by unfold fewG at h; simp at h; omega
  have HF2 : Hid (fewG b = true → b.length ≤ 120) := fun h => by unfold fewG at h; simp at h; omega
  have HT1 : Hid (fitG a = true → fitP a) := (fitG_iff a).1
  have HT2 : Hid (fitG b = true → fitP b) := (fitG_iff b).1
  generalize fewG a = F1 at *
  generalize fewG b = F2 at *
  generalize fitG a = T1 at *
  generalize fitG b = T2 at *
  go_enter Try.func3, Try.ntmps3
  clear k0 k1
  go_upto_region 1 with fail
  rw [← hw0]
  clear hw0
  go_cut [34] from 17 to 34 (fun t34 wx => t34 = .bool (!(F1 && F2 && T1 && T2)) ∧ Below w0.heap.size w0 wx)
  case first =>
    have bz0 : Below w0.heap.size w0 w0 := Below.refl _ _
    obtain ⟨q0, q1⟩ := HCL.out _ bz0
    have HQ := (HW.out _ bz0).1
    go_wp2_with fail
    refine HQ.mono ?_
    clear HQ q0 q1
    rintro e wz1 ⟨rfl, bb1⟩
    have bz1 := below_then bz0 bb1 bz0.size
    clear bb1
    cases F1
    · go_wp2_with fail
      go_meet
      exact ⟨by simp, bz1⟩
    obtain ⟨q0, q1⟩ := HCL.out _ bz1
    have HQ := (HW.out _ bz1).2.1
    go_wp2_with fail
    refine HQ.mono ?_
    clear HQ q0 q1
    rintro e wz2 ⟨rfl, bb2⟩
    have bz2 := below_then bz1 bb2 bz1.size
    clear bb2
    cases F2
    · go_wp2_with fail
      go_meet
      exact ⟨by simp, bz2⟩
    obtain ⟨q0, q1⟩ := HCL.out _ bz2
    have HQ := (HW.out _ bz2).2.2.1
    go_wp2_with fail
    refine HQ.mono ?_
    clear HQ q0 q1
    rintro e wz3 ⟨rfl, bb3⟩
    have bz3 := below_then bz2 bb3 bz2.size
    clear bb3
    cases T1
    · go_wp2_with fail
      go_meet
      exact ⟨by simp, bz3⟩
    obtain ⟨q0, q1⟩ := HCL.out _ bz3
    have HQ := (HW.out _ bz3).2.2.2
    go_wp2_with fail
    refine HQ.mono ?_
    clear HQ q0 q1
    rintro e wz4 ⟨rfl, bb4⟩
    have bz4 := below_then bz3 bb4 bz3.size
    clear bb4
    cases T2
    · go_wp2_with fail
      go_meet
      exact ⟨by simp, bz4⟩
    go_wp2_with fail
    go_meet
    exact ⟨by simp, bz4⟩
  case rest =>
    obtain ⟨rfl, bx⟩ := hcut
    by_cases hall : (F1 && F2 && T1 && T2) = true
    case neg =>
      have hall' : (F1 && F2 && T1 && T2) = false := by simpa using hall
      rw [hall']
      have HAW := awake_any wc
      have HBW : Hid (Below w.heap.size w wc) := HBB.out _ bx
      clear HW HA HB HF1 HF2 HT1 HT2 hall hall' HCL HBB bx
      simp only [Bool.not_false]
      go_wp2_with fail
      refine HAW.mono ?_
      rintro e w1 ⟨rfl, b1⟩
      go_wp2_with fail
      go_ret
      exact ⟨rfl, below_then HBW.out b1 HBW.out.size⟩
    rw [hall]
    simp only [Bool.and_eq_true] at hall
    obtain ⟨⟨⟨h1, h2⟩, h4⟩, h5⟩ := hall
    have hla := HF1.out h1
    have hlb := HF2.out h2
    have HFA : Hid (fitP a) := HT1.out h4
    have HFB : Hid (fitP b) := HT2.out h5
    clear HW HF1 HF2 HT1 HT2 h1 h2 h4 h5 F1 F2 T1 T2
    have HSM : Hid (∀ (l m : List Gn) (u v : Value) W, SlN l u W → SlN m v W → linksOk l → linksOk m → l = m → Calls Try.prog 10 #[.agg #[u], .agg #[v]] W fun e w' => e = .returned (.bool true) ∧ Below W.heap.size W w') := fun l m u v W h1 h2 h3 h4 h5 => (gsame_any l m u v W h1 h2 h3 h4).mono fun e w' ⟨h6, h7⟩ => ⟨by rw [h6, decide_eq_true h5], h7⟩
    have HC1 := ppush_any a _ f st pl wc (HA.out wc (HBB.out _ bx)) HFA.out
    obtain ⟨q0, q1⟩ := HCL.out wc bx
    simp only [Bool.not_true]
    go_wp2_with fail
    refine HC1.mono ?_
    rintro e w1 ⟨X, xa, xc, xp, xn, rfl, sX, tX, b1⟩
    have bx1 : Below w0.heap.size w0 w1 := below_then bx b1 bx.size
    have BX : Below w1.heap.size w1 (w1.alloc (Obj.cells #[.slice xa X.length xc] 24)) := below_box _ _ _
    have kx : (w1.alloc (Obj.cells #[.slice xa X.length xc] 24)).heap[w1.heap.size]? = some (Obj.cells #[.slice xa X.length xc] 24) := heap_alloc_new _ _
    have bx2 : Below w0.heap.size w0 (w1.alloc (Obj.cells #[.slice xa X.length xc] 24)) := below_then bx1 BX bx1.size
    have HX2 : Hid (SlN X (.slice xa X.length xc) (w1.alloc (Obj.cells #[.slice xa X.length xc] 24))) := sX.next BX
    have HTX : Hid (ToldP a f st pl X xp xn) := tX
    have HC2 := rpush_any a _ f st pl (w1.alloc (Obj.cells #[.slice xa X.length xc] 24)) (HA.out _ (HBB.out _ bx2)) HFA.out
    obtain ⟨q2, q3⟩ := HCL.out _ bx2
    clear HC1 q0 q1 b1 bx bx1 sX BX tX
    go_wp2_with fail
    obtain ⟨xb, hxb⟩ : ∃ xb, xb = w1.heap.size := ⟨_, rfl⟩
    rw [← hxb] at kx ⊢
    refine HC2.mono ?_
    generalize w1.alloc (Obj.cells #[.slice xa X.length xc] 24) = w2 at *
    rintro e w3 ⟨Y, ya, yc, yp, yn, rfl, sY, tY, b3⟩
    obtain ⟨e1, e2, e3⟩ := HTX.out.one tY
    subst e1 e2 e3
    have bx3 : Below w0.heap.size w0 w3 := below_then bx2 b3 bx2.size
    have kx3 := (b3.block _ (blk_lt kx)).trans kx
    have BY : Below w3.heap.size w3 (w3.alloc (Obj.cells #[.slice ya Y.length yc] 24)) := below_box _ _ _
    have ky : (w3.alloc (Obj.cells #[.slice ya Y.length yc] 24)).heap[w3.heap.size]? = some (Obj.cells #[.slice ya Y.length yc] 24) := heap_alloc_new _ _
    have HB4 : Hid (Below w0.heap.size w0 (w3.alloc (Obj.cells #[.slice ya Y.length yc] 24))) := below_then bx3 BY bx3.size
    have HX4 : Hid (SlN Y (.slice xa Y.length xc) (w3.alloc (Obj.cells #[.slice ya Y.length yc] 24)) ∧ SlN Y (.slice ya Y.length yc) (w3.alloc (Obj.cells #[.slice ya Y.length yc] 24))) := ⟨(HX2.out.next b3).next BY, sY.next BY⟩
    have kx4 := (BY.block _ (blk_lt kx3)).trans kx3
    clear HC2 q2 q3 b3 bx2 bx3 sY tY BY hxb kx kx3 HX2
    go_upto_region 5 with fail
    obtain ⟨yb, hyb⟩ : ∃ yb, yb = w3.heap.size := ⟨_, rfl⟩
    rw [← hyb] at ky ⊢
    generalize w3.alloc (Obj.cells #[.slice ya Y.length yc] 24) = wb at *
    clear hyb
    have HBW : Hid (∀ W, Below wb.heap.size wb W → Below w.heap.size w W) := fun W h => HBB.out W (below_then HB4.out h HB4.out.size)
    have HS : ∀ W, Below wb.heap.size wb W → W.cell? ⟨w.heap.size, 0, none⟩ = some (.slice aa a.length ac) ∧ W.cell? ⟨w.heap.size + 1, 0, none⟩ = some (.slice ba b.length bc) ∧ W.cell? ⟨xb, 0, none⟩ = some (.slice xa Y.length xc) ∧ W.cell? ⟨yb, 0, none⟩ = some (.slice ya Y.length yc) := fun W h => by
      obtain ⟨z1, z2⟩ := HCL.out W (below_then HB4.out h HB4.out.size)
      exact ⟨z1, z2, by rw [Lib.cell_of_heap ((h.block _ (blk_lt kx4)).trans kx4)]; rfl, by rw [Lib.cell_of_heap ((h.block _ (blk_lt ky)).trans ky)]; rfl⟩
    have HSA : Hid (∀ W, Below wb.heap.size wb W → SlN a (.slice aa a.length ac) W ∧ SlN b (.slice ba b.length bc) W) := fun W h => ⟨HA.out W (HBW.out W h), HB.out W (HBW.out W h)⟩
    have D0 : Below wb.heap.size wb wb.drew := below_drewN (Below.refl _ _) 1
    have HC0 := HSM.out Y Y _ _ wb.drew (HX4.out.1.next D0) (HX4.out.2.next D0) (HTX.out.ok HFA.out) (HTX.out.ok HFA.out) rfl
    clear HA HB HCL HBB HX4 kx4 ky
    refine wp_region_L (fun W => W.cell? ⟨w.heap.size, 0, none⟩ = some (.slice aa a.length ac) ∧ W.cell? ⟨w.heap.size + 1, 0, none⟩ = some (.slice ba b.length bc) ∧ W.cell? ⟨xb, 0, none⟩ = some (.slice xa Y.length xc) ∧ W.cell? ⟨yb, 0, none⟩ = some (.slice ya Y.length yc)) 26 (by kernel_rfl) 26 rfl ?_
    refine wpAnyL_take' (i := 0) (v := ?_) (oi := { dst := some 54, op := Op.load 24 (Operand.tmp 11), type := 24, pos := "law.go:42", after := #[], guard := none }) rfl (by kernel_rfl) (by kernel_rfl) (by kernel_rfl) (by kernel_rfl) rfl (fun _ _ _ h => h) (Or.inl ⟨by rfl, ?_⟩) (HS _ D0) ?_
    rotate_left
    · intro W hSW
      go_simp
      try with_reducible rfl
    simp only [Act.put, List.setIfInBounds_toArray, List.set_cons_zero, List.set_cons_succ]
    refine wpAnyL_take' (i := 1) (v := ?_) (oi := { dst := some 55, op := Op.load 24 (Operand.tmp 14), type := 24, pos := "law.go:42", after := #[], guard := none }) rfl (by kernel_rfl) (by kernel_rfl) (by kernel_rfl) (by kernel_rfl) rfl (fun _ _ _ h => h) (Or.inl ⟨by rfl, ?_⟩) (HS _ D0) ?_
    rotate_left
    · intro W hSW
      go_simp
      try with_reducible rfl
    simp only [Act.put, List.setIfInBounds_toArray, List.set_cons_zero, List.set_cons_succ]
    refine wpAnyL_one' (i := 2) (o := { dst := some 56, op := Op.call { callee := Callee.value (Operand.func 10), args := #[Operand.tmp 54, Operand.tmp 55], argTypes := #[24, 24] }, type := 4, pos := "law.go:42", after := #[{ on := 0, ground := Ground.data }, { on := 1, ground := Ground.data }], guard := none }) (by kernel_rfl) rfl rfl (fun K hK => ?_)
    go_simp
    refine (HC0).mono ?_
    rintro e w4 ⟨rfl, e4⟩
    refine hK.out _ _ (fun _ => HS _ (below_then D0 e4 D0.size)) ?_
    clear hK
    have D1 := below_then D0 e4 D0.size
    clear e4 HC0
    refine wpAnyL_take' (i := 3) (v := ?_) (oi := { dst := some 57, op := Op.move (Operand.tmp 56), type := 4, pos := "law.go:42", after := #[{ on := 2, ground := Ground.data }, { on := 2, ground := Ground.chain }], guard := none }) rfl (by kernel_rfl) (by kernel_rfl) (by kernel_rfl) (by kernel_rfl) rfl (fun _ _ _ h => h) (Or.inl ⟨by rfl, ?_⟩) (HS _ D1) ?_
    rotate_left
    · intro W hSW
      go_simp
      try with_reducible rfl
    simp only [Act.put, List.setIfInBounds_toArray, List.set_cons_zero, List.set_cons_succ]
    refine wpAnyL_take' (i := 4) (v := ?_) (oi := { dst := some 58, op := Op.move (Operand.tmp 12), type := 3, pos := "law.go:42", after := #[{ on := 3, ground := Ground.guard }], guard := some (3, true) }) rfl (by kernel_rfl) (by kernel_rfl) (by kernel_rfl) (by kernel_rfl) rfl (fun _ _ _ h => h) (Or.inl ⟨by rfl, ?_⟩) (HS _ D1) ?_
    rotate_left
    · intro W hSW
      go_simp
      try with_reducible rfl
    simp only [Act.put, List.setIfInBounds_toArray, List.set_cons_zero, List.set_cons_succ]
    refine wpAnyL_take' (i := 5) (v := ?_) (oi := { dst := some 59, op := Op.move (Operand.tmp 15), type := 3, pos := "law.go:42", after := #[{ on := 3, ground := Ground.guard }], guard := some (3, true) }) rfl (by kernel_rfl) (by kernel_rfl) (by kernel_rfl) (by kernel_rfl) rfl (fun _ _ _ h => h) (Or.inl ⟨by rfl, ?_⟩) (HS _ D1) ?_
    rotate_left
    · intro W hSW
      go_simp
      try with_reducible rfl
    simp only [Act.put, List.setIfInBounds_toArray, List.set_cons_zero, List.set_cons_succ]
    refine wpAnyL_take' (i := 6) (v := ?_) (oi := { dst := some 60, op := Op.binOp BinOp.eql 3 (Operand.tmp 58) (Operand.tmp 59) 3, type := 4, pos := "law.go:42", after := #[{ on := 4, ground := Ground.data }, { on := 5, ground := Ground.data }, { on := 3, ground := Ground.guard }], guard := some (3, true) }) rfl (by kernel_rfl) (by kernel_rfl) (by kernel_rfl) (by kernel_rfl) rfl (fun _ _ _ h => h) (Or.inl ⟨by rfl, ?_⟩) (HS _ D1) ?_
    rotate_left
    · intro W hSW
      go_simp
      try with_reducible rfl
    simp only [Act.put, List.setIfInBounds_toArray, List.set_cons_zero, List.set_cons_succ]
    refine wpAnyL_take' (i := 7) (v := ?_) (oi := { dst := some 61, op := Op.pick (Operand.tmp 57) (Operand.tmp 60) (Operand.const (Value.bool false)), type := 4, pos := "law.go:42", after := #[{ on := 3, ground := Ground.data }, { on := 6, ground := Ground.data }], guard := none }) rfl (by kernel_rfl) (by kernel_rfl) (by kernel_rfl) (by kernel_rfl) rfl (fun _ _ _ h => h) (Or.inl ⟨by rfl, ?_⟩) (HS _ D1) ?_
    rotate_left
    · intro W hSW
      go_simp
      try with_reducible rfl
    simp only [Act.put, List.setIfInBounds_toArray, List.set_cons_zero, List.set_cons_succ]
    refine wpAnyL_take' (i := 8) (v := ?_) (oi := { dst := some 62, op := Op.move (Operand.tmp 61), type := 4, pos := "law.go:42", after := #[{ on := 7, ground := Ground.data }, { on := 3, ground := Ground.chain }], guard := none }) rfl (by kernel_rfl) (by kernel_rfl) (by kernel_rfl) (by kernel_rfl) rfl (fun _ _ _ h => h) (Or.inl ⟨by rfl, ?_⟩) (HS _ D1) ?_
    rotate_left
    · intro W hSW
      go_simp
      try with_reducible rfl
    simp only [Act.put, List.setIfInBounds_toArray, List.set_cons_zero, List.set_cons_succ]
    refine wpAnyL_take' (i := 9) (v := ?_) (oi := { dst := some 63, op := Op.move (Operand.tmp 13), type := 4, pos := "law.go:42", after := #[{ on := 8, ground := Ground.guard }], guard := some (8, true) }) rfl (by kernel_rfl) (by kernel_rfl) (by kernel_rfl) (by kernel_rfl) rfl (fun _ _ _ h => h) (Or.inl ⟨by rfl, ?_⟩) (HS _ D1) ?_
    rotate_left
    · intro W hSW
      go_simp
      try with_reducible rfl
    simp only [Act.put, List.setIfInBounds_toArray, List.set_cons_zero, List.set_cons_succ]
    refine wpAnyL_take' (i := 10) (v := ?_) (oi := { dst := some 64, op := Op.move (Operand.tmp 16), type := 4, pos := "law.go:42", after := #[{ on := 8, ground := Ground.guard }], guard := some (8, true) }) rfl (by kernel_rfl) (by kernel_rfl) (by kernel_rfl) (by kernel_rfl) rfl (fun _ _ _ h => h) (Or.inl ⟨by rfl, ?_⟩) (HS _ D1) ?_
    rotate_left
    · intro W hSW
      go_simp
      try with_reducible rfl
    simp only [Act.put, List.setIfInBounds_toArray, List.set_cons_zero, List.set_cons_succ]
    refine wpAnyL_take' (i := 11) (v := ?_) (oi := { dst := some 65, op := Op.binOp BinOp.eql 4 (Operand.tmp 63) (Operand.tmp 64) 4, type := 4, pos := "law.go:42", after := #[{ on := 9, ground := Ground.data }, { on := 10, ground := Ground.data }, { on := 8, ground := Ground.guard }], guard := some (8, true) }) rfl (by kernel_rfl) (by kernel_rfl) (by kernel_rfl) (by kernel_rfl) rfl (fun _ _ _ h => h) (Or.inl ⟨by rfl, ?_⟩) (HS _ D1) ?_
    rotate_left
    · intro W hSW
      go_simp
      try with_reducible rfl
    simp only [Act.put, List.setIfInBounds_toArray, List.set_cons_zero, List.set_cons_succ]
    refine wpAnyL_take' (i := 12) (v := ?_) (oi := { dst := some 66, op := Op.pick (Operand.tmp 62) (Operand.tmp 65) (Operand.const (Value.bool false)), type := 4, pos := "law.go:42", after := #[{ on := 8, ground := Ground.data }, { on := 11, ground := Ground.data }], guard := none }) rfl (by kernel_rfl) (by kernel_rfl) (by kernel_rfl) (by kernel_rfl) rfl (fun _ _ _ h => h) (Or.inl ⟨by rfl, ?_⟩) (HS _ D1) ?_
    rotate_left
    · intro W hSW
      go_simp
      try with_reducible rfl
    simp only [Act.put, List.setIfInBounds_toArray, List.set_cons_zero, List.set_cons_succ]
    refine wpAnyL_take' (i := 13) (v := ?_) (oi := { dst := some 67, op := Op.move (Operand.tmp 66), type := 4, pos := "law.go:42", after := #[{ on := 12, ground := Ground.data }, { on := 8, ground := Ground.chain }], guard := none }) rfl (by kernel_rfl) (by kernel_rfl) (by kernel_rfl) (by kernel_rfl) rfl (fun _ _ _ h => h) (Or.inl ⟨by rfl, ?_⟩) (HS _ D1) ?_
    rotate_left
    · intro W hSW
      go_simp
      try with_reducible rfl
    simp only [Act.put, List.setIfInBounds_toArray, List.set_cons_zero, List.set_cons_succ]
    refine wpAnyL_take' (i := 14) (v := ?_) (oi := { dst := some 68, op := Op.load 24 (Operand.tmp 5), type := 24, pos := "law.go:42", after := #[{ on := 13, ground := Ground.guard }], guard := some (13, true) }) rfl (by kernel_rfl) (by kernel_rfl) (by kernel_rfl) (by kernel_rfl) rfl (fun _ _ _ h => h) (Or.inl ⟨by rfl, ?_⟩) (HS _ D1) ?_
    rotate_left
    · intro W hSW
      go_simp
      try with_reducible rfl
    simp only [Act.put, List.setIfInBounds_toArray, List.set_cons_zero, List.set_cons_succ]
    refine wpAnyL_take' (i := 15) (v := ?_) (oi := { dst := some 69, op := Op.load 24 (Operand.tmp 6), type := 24, pos := "law.go:42", after := #[{ on := 13, ground := Ground.guard }], guard := some (13, true) }) rfl (by kernel_rfl) (by kernel_rfl) (by kernel_rfl) (by kernel_rfl) rfl (fun _ _ _ h => h) (Or.inl ⟨by rfl, ?_⟩) (HS _ D1) ?_
    rotate_left
    · intro W hSW
      go_simp
      try with_reducible rfl
    simp only [Act.put, List.setIfInBounds_toArray, List.set_cons_zero, List.set_cons_succ]
    refine wpAnyL_take' (i := 17) (v := ?_) (oi := { dst := some 71, op := Op.load 24 (Operand.tmp 5), type := 24, pos := "law.go:42", after := #[{ on := 13, ground := Ground.guard }], guard := some (13, true) }) rfl (by kernel_rfl) (by kernel_rfl) (by kernel_rfl) (by kernel_rfl) rfl (fun _ _ _ h => h) (Or.inl ⟨by rfl, ?_⟩) (HS _ D1) ?_
    rotate_left
    · intro W hSW
      go_simp
      try with_reducible rfl
    simp only [Act.put, List.setIfInBounds_toArray, List.set_cons_zero, List.set_cons_succ]
    refine wpAnyL_take' (i := 18) (v := ?_) (oi := { dst := some 72, op := Op.load 24 (Operand.tmp 6), type := 24, pos := "law.go:42", after := #[{ on := 13, ground := Ground.guard }], guard := some (13, true) }) rfl (by kernel_rfl) (by kernel_rfl) (by kernel_rfl) (by kernel_rfl) rfl (fun _ _ _ h => h) (Or.inl ⟨by rfl, ?_⟩) (HS _ D1) ?_
    rotate_left
    · intro W hSW
      go_simp
      try with_reducible rfl
    simp only [Act.put, List.setIfInBounds_toArray, List.set_cons_zero, List.set_cons_succ]
    have HCC := merge_any a b _ _ w4 (HSA.out _ D1).1 (HSA.out _ D1).2 HFA.out HFB.out (by omega) (by omega)
    refine wpAnyL_one' (i := 16) (o := { dst := some 70, op := Op.call { callee := Callee.value (Operand.func 11), args := #[Operand.tmp 68, Operand.tmp 69], argTypes := #[24, 24] }, type := 24, pos := "law.go:42", after := #[{ on := 14, ground := Ground.data }, { on := 15, ground := Ground.data }, { on := 13, ground := Ground.chain }, { on := 13, ground := Ground.guard }], guard := some (13, true) }) (by kernel_rfl) rfl rfl (fun K hK => ?_)
    go_simp
    refine (HCC).mono ?_
    rintro e w5 ⟨P, pa, pc, rfl, jP, sP, e5⟩
    refine hK.out _ _ (fun _ => HS _ (below_then D1 e5 D1.size)) ?_
    clear hK
    have D2 := below_then D1 e5 D1.size
    clear e5 HCC
    have HCC := rmerge_any a b _ _ w5 (HSA.out _ D2).1 (HSA.out _ D2).2 HFA.out HFB.out (by omega) (by omega)
    refine wpAnyL_one' (i := 19) (o := { dst := some 73, op := Op.call { callee := Callee.value (Operand.func 12), args := #[Operand.tmp 71, Operand.tmp 72], argTypes := #[24, 24] }, type := 24, pos := "law.go:42", after := #[{ on := 17, ground := Ground.data }, { on := 18, ground := Ground.data }, { on := 16, ground := Ground.chain }, { on := 13, ground := Ground.guard }], guard := some (13, true) }) (by kernel_rfl) rfl rfl (fun K hK => ?_)
    go_simp
    refine (HCC).mono ?_
    rintro e w6 ⟨Q, qa, qc, rfl, jQ, sQ, e6⟩
    refine hK.out _ _ (fun _ => HS _ (below_then D2 e6 D2.size)) ?_
    clear hK
    have D3 := below_then D2 e6 D2.size
    have sP6 := sP.next e6
    clear e6 HCC
    have HCC := HSM.out P Q _ _ w6 sP6 sQ jP.ok jQ.ok (jP.one jQ)
    clear sP sP6 sQ jP jQ
    refine wpAnyL_one' (i := 20) (o := { dst := some 74, op := Op.call { callee := Callee.value (Operand.func 10), args := #[Operand.tmp 70, Operand.tmp 73], argTypes := #[24, 24] }, type := 4, pos := "law.go:42", after := #[{ on := 16, ground := Ground.data }, { on := 19, ground := Ground.data }, { on := 19, ground := Ground.chain }, { on := 13, ground := Ground.guard }], guard := some (13, true) }) (by kernel_rfl) rfl rfl (fun K hK => ?_)
    go_simp
    refine (HCC).mono ?_
    rintro e w7 ⟨rfl, e7⟩
    refine hK.out _ _ (fun _ => HS _ (below_then D3 e7 D3.size)) ?_
    clear hK
    have D4 := below_then D3 e7 D3.size
    clear e7 HCC
    refine wpAnyL_take' (i := 21) (v := ?_) (oi := { dst := some 75, op := Op.pick (Operand.tmp 67) (Operand.tmp 74) (Operand.const (Value.bool false)), type := 4, pos := "law.go:42", after := #[{ on := 13, ground := Ground.data }, { on := 20, ground := Ground.data }], guard := none }) rfl (by kernel_rfl) (by kernel_rfl) (by kernel_rfl) (by kernel_rfl) rfl (fun _ _ _ h => h) (Or.inl ⟨by rfl, ?_⟩) (HS _ D4) ?_
    rotate_left
    · intro W hSW
      go_simp
      try with_reducible rfl
    simp only [Act.put, List.setIfInBounds_toArray, List.set_cons_zero, List.set_cons_succ]
    refine wpAnyL_take' (i := 22) (v := ?_) (oi := { dst := some 76, op := Op.move (Operand.tmp 75), type := 4, pos := "law.go:42", after := #[{ on := 21, ground := Ground.data }, { on := 20, ground := Ground.chain }], guard := none }) rfl (by kernel_rfl) (by kernel_rfl) (by kernel_rfl) (by kernel_rfl) rfl (fun _ _ _ h => h) (Or.inl ⟨by rfl, ?_⟩) (HS _ D4) ?_
    rotate_left
    · intro W hSW
      go_simp
      try with_reducible rfl
    simp only [Act.put, List.setIfInBounds_toArray, List.set_cons_zero, List.set_cons_succ]
    have HCC := awake_any w7
    refine wpAnyL_one' (i := 23) (o := { dst := some 77, op := Op.call { callee := Callee.value (Operand.func 7), args := #[], argTypes := #[] }, type := 4, pos := "law.go:42", after := #[{ on := 22, ground := Ground.chain }, { on := 22, ground := Ground.guard }], guard := some (22, true) }) (by kernel_rfl) rfl rfl (fun K hK => ?_)
    go_simp
    refine (HCC).mono ?_
    rintro e w8 ⟨rfl, e8⟩
    refine hK.out _ _ (fun _ => HS _ (below_then D4 e8 D4.size)) ?_
    clear hK
    have DD := below_then D4 e8 D4.size
    clear e8 HCC
    refine wpAnyL_take' (i := 24) (v := ?_) (oi := { dst := some 78, op := Op.pick (Operand.tmp 76) (Operand.tmp 77) (Operand.const (Value.bool false)), type := 4, pos := "law.go:42", after := #[{ on := 22, ground := Ground.data }, { on := 23, ground := Ground.data }], guard := none }) rfl (by kernel_rfl) (by kernel_rfl) (by kernel_rfl) (by kernel_rfl) rfl (fun _ _ _ h => h) (Or.inl ⟨by rfl, ?_⟩) (HS _ DD) ?_
    rotate_left
    · intro W hSW
      go_simp
      try with_reducible rfl
    simp only [Act.put, List.setIfInBounds_toArray, List.set_cons_zero, List.set_cons_succ]
    refine wpAnyL_take' (i := 25) (v := ?_) (oi := { dst := some 10, op := Op.assign (Operand.tmp 78), type := 4, pos := "law.go:42", after := #[{ on := 24, ground := Ground.data }, { on := 23, ground := Ground.chain }, { on := 0, ground := Ground.phase }, { on := 1, ground := Ground.phase }, { on := 2, ground := Ground.phase }, { on := 3, ground := Ground.phase }, { on := 4, ground := Ground.phase }, { on := 5, ground := Ground.phase }, { on := 6, ground := Ground.phase }, { on := 7, ground := Ground.phase }, { on := 8, ground := Ground.phase }, { on := 9, ground := Ground.phase }, { on := 10, ground := Ground.phase }, { on := 11, ground := Ground.phase }, { on := 12, ground := Ground.phase }, { on := 13, ground := Ground.phase }, { on := 14, ground := Ground.phase }, { on := 15, ground := Ground.phase }, { on := 16, ground := Ground.phase }, { on := 17, ground := Ground.phase }, { on := 18, ground := Ground.phase }, { on := 19, ground := Ground.phase }, { on := 20, ground := Ground.phase }, { on := 21, ground := Ground.phase }, { on := 22, ground := Ground.phase }, { on := 23, ground := Ground.phase }, { on := 24, ground := Ground.phase }], guard := none }) rfl (by kernel_rfl) (by kernel_rfl) (by kernel_rfl) (by kernel_rfl) rfl (fun _ _ _ h => h) (Or.inl ⟨by rfl, ?_⟩) (HS _ DD) ?_
    rotate_left
    · intro W hSW
      go_simp
      try with_reducible rfl
    simp only [Act.put, List.setIfInBounds_toArray, List.set_cons_zero, List.set_cons_succ]
    refine wpAnyL_done (by kernel_rfl) ?_ _
    clear HS HSA HSM
    go_wp2_with fail
    refine bodyPost_ret (results_tmp (t := 10) rfl _ _ _) rfl ?_
    exact ⟨rfl, HBW.out _ DD⟩
end Go.Proofs.Ytjpbfckdiojghaa
