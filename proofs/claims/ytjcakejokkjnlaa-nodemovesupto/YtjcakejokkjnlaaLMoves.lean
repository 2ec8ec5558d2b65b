/- The law NodeMoves. -/
import Derived.Test.YtjcakejokkjnlaaLAwake
namespace Go.Proofs.Ytjcakejokkjnlaa
open Go.RowKit

theorem kids_mk (h : Hd) (l : List Nd) : (Nd.mk h l).kids = l := rfl
theorem h_mk (h : Hd) (l : List Nd) : (Nd.mk h l).h = h := rfl
theorem cntL_map (g : Nd → Nd) (l : List Nd) (h : ∀ k ∈ l, cntN (g k) = cntN k) : cntL (l.map g) = cntL l := by
  induction l with
  | nil => rfl
  | cons t l ih => simp only [List.map_cons, cntL]; rw [h t (by simp), ih (fun k hk => h k (by simp [hk]))]
theorem cnt_move (t : Nd) : ∀ d, cntN (moveN t d) = cntN t := by
  induction t using nd_ind with
  | h t ih => intro d; rw [moveN_mk, cntN_mk, cntN_mk t, kids_mk, cntL_map _ _ (fun k hk => ih k hk d)]
theorem kidsP_map (g : Nd → Nd) (l : List Nd) (h : ∀ k ∈ l, printN (g k) = printN k) : ∀ a, kidsP a (l.map g) = kidsP a l := by
  induction l with
  | nil => intro a; rfl
  | cons t l ih => intro a; simp only [List.map_cons, kidsP]; rw [h t (by simp), ih (fun k hk => h k (by simp [hk]))]
theorem print_move (t : Nd) : ∀ d, printN (moveN t d) = printN t := by
  induction t using nd_ind with
  | h t ih =>
    intro d
    rw [moveN_mk, printN_mk, printN_mk t]
    simp only [kids_mk, h_mk, List.length_map]
    rw [kidsP_map _ _ (fun k hk => ih k hk d), kidsP_map _ _ (fun k hk => ih k hk d)]
    rfl
theorem wrap_back {x d : Int} (h : i64B x) : wrap64 (wrap64 (x + d) + wrap64 (-d)) = x := by
  unfold i64B at h
  unfold wrap64
  omega
theorem TAt.back {A : Nat → Prop} {d : Int} : ∀ {n : Nat} {t : Nd} {v : Value} {W : World}, TAt A n t v W → moveN (moveN t d) (wrap64 (-d)) = t
  | 0, _, _, _, h => h.elim
  | n + 1, t, v, W, h => by
    obtain ⟨ba, bc, _, h1, _, _, _, h5⟩ := h
    rw [moveN_mk, moveN_mk t]
    simp only [kids_mk, h_mk]
    have hk : (t.kids.map (moveN · d)).map (moveN · (wrap64 (-d))) = t.kids := by
      rw [List.map_map]
      conv => rhs; rw [← List.map_id t.kids]
      refine List.map_congr_left fun k hk => ?_
      obtain ⟨i, hi, rfl⟩ := List.getElem_of_mem hk
      obtain ⟨b, off, ka, kc, _, _, _, _, e4⟩ := h5 i t.kids[i] (by simp [hi])
      exact e4.back
    rw [hk]
    have hh : moveH (moveH t.h d) (wrap64 (-d)) = t.h := by
      unfold moveH
      simp only
      rw [wrap_back h1.frm, wrap_back h1.to]
    rw [hh]
    exact Nd.eta t
set_option maxRecDepth 100000 in
set_option maxHeartbeats 8000000 in
theorem moves_any {A : Nat → Prop} (n : Nat) (t0 : Nd) (v : Value) (d : Int) (w : World) (h : TAt A n t0 v w) (hpl : cntN t0 ≤ 5000 → (printN t0).length + 1000 ≤ 140737488355328) :
    Calls Try.prog 7 #[v, .int .i64 d] w fun e w' => e = .returned (.bool true) ∧ Below w.heap.size w w' := by
  have hlt := fun W (hb : Below w.heap.size w W) => light_any n t0 v W (h.next hb)
  have HAW : Hid (∀ W, Calls Try.prog 10 #[] W fun e w' => e = .returned (.bool true) ∧ Below W.heap.size W w') := awake_any
  have HH : Hid (∀ W, Below w.heap.size w W → TAt A n t0 v W) := fun W hb => h.next hb
  have hbk : moveN (moveN t0 d) (wrap64 (-d)) = t0 := h.back
  have HBK : Hid (moveN (moveN t0 d) (wrap64 (-d)) = t0) := hbk
  obtain ⟨ba, bc, rfl, _⟩ := h.val
  clear h hbk
  have HLB : Hid (lightB t0 = decide (cntN t0 ≤ 5000)) := rfl
  generalize lightB t0 = LB at *
  have HPL : Hid (cntN t0 ≤ 5000 → (printN t0).length + 1000 ≤ 140737488355328) := hpl
  clear hpl
  obtain ⟨hd, hhd⟩ : ∃ hd, t0.h = hd := ⟨_, rfl⟩
  obtain ⟨kl, hkl⟩ : ∃ kl, t0.kids.length = kl := ⟨_, rfl⟩
  rw [hhd, hkl] at HH hlt
  rw [hhd, hkl]
  clear hhd hkl
  obtain ⟨zk, zn, zf, zr, zt, zb⟩ := hd
  have hB0 : Below w.heap.size w (w.alloc (Obj.cells #[Value.string zk, Value.bool zn, Value.string zf, Value.int IntKind.i64 zr, Value.int IntKind.i64 zt, Value.int IntKind.i64 zb, Value.slice ba kl bc] 24)) := (Below.refl _ _).alloc (Nat.le_refl _) _
  have hz : w.heap.size < (w.alloc (Obj.cells #[Value.string zk, Value.bool zn, Value.string zf, Value.int IntKind.i64 zr, Value.int IntKind.i64 zt, Value.int IntKind.i64 zb, Value.slice ba kl bc] 24)).heap.size := by simp
  have r7 : Row7 w.heap.size 0 ⟨zk, zn, zf, zr, zt, zb⟩ (.slice ba kl bc) (w.alloc (Obj.cells #[Value.string zk, Value.bool zn, Value.string zf, Value.int IntKind.i64 zr, Value.int IntKind.i64 zt, Value.int IntKind.i64 zb, Value.slice ba kl bc] 24)) := by refine ⟨?_, ?_, ?_, ?_, ?_, ?_, ?_⟩ <;> simp
  have hlt1 := hlt _ hB0
  clear hlt
  unfold ndV at hlt1 ⊢
  simp only at hlt1 ⊢
  go_enter Try.func7, Try.ntmps7
  cases LB with
  | false =>
    go_wp2_with fail
    refine hlt1.mono ?_
    rintro e w1 ⟨rfl, hb1⟩
    have haw := HAW.out w1
    go_wp2_with (go_at_call 10; refine haw.mono ?_; rintro e w2 ⟨rfl, hb2⟩)
    go_ret
    exact ⟨rfl, below_next (below_next hB0 hb1) hb2⟩
  | true =>
    go_wp2_with fail
    refine hlt1.mono ?_
    rintro e w1 ⟨rfl, hb1⟩
    have hBB1 : Below w.heap.size w w1 := below_next hB0 hb1
    have hcn : cntN t0 ≤ 5000 := of_decide_eq_true HLB.out.symm
    have hR1 := r7.but (D := fun _ => False) (But.of_next hb1) hz (fun h => h)
    have HR1 : Hid (Row7 w.heap.size 0 ⟨zk, zn, zf, zr, zt, zb⟩ (.slice ba kl bc) w1) := hR1
    have hz1 : w.heap.size < w1.heap.size := Nat.lt_of_lt_of_le hz hb1.size
    obtain ⟨r0, r1, r2, r3, r4, r5, r6⟩ := hR1
    simp only [Nat.zero_add] at r1 r2 r3 r4 r5 r6
    have hmv := move_any n t0 _ d w1 (HH.out w1 hBB1) hcn
    unfold ndV at hmv
    simp only at hmv
    have HCN : Hid (cntN t0 ≤ 5000) := hcn
    clear hlt1 r7 HLB hz hcn
    go_wp2_with fail
    refine hmv.mono ?_
    rintro e w2 ⟨m2, v2, rfl, hT2, hb2⟩
    obtain ⟨ma, mc, hv2, _⟩ := hT2.val
    have HCM := cnt_move t0 d
    have HPM := print_move t0 d
    generalize moveN t0 d = mt at *
    subst hv2
    have HT2 : Hid (∀ W, Below w2.heap.size w2 W → TAt (fun k => w1.heap.size ≤ k) m2 mt (ndV mt.h (.slice ma mt.kids.length mc)) W) := fun W hb => hT2.next hb
    have HHC : Hid (cntN mt = cntN t0 ∧ printN mt = printN t0) := ⟨HCM, HPM⟩
    clear hmv hT2 HCM HPM r0 r1 r2 r3 r4 r5 r6
    obtain ⟨mh, hmh⟩ : ∃ mh, mt.h = mh := ⟨_, rfl⟩
    obtain ⟨ml, hml⟩ : ∃ ml, mt.kids.length = ml := ⟨_, rfl⟩
    rw [hmh, hml] at HT2 ⊢
    clear hmh hml
    obtain ⟨uk, un, uf, ur, ut, ub⟩ := mh
    unfold ndV
    simp only
    go_wp2_with fail
    have hb3 : Below w2.heap.size w2 (w2.alloc (Obj.cells #[Value.string uk, Value.bool un, Value.string uf, Value.int IntKind.i64 ur, Value.int IntKind.i64 ut, Value.int IntKind.i64 ub, Value.slice ma ml mc] 24)) := (Below.refl _ _).alloc (Nat.le_refl _) _
    have hKz : w2.heap.size < (w2.alloc (Obj.cells #[Value.string uk, Value.bool un, Value.string uf, Value.int IntKind.i64 ur, Value.int IntKind.i64 ut, Value.int IntKind.i64 ub, Value.slice ma ml mc] 24)).heap.size := by simp
    have k7 : Row7 w2.heap.size 0 ⟨uk, un, uf, ur, ut, ub⟩ (.slice ma ml mc) (w2.alloc (Obj.cells #[Value.string uk, Value.bool un, Value.string uf, Value.int IntKind.i64 ur, Value.int IntKind.i64 ut, Value.int IntKind.i64 ub, Value.slice ma ml mc] 24)) := by refine ⟨?_, ?_, ?_, ?_, ?_, ?_, ?_⟩ <;> simp
    have hB13 : Below w1.heap.size w1 (w2.alloc (Obj.cells #[Value.string uk, Value.bool un, Value.string uf, Value.int IntKind.i64 ur, Value.int IntKind.i64 ut, Value.int IntKind.i64 ub, Value.slice ma ml mc] 24)) := hb2.trans (hb3.mono hb2.size)
    generalize w2.alloc (Obj.cells #[Value.string uk, Value.bool un, Value.string uf, Value.int IntKind.i64 ur, Value.int IntKind.i64 ut, Value.int IntKind.i64 ub, Value.slice ma ml mc] 24) = w3 at *
    have hB3 : Below w.heap.size w w3 := below_next hBB1 hB13
    generalize w2.heap.size = K at *
    have HS : Hid (∀ W, Below w3.heap.size w3 W → ((W.cell? ⟨w.heap.size, 0, none⟩ = some (.string zk) ∧ W.cell? ⟨w.heap.size, 1, none⟩ = some (.bool zn) ∧ W.cell? ⟨w.heap.size, 2, none⟩ = some (.string zf) ∧ W.cell? ⟨w.heap.size, 3, none⟩ = some (.int .i64 zr) ∧ W.cell? ⟨w.heap.size, 4, none⟩ = some (.int .i64 zt) ∧ W.cell? ⟨w.heap.size, 5, none⟩ = some (.int .i64 zb) ∧ W.cell? ⟨w.heap.size, 6, none⟩ = some (.slice ba kl bc)) ∧ (W.cell? ⟨K, 0, none⟩ = some (.string uk) ∧ W.cell? ⟨K, 1, none⟩ = some (.bool un) ∧ W.cell? ⟨K, 2, none⟩ = some (.string uf) ∧ W.cell? ⟨K, 3, none⟩ = some (.int .i64 ur) ∧ W.cell? ⟨K, 4, none⟩ = some (.int .i64 ut) ∧ W.cell? ⟨K, 5, none⟩ = some (.int .i64 ub) ∧ W.cell? ⟨K, 6, none⟩ = some (.slice ma ml mc)))) := fun W hb => by
      obtain ⟨q0, q1, q2, q3, q4, q5, q6⟩ := (HR1.out.but (D := fun _ => False) (But.of_next hB13) hz1 (fun h => h)).but (D := fun _ => False) (But.of_next hb) (Nat.lt_of_lt_of_le hz1 hB13.size) (fun h => h)
      obtain ⟨p0, p1, p2, p3, p4, p5, p6⟩ := k7.but (D := fun _ => False) (But.of_next hb) hKz (fun h => h)
      simp only [Nat.zero_add] at q1 q2 q3 q4 q5 q6 p1 p2 p3 p4 p5 p6
      exact ⟨⟨q0, q1, q2, q3, q4, q5, q6⟩, p0, p1, p2, p3, p4, p5, p6⟩
    have hcn := HCN.out
    have hhc := HHC.out
    have HM2 : Hid (∀ W, Below w3.heap.size w3 W → Calls Try.prog 29 #[ndV ⟨uk, un, uf, ur, ut, ub⟩ (.slice ma ml mc), .int .i64 (IntKind.i64.wrap (-d))] W fun e w' => ∃ m v', e = .returned v' ∧ TAt (fun k => W.heap.size ≤ k) m t0 v' w' ∧ Below W.heap.size W w') := fun W hb => by
      have ew : IntKind.i64.wrap (-d) = wrap64 (-d) := by rw [IntKind.wrap_i64]; unfold wrap64; omega
      rw [ew]
      have := move_any m2 mt _ (wrap64 (-d)) W (HT2.out W (hb3.trans (hb.mono (Nat.le_of_lt hKz)))) (by omega)
      rw [HBK.out] at this
      exact this
    have HSM : Hid (∀ W m4 v4, Below w3.heap.size w3 W → TAt (fun k => w3.drew.heap.size ≤ k) m4 t0 v4 W → Calls Try.prog 16 #[v4, ndV ⟨zk, zn, zf, zr, zt, zb⟩ (.slice ba kl bc)] W fun e w' => e = .returned (.bool true) ∧ Below W.heap.size W w') := fun W m4 v4 hb hT => by
      have := rsame_any m4 n t0 t0 v4 _ W hT (HH.out W (below_next hB3 hb))
      rw [eqN_refl] at this
      exact this
    have HP1 : Hid (∀ W, Below w3.heap.size w3 W → Calls Try.prog 17 #[ndV ⟨uk, un, uf, ur, ut, ub⟩ (.slice ma ml mc)] W fun e w' => e = .returned (.string ⟨(printN t0).toArray⟩) ∧ Below W.heap.size W w') := fun W hb => by
      have := print_any m2 mt _ W (HT2.out W (hb3.trans (hb.mono (Nat.le_of_lt hKz)))) (by omega) (by rw [hhc.2]; exact HPL.out hcn)
      rw [hhc.2] at this
      exact this
    have HP2 : Hid (∀ W, Below w3.heap.size w3 W → Calls Try.prog 17 #[ndV ⟨zk, zn, zf, zr, zt, zb⟩ (.slice ba kl bc)] W fun e w' => e = .returned (.string ⟨(printN t0).toArray⟩) ∧ Below W.heap.size W w') := fun W hb => print_any n t0 _ W (HH.out W (below_next hB3 hb)) hcn (HPL.out hcn)
    clear HT2 HHC HCN hcn hhc HR1 k7 HPL HBK HH hb3 hKz
    unfold ndV at HM2 HSM HP1 HP2
    simp only at HM2 HSM HP1 HP2
    go_wp2_with fail
    refine wp_region_L (fun W => (W.cell? ⟨w.heap.size, 0, none⟩ = some (.string zk) ∧ W.cell? ⟨w.heap.size, 1, none⟩ = some (.bool zn) ∧ W.cell? ⟨w.heap.size, 2, none⟩ = some (.string zf) ∧ W.cell? ⟨w.heap.size, 3, none⟩ = some (.int .i64 zr) ∧ W.cell? ⟨w.heap.size, 4, none⟩ = some (.int .i64 zt) ∧ W.cell? ⟨w.heap.size, 5, none⟩ = some (.int .i64 zb) ∧ W.cell? ⟨w.heap.size, 6, none⟩ = some (.slice ba kl bc)) ∧ (W.cell? ⟨K, 0, none⟩ = some (.string uk) ∧ W.cell? ⟨K, 1, none⟩ = some (.bool un) ∧ W.cell? ⟨K, 2, none⟩ = some (.string uf) ∧ W.cell? ⟨K, 3, none⟩ = some (.int .i64 ur) ∧ W.cell? ⟨K, 4, none⟩ = some (.int .i64 ut) ∧ W.cell? ⟨K, 5, none⟩ = some (.int .i64 ub) ∧ W.cell? ⟨K, 6, none⟩ = some (.slice ma ml mc))) 17 (by kernel_rfl) 17 rfl ?_
    refine wpAnyL_take' (i := 0) (v := ?_) (oi := { dst := some 13, op := Op.load 24 (Operand.tmp 5), type := 24, pos := "law.go:85", after := #[], guard := none }) rfl (by kernel_rfl) (by kernel_rfl) (by kernel_rfl) (by kernel_rfl) rfl (fun _ _ _ h => h) (Or.inl ⟨by rfl, ?_⟩) (HS.out _ (Below.refl _ _).drew) ?_
    rotate_left
    · intro W hSW
      go_simp
      try with_reducible rfl
    simp only [Act.put, List.setIfInBounds_toArray, List.set_cons_zero, List.set_cons_succ]
    refine wpAnyL_take' (i := 1) (v := ?_) (oi := { dst := some 14, op := Op.move (Operand.tmp 1), type := 3, pos := "law.go:85", after := #[], guard := none }) rfl (by kernel_rfl) (by kernel_rfl) (by kernel_rfl) (by kernel_rfl) rfl (fun _ _ _ h => h) (Or.inl ⟨by rfl, ?_⟩) (HS.out _ (Below.refl _ _).drew) ?_
    rotate_left
    · intro W hSW
      go_simp
      try with_reducible rfl
    simp only [Act.put, List.setIfInBounds_toArray, List.set_cons_zero, List.set_cons_succ]
    refine wpAnyL_take' (i := 2) (v := ?_) (oi := { dst := some 15, op := Op.unOp UnOp.neg 3 (Operand.tmp 14), type := 3, pos := "law.go:85", after := #[{ on := 1, ground := Ground.data }], guard := none }) rfl (by kernel_rfl) (by kernel_rfl) (by kernel_rfl) (by kernel_rfl) rfl (fun _ _ _ h => h) (Or.inl ⟨by rfl, ?_⟩) (HS.out _ (Below.refl _ _).drew) ?_
    rotate_left
    · intro W hSW
      go_simp
      try with_reducible rfl
    simp only [Act.put, List.setIfInBounds_toArray, List.set_cons_zero, List.set_cons_succ]
    refine wpAnyL_take' (i := 4) (v := ?_) (oi := { dst := some 17, op := Op.load 24 (Operand.tmp 2), type := 24, pos := "law.go:85", after := #[], guard := none }) rfl (by kernel_rfl) (by kernel_rfl) (by kernel_rfl) (by kernel_rfl) rfl (fun _ _ _ h => h) (Or.inl ⟨by rfl, ?_⟩) (HS.out _ (Below.refl _ _).drew) ?_
    rotate_left
    · intro W hSW
      go_simp
      try with_reducible rfl
    simp only [Act.put, List.setIfInBounds_toArray, List.set_cons_zero, List.set_cons_succ]
    refine wpAnyL_one' (i := 3) (o := { dst := some 16, op := Op.call { callee := Callee.value (Operand.func 29), args := #[Operand.tmp 13, Operand.tmp 15], argTypes := #[24, 3] }, type := 24, pos := "law.go:85", after := #[{ on := 0, ground := Ground.data }, { on := 2, ground := Ground.data }], guard := none }) (by kernel_rfl) rfl rfl (fun K hK => ?_)
    go_simp
    refine (HM2.out _ (Below.refl _ _).drew).mono ?_
    rintro e w4 ⟨m4, v4, rfl, hT4, hb4⟩
    refine hK.out _ _ (fun _ => (HS.out _ ((Below.refl _ _).drew.trans hb4))) ?_
    clear hK
    have hB4 : Below w3.heap.size w3 w4 := (Below.refl _ _).drew.trans hb4
    refine wpAnyL_one' (i := 5) (o := { dst := some 18, op := Op.call { callee := Callee.value (Operand.func 16), args := #[Operand.tmp 16, Operand.tmp 17], argTypes := #[24, 24] }, type := 4, pos := "law.go:85", after := #[{ on := 3, ground := Ground.data }, { on := 4, ground := Ground.data }, { on := 3, ground := Ground.chain }], guard := none }) (by kernel_rfl) rfl rfl (fun K hK => ?_)
    go_simp
    refine (HSM.out _ m4 v4 hB4 hT4).mono ?_
    rintro e w5 ⟨rfl, hb5⟩
    refine hK.out _ _ (fun _ => (HS.out _ (hB4.trans (hb5.mono hB4.size)))) ?_
    clear hK
    have hB5 : Below w3.heap.size w3 w5 := hB4.trans (hb5.mono hB4.size)
    refine wpAnyL_take' (i := 6) (v := ?_) (oi := { dst := some 19, op := Op.move (Operand.tmp 18), type := 4, pos := "law.go:85", after := #[{ on := 5, ground := Ground.data }, { on := 5, ground := Ground.chain }], guard := none }) rfl (by kernel_rfl) (by kernel_rfl) (by kernel_rfl) (by kernel_rfl) rfl (fun _ _ _ h => h) (Or.inl ⟨by rfl, ?_⟩) (HS.out _ (hB4.trans (hb5.mono hB4.size))) ?_
    rotate_left
    · intro W hSW
      go_simp
      try with_reducible rfl
    simp only [Act.put, List.setIfInBounds_toArray, List.set_cons_zero, List.set_cons_succ]
    refine wpAnyL_take' (i := 7) (v := ?_) (oi := { dst := some 20, op := Op.load 24 (Operand.tmp 5), type := 24, pos := "law.go:85", after := #[{ on := 6, ground := Ground.guard }], guard := some (6, true) }) rfl (by kernel_rfl) (by kernel_rfl) (by kernel_rfl) (by kernel_rfl) rfl (fun _ _ _ h => h) (Or.inl ⟨by rfl, ?_⟩) (HS.out _ (hB4.trans (hb5.mono hB4.size))) ?_
    rotate_left
    · intro W hSW
      go_simp
      try with_reducible rfl
    simp only [Act.put, List.setIfInBounds_toArray, List.set_cons_zero, List.set_cons_succ]
    refine wpAnyL_take' (i := 9) (v := ?_) (oi := { dst := some 22, op := Op.load 24 (Operand.tmp 2), type := 24, pos := "law.go:85", after := #[{ on := 6, ground := Ground.guard }], guard := some (6, true) }) rfl (by kernel_rfl) (by kernel_rfl) (by kernel_rfl) (by kernel_rfl) rfl (fun _ _ _ h => h) (Or.inl ⟨by rfl, ?_⟩) (HS.out _ (hB4.trans (hb5.mono hB4.size))) ?_
    rotate_left
    · intro W hSW
      go_simp
      try with_reducible rfl
    simp only [Act.put, List.setIfInBounds_toArray, List.set_cons_zero, List.set_cons_succ]
    refine wpAnyL_one' (i := 8) (o := { dst := some 21, op := Op.call { callee := Callee.value (Operand.func 17), args := #[Operand.tmp 20], argTypes := #[24] }, type := 9, pos := "law.go:85", after := #[{ on := 7, ground := Ground.data }, { on := 6, ground := Ground.chain }, { on := 6, ground := Ground.guard }], guard := some (6, true) }) (by kernel_rfl) rfl rfl (fun K hK => ?_)
    go_simp
    refine (HP1.out _ hB5).mono ?_
    rintro e w6 ⟨rfl, hb6⟩
    refine hK.out _ _ (fun _ => (HS.out _ (hB5.trans (hb6.mono hB5.size)))) ?_
    clear hK
    have hB6 : Below w3.heap.size w3 w6 := hB5.trans (hb6.mono hB5.size)
    refine wpAnyL_one' (i := 10) (o := { dst := some 23, op := Op.call { callee := Callee.value (Operand.func 17), args := #[Operand.tmp 22], argTypes := #[24] }, type := 9, pos := "law.go:85", after := #[{ on := 9, ground := Ground.data }, { on := 8, ground := Ground.chain }, { on := 6, ground := Ground.guard }], guard := some (6, true) }) (by kernel_rfl) rfl rfl (fun K hK => ?_)
    go_simp
    refine (HP2.out _ hB6).mono ?_
    rintro e w7 ⟨rfl, hb7⟩
    refine hK.out _ _ (fun _ => (HS.out _ (hB6.trans (hb7.mono hB6.size)))) ?_
    clear hK
    have hB7 : Below w3.heap.size w3 w7 := hB6.trans (hb7.mono hB6.size)
    refine wpAnyL_take' (i := 11) (v := ?_) (oi := { dst := some 24, op := Op.binOp BinOp.eql 9 (Operand.tmp 21) (Operand.tmp 23) 9, type := 4, pos := "law.go:85", after := #[{ on := 8, ground := Ground.data }, { on := 10, ground := Ground.data }, { on := 6, ground := Ground.guard }], guard := some (6, true) }) rfl (by kernel_rfl) (by kernel_rfl) (by kernel_rfl) (by kernel_rfl) rfl (fun _ _ _ h => h) (Or.inl ⟨by rfl, ?_⟩) (HS.out _ (hB6.trans (hb7.mono hB6.size))) ?_
    rotate_left
    · intro W hSW
      go_simp
      try with_reducible rfl
    simp only [Act.put, List.setIfInBounds_toArray, List.set_cons_zero, List.set_cons_succ]
    refine wpAnyL_take' (i := 12) (v := ?_) (oi := { dst := some 25, op := Op.pick (Operand.tmp 19) (Operand.tmp 24) (Operand.const (Value.bool false)), type := 4, pos := "law.go:85", after := #[{ on := 6, ground := Ground.data }, { on := 11, ground := Ground.data }], guard := none }) rfl (by kernel_rfl) (by kernel_rfl) (by kernel_rfl) (by kernel_rfl) rfl (fun _ _ _ h => h) (Or.inl ⟨by rfl, ?_⟩) (HS.out _ (hB6.trans (hb7.mono hB6.size))) ?_
    rotate_left
    · intro W hSW
      go_simp
      try with_reducible rfl
    simp only [Act.put, List.setIfInBounds_toArray, List.set_cons_zero, List.set_cons_succ]
    refine wpAnyL_take' (i := 13) (v := ?_) (oi := { dst := some 26, op := Op.move (Operand.tmp 25), type := 4, pos := "law.go:85", after := #[{ on := 12, ground := Ground.data }, { on := 10, ground := Ground.chain }], guard := none }) rfl (by kernel_rfl) (by kernel_rfl) (by kernel_rfl) (by kernel_rfl) rfl (fun _ _ _ h => h) (Or.inl ⟨by rfl, ?_⟩) (HS.out _ (hB6.trans (hb7.mono hB6.size))) ?_
    rotate_left
    · intro W hSW
      go_simp
      try with_reducible rfl
    simp only [Act.put, List.setIfInBounds_toArray, List.set_cons_zero, List.set_cons_succ]
    refine wpAnyL_one' (i := 14) (o := { dst := some 27, op := Op.call { callee := Callee.value (Operand.func 10), args := #[], argTypes := #[] }, type := 4, pos := "law.go:85", after := #[{ on := 13, ground := Ground.chain }, { on := 13, ground := Ground.guard }], guard := some (13, true) }) (by kernel_rfl) rfl rfl (fun K hK => ?_)
    go_simp
    refine (HAW.out w7).mono ?_
    rintro e w8 ⟨rfl, hb8⟩
    refine hK.out _ _ (fun _ => (HS.out _ (hB7.trans (hb8.mono hB7.size)))) ?_
    clear hK
    refine wpAnyL_take' (i := 15) (v := ?_) (oi := { dst := some 28, op := Op.pick (Operand.tmp 26) (Operand.tmp 27) (Operand.const (Value.bool false)), type := 4, pos := "law.go:85", after := #[{ on := 13, ground := Ground.data }, { on := 14, ground := Ground.data }], guard := none }) rfl (by kernel_rfl) (by kernel_rfl) (by kernel_rfl) (by kernel_rfl) rfl (fun _ _ _ h => h) (Or.inl ⟨by rfl, ?_⟩) (HS.out _ (hB7.trans (hb8.mono hB7.size))) ?_
    rotate_left
    · intro W hSW
      go_simp
      try with_reducible rfl
    simp only [Act.put, List.setIfInBounds_toArray, List.set_cons_zero, List.set_cons_succ]
    refine wpAnyL_take' (i := 16) (v := ?_) (oi := { dst := some 4, op := Op.assign (Operand.tmp 28), type := 4, pos := "law.go:85", after := #[{ on := 15, ground := Ground.data }, { on := 14, ground := Ground.chain }, { on := 0, ground := Ground.phase }, { on := 1, ground := Ground.phase }, { on := 2, ground := Ground.phase }, { on := 3, ground := Ground.phase }, { on := 4, ground := Ground.phase }, { on := 5, ground := Ground.phase }, { on := 6, ground := Ground.phase }, { on := 7, ground := Ground.phase }, { on := 8, ground := Ground.phase }, { on := 9, ground := Ground.phase }, { on := 10, ground := Ground.phase }, { on := 11, ground := Ground.phase }, { on := 12, ground := Ground.phase }, { on := 13, ground := Ground.phase }, { on := 14, ground := Ground.phase }, { on := 15, ground := Ground.phase }], guard := none }) rfl (by kernel_rfl) (by kernel_rfl) (by kernel_rfl) (by kernel_rfl) rfl (fun _ _ _ h => h) (Or.inl ⟨by rfl, ?_⟩) (HS.out _ (hB7.trans (hb8.mono hB7.size))) ?_
    rotate_left
    · intro W hSW
      go_simp
      try with_reducible rfl
    simp only [Act.put, List.setIfInBounds_toArray, List.set_cons_zero, List.set_cons_succ]
    refine wpAnyL_done (by kernel_rfl) ?_ _
    go_wp2_with fail
    go_ret
    exact ⟨rfl, below_next hB3 (hB7.trans (hb8.mono hB7.size))⟩
end Go.Proofs.Ytjcakejokkjnlaa
