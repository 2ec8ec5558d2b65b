/- The law NodeLeast. -/
import Derived.Test.YtjcakejokkjnlaaLAwake
import Derived.Test.YtjcakejokkjnlaaAtEx
import Derived.Deep.Cut
import Derived.Deep.CutRange
namespace Go.Proofs.Ytjcakejokkjnlaa
open Go.RowKit

theorem AtP.finds {f t : Int} {x : Nd} {p : List Int} (h : AtP f t x p) (hx : hasB x.h f t = true) : ∃ y, findN x p = some y ∧ hasB y.h f t = true ∧ ∀ i (hi : i < y.kids.length), hasB y.kids[i].h f t = false := by
  induction h with
  | stop x h1 => exact ⟨x, by rw [findN], hx, h1⟩
  | go x j hj p h1 _ _ ih =>
    obtain ⟨y, e, h2, h3⟩ := ih h1
    refine ⟨y, ?_, h2, h3⟩
    have hj' : ((j : Int)).toNat < x.kids.length := by simpa using hj
    rw [findN_yes (by omega) hj', ← e]
    simp
set_option maxRecDepth 100000 in
set_option maxHeartbeats 8000000 in
theorem least_any {A : Nat → Prop} (n : Nat) (t0 : Nd) (v : Value) (f t : Int) (w : World) (h : TAt A n t0 v w) :
    Calls Try.prog 6 #[v, .int .i64 f, .int .i64 t] w fun e w' => e = .returned (.bool true) ∧ Below w.heap.size w w' := by
  have hlt := fun W (hb : Below w.heap.size w W) => light_any n t0 v W (h.next hb)
  have HAW : Hid (∀ W, Calls Try.prog 10 #[] W fun e w' => e = .returned (.bool true) ∧ Below W.heap.size W w') := awake_any
  have HAF : Hid (cntN t0 ≤ 5000 → hasB t0.h f t = true → ∃ y, hasB y.h f t = true ∧ (∀ i (hi : i < y.kids.length), hasB y.kids[i].h f t = false) ∧
      (∀ W, Below w.heap.size w W → Calls Try.prog 27 #[v, .int .i64 f, .int .i64 t] W fun e w' => (∃ pa pc pl pp, e = .returned (.slice pa pl pc) ∧ pl = List.length pp ∧ RowI pp pa w' ∧ pl ≤ 140737488351232 ∧ findN t0 pp = some y) ∧ Below W.heap.size W w') ∧
      (∀ W pa pc pp, Below w.heap.size w W → RowI pp pa W → pp.length ≤ 140737488351232 → findN t0 pp = some y → Calls Try.prog 24 #[v, .slice pa pp.length pc] W fun e w' => (∃ m v', e = .returned (.tuple #[v', .bool true]) ∧ TAt (fun k => W.heap.size ≤ k) m y v' w') ∧ Below W.heap.size W w')) := fun hc hhas => by
    obtain ⟨p, hp⟩ : ∃ p, AtP f t t0 p := atP_ex f t t0
    obtain ⟨y, hy1, hy2, hy3⟩ := hp.finds hhas
    refine ⟨y, hy2, hy3, fun W hb => (at_any n t0 v f t W (h.next hb) hc).mono fun e w' ⟨⟨q, pv, e1, e2, e3⟩, e4⟩ => ?_, fun W pa pc pp hb h1 h2 h3 => (find_any n t0 v pp pa pc W (h.next hb) hc h1 h2).mono fun e w' ⟨⟨m, v', e1, e2⟩, e3⟩ => ?_⟩
    · rcases e3 with ⟨_, e3⟩ | ⟨e3, _⟩
      · obtain rfl := e3.uniq hp
        obtain ⟨ao, cap, e5, e6⟩ := RowI.of_own e2
        subst e5
        have hl : q.length ≤ 140737488351232 := by
          have h5 := atP_len hp
          omega
        exact ⟨⟨ao, cap, _, q, e1, rfl, e6, hl, hy1⟩, e4⟩
      · rw [hhas] at e3; cases e3
    · rw [h3] at e1 e2
      exact ⟨⟨m, v', e1, e2⟩, e3⟩
  obtain ⟨ba, bc, rfl, _⟩ := h.val
  clear h
  have HLB : Hid (lightB t0 = decide (cntN t0 ≤ 5000)) := rfl
  generalize lightB t0 = LB at *
  have HHB : Hid (hasB t0.h f t = (decide (t0.h.frm ≤ f) && decide (t ≤ t0.h.to))) := rfl
  generalize t0.kids.length = kl at *
  generalize t0.h = hd at *
  obtain ⟨zk, zn, zf, zr, zt, zb⟩ := hd
  unfold ndV at *
  simp only at *
  have hB0 : Below w.heap.size w (w.alloc (Obj.cells #[Value.string zk, Value.bool zn, Value.string zf, Value.int IntKind.i64 zr, Value.int IntKind.i64 zt, Value.int IntKind.i64 zb, Value.slice ba kl bc] 24)) := (Below.refl _ _).alloc (Nat.le_refl _) _
  have hz : w.heap.size < (w.alloc (Obj.cells #[Value.string zk, Value.bool zn, Value.string zf, Value.int IntKind.i64 zr, Value.int IntKind.i64 zt, Value.int IntKind.i64 zb, Value.slice ba kl bc] 24)).heap.size := by simp
  have r7 : Row7 w.heap.size 0 ⟨zk, zn, zf, zr, zt, zb⟩ (.slice ba kl bc) (w.alloc (Obj.cells #[Value.string zk, Value.bool zn, Value.string zf, Value.int IntKind.i64 zr, Value.int IntKind.i64 zt, Value.int IntKind.i64 zb, Value.slice ba kl bc] 24)) := by refine ⟨?_, ?_, ?_, ?_, ?_, ?_, ?_⟩ <;> simp
  have hlt1 := hlt _ hB0
  clear hlt
  go_enter Try.func6, Try.ntmps6
  cases LB with
  | false =>
    go_wp2_with fail
    refine hlt1.mono ?_
    rintro e w1 ⟨rfl, hb1⟩
    have haw := HAW.out w1
    go_wp2_with (go_at_call 10; refine haw.mono ?_; rintro e w2 ⟨rfl, hb2⟩)
    go_ret
    exact ⟨rfl, below_next (below_next hB0 hb1) hb2⟩
  | true =>
    go_wp2_with fail
    refine hlt1.mono ?_
    rintro e w1 ⟨rfl, hb1⟩
    have hBB1 : Below w.heap.size w w1 := below_next hB0 hb1
    have HC : Hid (cntN t0 ≤ 5000) := by show _ ≤ _; exact of_decide_eq_true HLB.out.symm
    have HR : Hid (Row7 w.heap.size 0 ⟨zk, zn, zf, zr, zt, zb⟩ (.slice ba kl bc) w1) := r7.but (D := fun _ => False) (But.of_next hb1) hz (fun h => h)
    have hz1 : w.heap.size < w1.heap.size := Nat.lt_of_lt_of_le hz hb1.size
    obtain ⟨r0, r1, r2, r3, r4, r5, r6⟩ := HR.out
    simp only [Nat.zero_add] at r1 r2 r3 r4 r5 r6
    have haw := HAW.out w1
    clear hlt1 r7 HLB
    by_cases g1 : zr ≤ f
    case neg =>
      have g1' : f < zr := by omega
      clear HAF HAW HHB
      go_wp2_with (go_at_call 10; refine haw.mono ?_; rintro e w2 ⟨rfl, hb2⟩)
      go_ret
      exact ⟨rfl, below_next hBB1 hb2⟩
    have g1' : ¬ f < zr := by omega
    by_cases g2 : t ≤ zt
    case neg =>
      have g2' : zt < t := by omega
      clear HAF HAW HHB
      go_wp2_with (go_at_call 10; refine haw.mono ?_; rintro e w2 ⟨rfl, hb2⟩)
      go_ret
      exact ⟨rfl, below_next hBB1 hb2⟩
    have g2' : ¬ zt < t := by omega
    obtain ⟨y, hy1, hy2, hAT, hFI⟩ := HAF.out HC.out (by rw [HHB.out]; simp [g1, g2])
    have HY : Hid (hasB y.h f t = true ∧ ∀ i (hi : i < y.kids.length), hasB y.kids[i].h f t = false) := ⟨hy1, hy2⟩
    have HAT : Hid _ := hAT
    have HFI : Hid _ := hFI
    clear HAF hy1 hy2 hAT hFI haw HHB HC hz
    obtain ⟨⟨uk, un, uf, ur, ut, ub⟩, yk⟩ := y
    simp only [Nd.h, Nd.kids] at *
    go_upto_region 3 with fail
    have HS : Hid (∀ W, Below w1.heap.size w1 W → (W.cell? ⟨w.heap.size, 0, none⟩ = some (.string zk) ∧ W.cell? ⟨w.heap.size, 1, none⟩ = some (.bool zn) ∧ W.cell? ⟨w.heap.size, 2, none⟩ = some (.string zf) ∧ W.cell? ⟨w.heap.size, 3, none⟩ = some (.int .i64 zr) ∧ W.cell? ⟨w.heap.size, 4, none⟩ = some (.int .i64 zt) ∧ W.cell? ⟨w.heap.size, 5, none⟩ = some (.int .i64 zb) ∧ W.cell? ⟨w.heap.size, 6, none⟩ = some (.slice ba kl bc))) := fun W hb => by
      obtain ⟨q0, q1, q2, q3, q4, q5, q6⟩ := HR.out.but (D := fun _ => False) (But.of_next hb) hz1 (fun h => h)
      simp only [Nat.zero_add] at q1 q2 q3 q4 q5 q6
      exact ⟨q0, q1, q2, q3, q4, q5, q6⟩
    have HBW : Hid (∀ W, Below w1.heap.size w1 W → Below w.heap.size w W) := fun W hb => below_next hBB1 hb
    clear r0 r1 r2 r3 r4 r5 r6 HR
    go_cut [7, 8] from 28 to 35 (fun t7 t8 wx => ∃ K m ya yc, t7 = .pointer (some ⟨K, 0, none⟩) ∧ t8 = .bool true ∧ Row7 K 0 ⟨uk, un, uf, ur, ut, ub⟩ (.slice ya yk.length yc) wx ∧ TAt (fun _ => True) m (.mk ⟨uk, un, uf, ur, ut, ub⟩ yk) (ndV ⟨uk, un, uf, ur, ut, ub⟩ (.slice ya yk.length yc)) wx ∧ Below w.heap.size w wx)
    case first =>
      have hbd : Below w1.heap.size w1 w1.drew := (Below.refl _ _).drew
      refine wp_region_L (fun W => W.cell? ⟨w.heap.size, 0, none⟩ = some (.string zk) ∧ W.cell? ⟨w.heap.size, 1, none⟩ = some (.bool zn) ∧ W.cell? ⟨w.heap.size, 2, none⟩ = some (.string zf) ∧ W.cell? ⟨w.heap.size, 3, none⟩ = some (.int .i64 zr) ∧ W.cell? ⟨w.heap.size, 4, none⟩ = some (.int .i64 zt) ∧ W.cell? ⟨w.heap.size, 5, none⟩ = some (.int .i64 zb) ∧ W.cell? ⟨w.heap.size, 6, none⟩ = some (.slice ba kl bc)) 12 (by kernel_rfl) 12 rfl ?_
      refine wpAnyL_take' (i := 0) (v := ?_) (oi := { dst := some 28, op := Op.load 24 (Operand.tmp 3), type := 24, pos := "law.go:67", after := #[], guard := none }) rfl (by kernel_rfl) (by kernel_rfl) (by kernel_rfl) (by kernel_rfl) rfl (fun _ _ _ h => h) (Or.inl ⟨by rfl, ?_⟩) (HS.out _ hbd) ?_
      rotate_left
      · intro W hSW
        go_simp
        try with_reducible rfl
      simp only [Act.put, List.setIfInBounds_toArray, List.set_cons_zero, List.set_cons_succ]
      refine wpAnyL_take' (i := 1) (v := ?_) (oi := { dst := some 29, op := Op.load 24 (Operand.tmp 3), type := 24, pos := "law.go:67", after := #[], guard := none }) rfl (by kernel_rfl) (by kernel_rfl) (by kernel_rfl) (by kernel_rfl) rfl (fun _ _ _ h => h) (Or.inl ⟨by rfl, ?_⟩) (HS.out _ hbd) ?_
      rotate_left
      · intro W hSW
        go_simp
        try with_reducible rfl
      simp only [Act.put, List.setIfInBounds_toArray, List.set_cons_zero, List.set_cons_succ]
      refine wpAnyL_take' (i := 2) (v := ?_) (oi := { dst := some 30, op := Op.move (Operand.tmp 1), type := 3, pos := "law.go:67", after := #[], guard := none }) rfl (by kernel_rfl) (by kernel_rfl) (by kernel_rfl) (by kernel_rfl) rfl (fun _ _ _ h => h) (Or.inl ⟨by rfl, ?_⟩) (HS.out _ hbd) ?_
      rotate_left
      · intro W hSW
        go_simp
        try with_reducible rfl
      simp only [Act.put, List.setIfInBounds_toArray, List.set_cons_zero, List.set_cons_succ]
      refine wpAnyL_take' (i := 3) (v := ?_) (oi := { dst := some 31, op := Op.move (Operand.tmp 2), type := 3, pos := "law.go:67", after := #[], guard := none }) rfl (by kernel_rfl) (by kernel_rfl) (by kernel_rfl) (by kernel_rfl) rfl (fun _ _ _ h => h) (Or.inl ⟨by rfl, ?_⟩) (HS.out _ hbd) ?_
      rotate_left
      · intro W hSW
        go_simp
        try with_reducible rfl
      simp only [Act.put, List.setIfInBounds_toArray, List.set_cons_zero, List.set_cons_succ]
      refine wpAnyL_two (i := 4) (j := 9) (oi := { dst := some 32, op := Op.call { callee := Callee.value (Operand.func 27), args := #[Operand.tmp 29, Operand.tmp 30, Operand.tmp 31], argTypes := #[24, 3, 3] }, type := 35, pos := "law.go:67", after := #[{ on := 1, ground := Ground.data }, { on := 2, ground := Ground.data }, { on := 3, ground := Ground.data }], guard := none }) (oj := { dst := some 7, op := Op.alloc 24, type := 0, pos := "law.go:67", after := #[], guard := none }) (by kernel_rfl) rfl rfl rfl rfl (fun K hK => ?_) (fun K hK => ?_)
      · -- At first
        go_simp
        refine (HAT.out _ (HBW.out _ hbd)).mono ?_
        rintro e w2 ⟨⟨pa, pc, pl, pp, rfl, rfl, hpr, hpl, hpf⟩, hb2⟩
        have hbe : Below w1.heap.size w1 w2 := hbd.trans hb2
        refine hK.out _ _ (fun _ => HS.out _ hbe) ?_
        clear hK
        refine wpAnyL_two (i := 5) (j := 9) (oi := { dst := some 33, op := Op.call { callee := Callee.value (Operand.func 24), args := #[Operand.tmp 28, Operand.tmp 32], argTypes := #[24, 35] }, type := 36, pos := "law.go:67", after := #[{ on := 0, ground := Ground.data }, { on := 4, ground := Ground.data }, { on := 4, ground := Ground.chain }], guard := none }) (oj := { dst := some 7, op := Op.alloc 24, type := 0, pos := "law.go:67", after := #[], guard := none }) (by kernel_rfl) rfl rfl rfl rfl (fun K hK => ?_) (fun K hK => ?_)
        · go_simp
          refine (HFI.out _ pa pc pp (HBW.out _ hbe) hpr hpl hpf).mono ?_
          rintro e w3 ⟨⟨m, v3, rfl, hT3⟩, hb3⟩
          obtain ⟨ya, yc, hv3, _⟩ := hT3.val
          simp only [Nd.h, Nd.kids] at hv3
          subst hv3
          have hbf : Below w1.heap.size w1 w3 := hbe.trans (hb3.mono hbe.size)
          refine hK.out _ _ (fun _ => HS.out _ hbf) ?_
          clear hK
          unfold ndV
          refine wpAnyL_take' (i := 6) (v := ?_) (oi := { dst := some 27, op := Op.move (Operand.tmp 33), type := 36, pos := "law.go:67", after := #[{ on := 5, ground := Ground.data }], guard := none }) rfl (by kernel_rfl) (by kernel_rfl) (by kernel_rfl) (by kernel_rfl) rfl (fun _ _ _ h => h) (Or.inl ⟨by rfl, ?_⟩) (HS.out _ hbf) ?_
          rotate_left
          · intro W hSW
            go_simp
            try with_reducible rfl
          simp only [Act.put, List.setIfInBounds_toArray, List.set_cons_zero, List.set_cons_succ]
          refine wpAnyL_take' (i := 7) (v := ?_) (oi := { dst := some 34, op := Op.extract (Operand.tmp 27) 0, type := 24, pos := "law.go:67", after := #[{ on := 6, ground := Ground.data }], guard := none }) rfl (by kernel_rfl) (by kernel_rfl) (by kernel_rfl) (by kernel_rfl) rfl (fun _ _ _ h => h) (Or.inl ⟨by rfl, ?_⟩) (HS.out _ hbf) ?_
          rotate_left
          · intro W hSW
            go_simp
            try with_reducible rfl
          simp only [Act.put, List.setIfInBounds_toArray, List.set_cons_zero, List.set_cons_succ]
          refine wpAnyL_take' (i := 8) (v := ?_) (oi := { dst := some 35, op := Op.extract (Operand.tmp 27) 1, type := 4, pos := "law.go:67", after := #[{ on := 6, ground := Ground.data }, { on := 10, ground := Ground.gcOnly Departure.lateStores }], guard := none }) rfl (by kernel_rfl) (by kernel_rfl) (by kernel_rfl) (by kernel_rfl) rfl (fun _ _ _ h => h) (Or.inl ⟨by rfl, ?_⟩) (HS.out _ hbf) ?_
          rotate_left
          · intro W hSW
            go_simp
            try with_reducible rfl
          simp only [Act.put, List.setIfInBounds_toArray, List.set_cons_zero, List.set_cons_succ]
          have HT3 : Hid (TAt (fun _ => True) m (.mk ⟨uk, un, uf, ur, ut, ub⟩ yk) (ndV ⟨uk, un, uf, ur, ut, ub⟩ (.slice ya yk.length yc)) w3) := hT3.imp (fun _ _ _ => trivial)
          refine wpAnyL_one' (i := 9) (o := { dst := some 7, op := Op.alloc 24, type := 0, pos := "law.go:67", after := #[], guard := none }) (by kernel_rfl) rfl rfl (fun K hK => ?_)
          go_simp
          have hbz : Below w3.heap.size w3 (w3.alloc (Obj.cells #[.string ⟨#[]⟩, .bool false, .string ⟨#[]⟩, .int .i64 0, .int .i64 0, .int .i64 0, .slice none 0 0] 24)) := (Below.refl _ _).alloc (Nat.le_refl _) _
          refine hK.out _ _ (fun _ => HS.out _ (hbf.trans (hbz.mono hbf.size))) ?_
          clear hK
          refine wpAnyL_one' (i := 10) (o := { dst := none, op := Op.store 24 (Operand.tmp 7) (Operand.tmp 34), type := 0, pos := "law.go:67", after := #[{ on := 9, ground := Ground.data }, { on := 7, ground := Ground.data }, { on := 5, ground := Ground.chain }, { on := 0, ground := Ground.phase }, { on := 1, ground := Ground.phase }, { on := 2, ground := Ground.phase }, { on := 3, ground := Ground.phase }, { on := 4, ground := Ground.phase }, { on := 5, ground := Ground.phase }, { on := 6, ground := Ground.phase }, { on := 7, ground := Ground.phase }, { on := 8, ground := Ground.textOnly Departure.lateStores }, { on := 9, ground := Ground.phase }], guard := none }) (by kernel_rfl) rfl rfl (fun K hK => ?_)
          go_simp
          have hbx : (w3.alloc (Obj.cells #[Value.string uk, Value.bool un, Value.string uf, Value.int IntKind.i64 ur, Value.int IntKind.i64 ut, Value.int IntKind.i64 ub, Value.slice ya yk.length yc] 24)).heap.size = w3.heap.size + 1 := by simp
          have hb4 : Below w3.heap.size w3 (w3.alloc (Obj.cells #[Value.string uk, Value.bool un, Value.string uf, Value.int IntKind.i64 ur, Value.int IntKind.i64 ut, Value.int IntKind.i64 ub, Value.slice ya yk.length yc] 24)) := (Below.refl _ _).alloc (Nat.le_refl _) _
          refine hK.out _ _ (fun _ => HS.out _ (hbf.trans (hb4.mono hbf.size))) ?_
          clear hK
          refine wpAnyL_take' (i := 11) (v := ?_) (oi := { dst := some 8, op := Op.assign (Operand.tmp 35), type := 4, pos := "law.go:67", after := #[{ on := 8, ground := Ground.data }, { on := 10, ground := Ground.chain }, { on := 0, ground := Ground.phase }, { on := 1, ground := Ground.phase }, { on := 2, ground := Ground.phase }, { on := 3, ground := Ground.phase }, { on := 4, ground := Ground.phase }, { on := 5, ground := Ground.phase }, { on := 6, ground := Ground.phase }, { on := 7, ground := Ground.phase }, { on := 8, ground := Ground.phase }, { on := 9, ground := Ground.phase }, { on := 10, ground := Ground.phase }], guard := none }) rfl (by kernel_rfl) (by kernel_rfl) (by kernel_rfl) (by kernel_rfl) rfl (fun _ _ _ h => h) (Or.inl ⟨by rfl, ?_⟩) (HS.out _ (hbf.trans (hb4.mono hbf.size))) ?_
          rotate_left
          · intro W hSW
            go_simp
            try with_reducible rfl
          simp only [Act.put, List.setIfInBounds_toArray, List.set_cons_zero, List.set_cons_succ]
          refine wpAnyL_done (by kernel_rfl) ?_ _
          go_wp2_with fail
          go_meet
          exact ⟨w3.heap.size, m, ya, yc, rfl, rfl, by refine ⟨?_, ?_, ?_, ?_, ?_, ?_, ?_⟩ <;> simp, HT3.out.next hb4, HBW.out _ (hbf.trans (hb4.mono hbf.size))⟩
        · go_simp
          have hbz : Below w2.heap.size w2 (w2.alloc (Obj.cells #[.string ⟨#[]⟩, .bool false, .string ⟨#[]⟩, .int .i64 0, .int .i64 0, .int .i64 0, .slice none 0 0] 24)) := (Below.refl _ _).alloc (Nat.le_refl _) _
          have hbg : Below w1.heap.size w1 (w2.alloc (Obj.cells #[.string ⟨#[]⟩, .bool false, .string ⟨#[]⟩, .int .i64 0, .int .i64 0, .int .i64 0, .slice none 0 0] 24)) := hbe.trans (hbz.mono hbe.size)
          have hpr2 := hpr.next hbz
          have hkz : (w2.alloc (Obj.cells #[.string ⟨#[]⟩, .bool false, .string ⟨#[]⟩, .int .i64 0, .int .i64 0, .int .i64 0, .slice none 0 0] 24)).heap[w2.heap.size]? = some (.cells #[.string ⟨#[]⟩, .bool false, .string ⟨#[]⟩, .int .i64 0, .int .i64 0, .int .i64 0, .slice none 0 0] 24 (0, 0)) := World.alloc_heap_new w2 _
          have hkl : w2.heap.size < (w2.alloc (Obj.cells #[.string ⟨#[]⟩, .bool false, .string ⟨#[]⟩, .int .i64 0, .int .i64 0, .int .i64 0, .slice none 0 0] 24)).heap.size := by simp
          have hkb : w1.heap.size ≤ w2.heap.size := hbe.size
          generalize w2.alloc (Obj.cells #[.string ⟨#[]⟩, .bool false, .string ⟨#[]⟩, .int .i64 0, .int .i64 0, .int .i64 0, .slice none 0 0] 24) = wz at *
          generalize w2.heap.size = KB at *
          refine hK.out _ _ (fun _ => HS.out _ hbg) ?_
          clear hK
          refine wpAnyL_one' (i := 5) (o := { dst := some 33, op := Op.call { callee := Callee.value (Operand.func 24), args := #[Operand.tmp 28, Operand.tmp 32], argTypes := #[24, 35] }, type := 36, pos := "law.go:67", after := #[{ on := 0, ground := Ground.data }, { on := 4, ground := Ground.data }, { on := 4, ground := Ground.chain }], guard := none }) (by kernel_rfl) rfl rfl (fun K hK => ?_)
          go_simp
          refine (HFI.out _ pa pc pp (HBW.out _ hbg) hpr2 hpl hpf).mono ?_
          rintro e w3 ⟨⟨m, v3, rfl, hT3⟩, hb3⟩
          obtain ⟨ya, yc, hv3, _⟩ := hT3.val
          simp only [Nd.h, Nd.kids] at hv3
          subst hv3
          have hbf : Below w1.heap.size w1 w3 := hbg.trans (hb3.mono hbg.size)
          refine hK.out _ _ (fun _ => HS.out _ hbf) ?_
          clear hK
          unfold ndV
          refine wpAnyL_take' (i := 6) (v := ?_) (oi := { dst := some 27, op := Op.move (Operand.tmp 33), type := 36, pos := "law.go:67", after := #[{ on := 5, ground := Ground.data }], guard := none }) rfl (by kernel_rfl) (by kernel_rfl) (by kernel_rfl) (by kernel_rfl) rfl (fun _ _ _ h => h) (Or.inl ⟨by rfl, ?_⟩) (HS.out _ hbf) ?_
          rotate_left
          · intro W hSW
            go_simp
            try with_reducible rfl
          simp only [Act.put, List.setIfInBounds_toArray, List.set_cons_zero, List.set_cons_succ]
          refine wpAnyL_take' (i := 7) (v := ?_) (oi := { dst := some 34, op := Op.extract (Operand.tmp 27) 0, type := 24, pos := "law.go:67", after := #[{ on := 6, ground := Ground.data }], guard := none }) rfl (by kernel_rfl) (by kernel_rfl) (by kernel_rfl) (by kernel_rfl) rfl (fun _ _ _ h => h) (Or.inl ⟨by rfl, ?_⟩) (HS.out _ hbf) ?_
          rotate_left
          · intro W hSW
            go_simp
            try with_reducible rfl
          simp only [Act.put, List.setIfInBounds_toArray, List.set_cons_zero, List.set_cons_succ]
          refine wpAnyL_take' (i := 8) (v := ?_) (oi := { dst := some 35, op := Op.extract (Operand.tmp 27) 1, type := 4, pos := "law.go:67", after := #[{ on := 6, ground := Ground.data }, { on := 10, ground := Ground.gcOnly Departure.lateStores }], guard := none }) rfl (by kernel_rfl) (by kernel_rfl) (by kernel_rfl) (by kernel_rfl) rfl (fun _ _ _ h => h) (Or.inl ⟨by rfl, ?_⟩) (HS.out _ hbf) ?_
          rotate_left
          · intro W hSW
            go_simp
            try with_reducible rfl
          simp only [Act.put, List.setIfInBounds_toArray, List.set_cons_zero, List.set_cons_succ]
          have hkz3 := (hb3.block KB hkl).trans hkz
          have HT3 : Hid (TAt (fun k => k ≠ KB) m (.mk ⟨uk, un, uf, ur, ut, ub⟩ yk) (ndV ⟨uk, un, uf, ur, ut, ub⟩ (.slice ya yk.length yc)) w3) := hT3.imp (fun k _ hk e => by omega)
          have f1 : ∀ o, w3.frozen? ⟨KB, o, none⟩ = false := fun o => by simp [World.frozen?, hkz3]
          have s0 : w3.cell? ⟨KB, 0, none⟩ = some (.string ⟨#[]⟩) := by simp [World.cell?, hkz3]
          have s1 : w3.cell? ⟨KB, 1, none⟩ = some (.bool false) := by simp [World.cell?, hkz3]
          have s2 : w3.cell? ⟨KB, 2, none⟩ = some (.string ⟨#[]⟩) := by simp [World.cell?, hkz3]
          have s3 : w3.cell? ⟨KB, 3, none⟩ = some (.int .i64 0) := by simp [World.cell?, hkz3]
          have s4 : w3.cell? ⟨KB, 4, none⟩ = some (.int .i64 0) := by simp [World.cell?, hkz3]
          have s5 : w3.cell? ⟨KB, 5, none⟩ = some (.int .i64 0) := by simp [World.cell?, hkz3]
          have s6 : w3.cell? ⟨KB, 6, none⟩ = some (.slice none 0 0) := by simp [World.cell?, hkz3]
          have hkl3 : KB < w3.heap.size := Nat.lt_of_lt_of_le hkl hb3.size
          refine wpAnyL_one' (i := 10) (o := { dst := none, op := Op.store 24 (Operand.tmp 7) (Operand.tmp 34), type := 0, pos := "law.go:67", after := #[{ on := 9, ground := Ground.data }, { on := 7, ground := Ground.data }, { on := 5, ground := Ground.chain }, { on := 0, ground := Ground.phase }, { on := 1, ground := Ground.phase }, { on := 2, ground := Ground.phase }, { on := 3, ground := Ground.phase }, { on := 4, ground := Ground.phase }, { on := 5, ground := Ground.phase }, { on := 6, ground := Ground.phase }, { on := 7, ground := Ground.phase }, { on := 8, ground := Ground.textOnly Departure.lateStores }, { on := 9, ground := Ground.phase }], guard := none }) (by kernel_rfl) rfl rfl (fun K hK => ?_)
          go_simp
          have hh : (((((((w3.setCell ⟨KB, 0, none⟩ (.string uk)).setCell ⟨KB, 1, none⟩ (.bool un)).setCell ⟨KB, 2, none⟩ (.string uf)).setCell ⟨KB, 3, none⟩ (.int .i64 ur)).setCell ⟨KB, 4, none⟩ (.int .i64 ut)).setCell ⟨KB, 5, none⟩ (.int .i64 ub)).setCell ⟨KB, 6, none⟩ (.slice ya yk.length yc)).heap[KB]? = some (.cells #[.string uk, .bool un, .string uf, .int .i64 ur, .int .i64 ut, .int .i64 ub, .slice ya yk.length yc] 24 (0, 0)) := heap_set (o := 6) (.slice ya yk.length yc) (heap_set (o := 5) (.int .i64 ub) (heap_set (o := 4) (.int .i64 ut) (heap_set (o := 3) (.int .i64 ur) (heap_set (o := 2) (.string uf) (heap_set (o := 1) (.bool un) (heap_set (o := 0) (.string uk) hkz3))))))
          have hBt : But (fun k => k = KB) w3 (((((((w3.setCell ⟨KB, 0, none⟩ (.string uk)).setCell ⟨KB, 1, none⟩ (.bool un)).setCell ⟨KB, 2, none⟩ (.string uf)).setCell ⟨KB, 3, none⟩ (.int .i64 ur)).setCell ⟨KB, 4, none⟩ (.int .i64 ut)).setCell ⟨KB, 5, none⟩ (.int .i64 ub)).setCell ⟨KB, 6, none⟩ (.slice ya yk.length yc)) := (((((((But.refl (fun k => k = KB) w3).setCell _ 0 _ rfl).setCell _ 1 _ rfl).setCell _ 2 _ rfl).setCell _ 3 _ rfl).setCell _ 4 _ rfl).setCell _ 5 _ rfl).setCell _ 6 _ rfl
          have hb4 : Below w1.heap.size w1 (((((((w3.setCell ⟨KB, 0, none⟩ (.string uk)).setCell ⟨KB, 1, none⟩ (.bool un)).setCell ⟨KB, 2, none⟩ (.string uf)).setCell ⟨KB, 3, none⟩ (.int .i64 ur)).setCell ⟨KB, 4, none⟩ (.int .i64 ut)).setCell ⟨KB, 5, none⟩ (.int .i64 ub)).setCell ⟨KB, 6, none⟩ (.slice ya yk.length yc)) := hbf.trans (hBt.below hbf.size (fun k _ e => by omega))
          have hHT := HT3.out.but (fun k hk e => hk e) hBt
          have hHH : Row7 KB 0 ⟨uk, un, uf, ur, ut, ub⟩ (.slice ya yk.length yc) (((((((w3.setCell ⟨KB, 0, none⟩ (.string uk)).setCell ⟨KB, 1, none⟩ (.bool un)).setCell ⟨KB, 2, none⟩ (.string uf)).setCell ⟨KB, 3, none⟩ (.int .i64 ur)).setCell ⟨KB, 4, none⟩ (.int .i64 ut)).setCell ⟨KB, 5, none⟩ (.int .i64 ub)).setCell ⟨KB, 6, none⟩ (.slice ya yk.length yc)) := by refine ⟨?_, ?_, ?_, ?_, ?_, ?_, ?_⟩ <;> simp [World.cell?, hh]
          generalize (((((((w3.setCell ⟨KB, 0, none⟩ (.string uk)).setCell ⟨KB, 1, none⟩ (.bool un)).setCell ⟨KB, 2, none⟩ (.string uf)).setCell ⟨KB, 3, none⟩ (.int .i64 ur)).setCell ⟨KB, 4, none⟩ (.int .i64 ut)).setCell ⟨KB, 5, none⟩ (.int .i64 ub)).setCell ⟨KB, 6, none⟩ (.slice ya yk.length yc)) = w5 at *
          refine hK.out _ _ (fun _ => HS.out _ hb4) ?_
          clear hK
          refine wpAnyL_take' (i := 11) (v := ?_) (oi := { dst := some 8, op := Op.assign (Operand.tmp 35), type := 4, pos := "law.go:67", after := #[{ on := 8, ground := Ground.data }, { on := 10, ground := Ground.chain }, { on := 0, ground := Ground.phase }, { on := 1, ground := Ground.phase }, { on := 2, ground := Ground.phase }, { on := 3, ground := Ground.phase }, { on := 4, ground := Ground.phase }, { on := 5, ground := Ground.phase }, { on := 6, ground := Ground.phase }, { on := 7, ground := Ground.phase }, { on := 8, ground := Ground.phase }, { on := 9, ground := Ground.phase }, { on := 10, ground := Ground.phase }], guard := none }) rfl (by kernel_rfl) (by kernel_rfl) (by kernel_rfl) (by kernel_rfl) rfl (fun _ _ _ h => h) (Or.inl ⟨by rfl, ?_⟩) (HS.out _ hb4) ?_
          rotate_left
          · intro W hSW
            go_simp
            try with_reducible rfl
          simp only [Act.put, List.setIfInBounds_toArray, List.set_cons_zero, List.set_cons_succ]
          refine wpAnyL_done (by kernel_rfl) ?_ _
          go_wp2_with fail
          go_meet
          exact ⟨KB, m, ya, yc, rfl, rfl, hHH, hHT.imp (fun _ _ _ => trivial), HBW.out _ hb4⟩
      · go_simp
        have hbz : Below w1.drew.heap.size w1.drew (w1.drew.alloc (Obj.cells #[.string ⟨#[]⟩, .bool false, .string ⟨#[]⟩, .int .i64 0, .int .i64 0, .int .i64 0, .slice none 0 0] 24)) := (Below.refl _ _).alloc (Nat.le_refl _) _
        have hby : Below w1.heap.size w1 (w1.drew.alloc (Obj.cells #[.string ⟨#[]⟩, .bool false, .string ⟨#[]⟩, .int .i64 0, .int .i64 0, .int .i64 0, .slice none 0 0] 24)) := hbd.trans (hbz.mono hbd.size)
        have hkz0 : (w1.drew.alloc (Obj.cells #[.string ⟨#[]⟩, .bool false, .string ⟨#[]⟩, .int .i64 0, .int .i64 0, .int .i64 0, .slice none 0 0] 24)).heap[w1.heap.size]? = some (.cells #[.string ⟨#[]⟩, .bool false, .string ⟨#[]⟩, .int .i64 0, .int .i64 0, .int .i64 0, .slice none 0 0] 24 (0, 0)) := World.alloc_heap_new w1.drew _
        have hkl0 : w1.heap.size < (w1.drew.alloc (Obj.cells #[.string ⟨#[]⟩, .bool false, .string ⟨#[]⟩, .int .i64 0, .int .i64 0, .int .i64 0, .slice none 0 0] 24)).heap.size := by simp
        refine hK.out _ _ (fun _ => HS.out _ hby) ?_
        clear hK
        refine wpAnyL_one' (i := 4) (o := { dst := some 32, op := Op.call { callee := Callee.value (Operand.func 27), args := #[Operand.tmp 29, Operand.tmp 30, Operand.tmp 31], argTypes := #[24, 3, 3] }, type := 35, pos := "law.go:67", after := #[{ on := 1, ground := Ground.data }, { on := 2, ground := Ground.data }, { on := 3, ground := Ground.data }], guard := none }) (by kernel_rfl) rfl rfl (fun K hK => ?_)
        go_simp
        refine (HAT.out _ (HBW.out _ hby)).mono ?_
        rintro e w2 ⟨⟨pa, pc, pl, pp, rfl, rfl, hpr2, hpl, hpf⟩, hb2⟩
        have hbg : Below w1.heap.size w1 w2 := hby.trans (hb2.mono hby.size)
        have hkz := (hb2.block w1.heap.size hkl0).trans hkz0
        have hkl : w1.heap.size < w2.heap.size := Nat.lt_of_lt_of_le hkl0 hb2.size
        obtain ⟨KB, HKB⟩ : ∃ KB, Hid (KB = w1.heap.size) := ⟨_, rfl⟩
        have hkb : w1.heap.size ≤ KB := by have := HKB.out; omega
        rw [← HKB.out] at hkz hkl ⊢
        clear hkz0 hkl0
        refine hK.out _ _ (fun _ => HS.out _ hbg) ?_
        clear hK
        refine wpAnyL_one' (i := 5) (o := { dst := some 33, op := Op.call { callee := Callee.value (Operand.func 24), args := #[Operand.tmp 28, Operand.tmp 32], argTypes := #[24, 35] }, type := 36, pos := "law.go:67", after := #[{ on := 0, ground := Ground.data }, { on := 4, ground := Ground.data }, { on := 4, ground := Ground.chain }], guard := none }) (by kernel_rfl) rfl rfl (fun K hK => ?_)
        go_simp
        refine (HFI.out _ pa pc pp (HBW.out _ hbg) hpr2 hpl hpf).mono ?_
        rintro e w3 ⟨⟨m, v3, rfl, hT3⟩, hb3⟩
        obtain ⟨ya, yc, hv3, _⟩ := hT3.val
        simp only [Nd.h, Nd.kids] at hv3
        subst hv3
        have hbf : Below w1.heap.size w1 w3 := hbg.trans (hb3.mono hbg.size)
        refine hK.out _ _ (fun _ => HS.out _ hbf) ?_
        clear hK
        unfold ndV
        refine wpAnyL_take' (i := 6) (v := ?_) (oi := { dst := some 27, op := Op.move (Operand.tmp 33), type := 36, pos := "law.go:67", after := #[{ on := 5, ground := Ground.data }], guard := none }) rfl (by kernel_rfl) (by kernel_rfl) (by kernel_rfl) (by kernel_rfl) rfl (fun _ _ _ h => h) (Or.inl ⟨by rfl, ?_⟩) (HS.out _ hbf) ?_
        rotate_left
        · intro W hSW
          go_simp
          try with_reducible rfl
        simp only [Act.put, List.setIfInBounds_toArray, List.set_cons_zero, List.set_cons_succ]
        refine wpAnyL_take' (i := 7) (v := ?_) (oi := { dst := some 34, op := Op.extract (Operand.tmp 27) 0, type := 24, pos := "law.go:67", after := #[{ on := 6, ground := Ground.data }], guard := none }) rfl (by kernel_rfl) (by kernel_rfl) (by kernel_rfl) (by kernel_rfl) rfl (fun _ _ _ h => h) (Or.inl ⟨by rfl, ?_⟩) (HS.out _ hbf) ?_
        rotate_left
        · intro W hSW
          go_simp
          try with_reducible rfl
        simp only [Act.put, List.setIfInBounds_toArray, List.set_cons_zero, List.set_cons_succ]
        refine wpAnyL_take' (i := 8) (v := ?_) (oi := { dst := some 35, op := Op.extract (Operand.tmp 27) 1, type := 4, pos := "law.go:67", after := #[{ on := 6, ground := Ground.data }, { on := 10, ground := Ground.gcOnly Departure.lateStores }], guard := none }) rfl (by kernel_rfl) (by kernel_rfl) (by kernel_rfl) (by kernel_rfl) rfl (fun _ _ _ h => h) (Or.inl ⟨by rfl, ?_⟩) (HS.out _ hbf) ?_
        rotate_left
        · intro W hSW
          go_simp
          try with_reducible rfl
        simp only [Act.put, List.setIfInBounds_toArray, List.set_cons_zero, List.set_cons_succ]
        have hkz3 := (hb3.block KB hkl).trans hkz
        have HT3 : Hid (TAt (fun k => k ≠ KB) m (.mk ⟨uk, un, uf, ur, ut, ub⟩ yk) (ndV ⟨uk, un, uf, ur, ut, ub⟩ (.slice ya yk.length yc)) w3) := hT3.imp (fun k _ hk e => by omega)
        have f1 : ∀ o, w3.frozen? ⟨KB, o, none⟩ = false := fun o => by simp [World.frozen?, hkz3]
        have s0 : w3.cell? ⟨KB, 0, none⟩ = some (.string ⟨#[]⟩) := by simp [World.cell?, hkz3]
        have s1 : w3.cell? ⟨KB, 1, none⟩ = some (.bool false) := by simp [World.cell?, hkz3]
        have s2 : w3.cell? ⟨KB, 2, none⟩ = some (.string ⟨#[]⟩) := by simp [World.cell?, hkz3]
        have s3 : w3.cell? ⟨KB, 3, none⟩ = some (.int .i64 0) := by simp [World.cell?, hkz3]
        have s4 : w3.cell? ⟨KB, 4, none⟩ = some (.int .i64 0) := by simp [World.cell?, hkz3]
        have s5 : w3.cell? ⟨KB, 5, none⟩ = some (.int .i64 0) := by simp [World.cell?, hkz3]
        have s6 : w3.cell? ⟨KB, 6, none⟩ = some (.slice none 0 0) := by simp [World.cell?, hkz3]
        have hkl3 : KB < w3.heap.size := Nat.lt_of_lt_of_le hkl hb3.size
        refine wpAnyL_one' (i := 10) (o := { dst := none, op := Op.store 24 (Operand.tmp 7) (Operand.tmp 34), type := 0, pos := "law.go:67", after := #[{ on := 9, ground := Ground.data }, { on := 7, ground := Ground.data }, { on := 5, ground := Ground.chain }, { on := 0, ground := Ground.phase }, { on := 1, ground := Ground.phase }, { on := 2, ground := Ground.phase }, { on := 3, ground := Ground.phase }, { on := 4, ground := Ground.phase }, { on := 5, ground := Ground.phase }, { on := 6, ground := Ground.phase }, { on := 7, ground := Ground.phase }, { on := 8, ground := Ground.textOnly Departure.lateStores }, { on := 9, ground := Ground.phase }], guard := none }) (by kernel_rfl) rfl rfl (fun K hK => ?_)
        go_simp
        have hh : (((((((w3.setCell ⟨KB, 0, none⟩ (.string uk)).setCell ⟨KB, 1, none⟩ (.bool un)).setCell ⟨KB, 2, none⟩ (.string uf)).setCell ⟨KB, 3, none⟩ (.int .i64 ur)).setCell ⟨KB, 4, none⟩ (.int .i64 ut)).setCell ⟨KB, 5, none⟩ (.int .i64 ub)).setCell ⟨KB, 6, none⟩ (.slice ya yk.length yc)).heap[KB]? = some (.cells #[.string uk, .bool un, .string uf, .int .i64 ur, .int .i64 ut, .int .i64 ub, .slice ya yk.length yc] 24 (0, 0)) := heap_set (o := 6) (.slice ya yk.length yc) (heap_set (o := 5) (.int .i64 ub) (heap_set (o := 4) (.int .i64 ut) (heap_set (o := 3) (.int .i64 ur) (heap_set (o := 2) (.string uf) (heap_set (o := 1) (.bool un) (heap_set (o := 0) (.string uk) hkz3))))))
        have hBt : But (fun k => k = KB) w3 (((((((w3.setCell ⟨KB, 0, none⟩ (.string uk)).setCell ⟨KB, 1, none⟩ (.bool un)).setCell ⟨KB, 2, none⟩ (.string uf)).setCell ⟨KB, 3, none⟩ (.int .i64 ur)).setCell ⟨KB, 4, none⟩ (.int .i64 ut)).setCell ⟨KB, 5, none⟩ (.int .i64 ub)).setCell ⟨KB, 6, none⟩ (.slice ya yk.length yc)) := (((((((But.refl (fun k => k = KB) w3).setCell _ 0 _ rfl).setCell _ 1 _ rfl).setCell _ 2 _ rfl).setCell _ 3 _ rfl).setCell _ 4 _ rfl).setCell _ 5 _ rfl).setCell _ 6 _ rfl
        have hb4 : Below w1.heap.size w1 (((((((w3.setCell ⟨KB, 0, none⟩ (.string uk)).setCell ⟨KB, 1, none⟩ (.bool un)).setCell ⟨KB, 2, none⟩ (.string uf)).setCell ⟨KB, 3, none⟩ (.int .i64 ur)).setCell ⟨KB, 4, none⟩ (.int .i64 ut)).setCell ⟨KB, 5, none⟩ (.int .i64 ub)).setCell ⟨KB, 6, none⟩ (.slice ya yk.length yc)) := hbf.trans (hBt.below hbf.size (fun k _ e => by omega))
        have hHT := HT3.out.but (fun k hk e => hk e) hBt
        have hHH : Row7 KB 0 ⟨uk, un, uf, ur, ut, ub⟩ (.slice ya yk.length yc) (((((((w3.setCell ⟨KB, 0, none⟩ (.string uk)).setCell ⟨KB, 1, none⟩ (.bool un)).setCell ⟨KB, 2, none⟩ (.string uf)).setCell ⟨KB, 3, none⟩ (.int .i64 ur)).setCell ⟨KB, 4, none⟩ (.int .i64 ut)).setCell ⟨KB, 5, none⟩ (.int .i64 ub)).setCell ⟨KB, 6, none⟩ (.slice ya yk.length yc)) := by refine ⟨?_, ?_, ?_, ?_, ?_, ?_, ?_⟩ <;> simp [World.cell?, hh]
        generalize (((((((w3.setCell ⟨KB, 0, none⟩ (.string uk)).setCell ⟨KB, 1, none⟩ (.bool un)).setCell ⟨KB, 2, none⟩ (.string uf)).setCell ⟨KB, 3, none⟩ (.int .i64 ur)).setCell ⟨KB, 4, none⟩ (.int .i64 ut)).setCell ⟨KB, 5, none⟩ (.int .i64 ub)).setCell ⟨KB, 6, none⟩ (.slice ya yk.length yc)) = w5 at *
        refine hK.out _ _ (fun _ => HS.out _ hb4) ?_
        clear hK
        refine wpAnyL_take' (i := 11) (v := ?_) (oi := { dst := some 8, op := Op.assign (Operand.tmp 35), type := 4, pos := "law.go:67", after := #[{ on := 8, ground := Ground.data }, { on := 10, ground := Ground.chain }, { on := 0, ground := Ground.phase }, { on := 1, ground := Ground.phase }, { on := 2, ground := Ground.phase }, { on := 3, ground := Ground.phase }, { on := 4, ground := Ground.phase }, { on := 5, ground := Ground.phase }, { on := 6, ground := Ground.phase }, { on := 7, ground := Ground.phase }, { on := 8, ground := Ground.phase }, { on := 9, ground := Ground.phase }, { on := 10, ground := Ground.phase }], guard := none }) rfl (by kernel_rfl) (by kernel_rfl) (by kernel_rfl) (by kernel_rfl) rfl (fun _ _ _ h => h) (Or.inl ⟨by rfl, ?_⟩) (HS.out _ hb4) ?_
        rotate_left
        · intro W hSW
          go_simp
          try with_reducible rfl
        simp only [Act.put, List.setIfInBounds_toArray, List.set_cons_zero, List.set_cons_succ]
        refine wpAnyL_done (by kernel_rfl) ?_ _
        go_wp2_with fail
        go_meet
        exact ⟨KB, m, ya, yc, rfl, rfl, hHH, hHT.imp (fun _ _ _ => trivial), HBW.out _ hb4⟩
    case rest =>
      obtain ⟨K, m, ya, yc, rfl, rfl, hr7, hT, hBc⟩ := hcut
      obtain ⟨m2, _, _, _, _, hyl, hKy⟩ := TAt.succ (t := .mk ⟨uk, un, uf, ur, ut, ub⟩ yk) hT
      simp only [Nd.kids] at hyl hKy
      obtain ⟨r0, r1, r2, r3, r4, r5, r6⟩ := hr7
      simp only [Nat.zero_add] at r1 r2 r3 r4 r5 r6
      have hK0 : K < wc.heap.size := World.block_lt_of_cell? _ _ r0
      obtain ⟨hyes, hno⟩ := HY.out
      unfold hasB at hyes
      simp only [Bool.and_eq_true, decide_eq_true_eq] at hyes
      obtain ⟨y1, y2⟩ := hyes
      have y1' : ¬ f < ur := by omega
      have y2' : ¬ ut < t := by omega
      have HNO : Hid (∀ i (hi : i < yk.length), hasB yk[i].h f t = false) := hno
      have HKY : Hid (KidsAt (fun _ => True) m2 yk ya wc) := hKy
      have HAW2 : Hid (∀ W, Calls Try.prog 10 #[] W fun e w' => e = .returned (.bool true) ∧ Below W.heap.size W w') := awake_any
      clear HAT HFI HS HBW hT hKy hno HY HAW hBB1 hb1 hB0
      go_wp2_with fail
      go_loopw [53] (fun c wr => ∃ j : Nat, c = .int .i64 j ∧ j ≤ yk.length ∧ Below wc.heap.size wc wr) (fun c _ => yk.length - (intOf c).toNat)
      case atStart => exact ⟨0, rfl, Nat.zero_le _, Below.refl _ _⟩
      case round =>
        obtain ⟨j, rfl, hj, hB⟩ := hrel
        by_cases hlt : j < yk.length
        · have k1 : (j : Int) < yk.length := by omega
          obtain ⟨b, off, ka, kc, rfl, _, hb, ⟨e0, e1, e2, e3, e4, e5, e6⟩, _⟩ := HKY.out.at hB hlt
          have hnj := HNO.out j hlt
          unfold hasB at hnj
          generalize yk[j].h = sh at *
          generalize yk[j].kids.length = sk at *
          obtain ⟨xk, xn, xf, xr, xt, xb⟩ := sh
          simp only at *
          have hBk : Below wr.heap.size wr (wr.alloc (Obj.cells #[Value.string xk, Value.bool xn, Value.string xf, Value.int IntKind.i64 xr, Value.int IntKind.i64 xt, Value.int IntKind.i64 xb, Value.slice ka sk kc] 24)) := (Below.refl _ _).alloc (Nat.le_refl _) _
          by_cases q1 : xr ≤ f
          · have q2 : xt < t := by
              rw [decide_eq_true q1, Bool.true_and] at hnj
              have := of_decide_eq_false hnj
              omega
            have q3 : ¬ t ≤ xt := by omega
            clear HNO HKY HAW2 hnj
            go_wp2_with fail
            exact ⟨⟨j + 1, by go_num, by omega, below_next hB hBk⟩, by simp [intOf]; omega⟩
          · have q2 : f < xr := by omega
            clear HNO HKY HAW2 hnj
            go_wp2_with fail
            exact ⟨⟨j + 1, by go_num, by omega, below_next hB hBk⟩, by simp [intOf]; omega⟩
        · have k1 : ¬ (j : Int) < yk.length := by omega
          have haw := HAW2.out wr
          clear HNO HKY HAW2
          go_wp2_with (go_at_call 10; refine haw.mono ?_; rintro e w9 ⟨rfl, hb9⟩)
          go_ret
          exact ⟨rfl, hBc.trans ((below_next hB hb9).mono hBc.size)⟩
end Go.Proofs.Ytjcakejokkjnlaa
