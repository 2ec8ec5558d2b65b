/- Stacks: the program's Fit, where it can be. -/
import Derived.Test.YtjpbfckdiojghaaPSeek
import Derived.Test.YtjpbfckdiojghaaGFit
namespace Go.Proofs.Ytjpbfckdiojghaa
open Go.RowKit

set_option maxRecDepth 100000 in
set_option maxHeartbeats 1600000 in
theorem fitAlone_any (l : List Gn) (x : Gn) (v u : Value) (w : World) (hl : SlN l v w) (hx : SlI x.links u w) (hst : numB x.st = true) (hpl : numB x.pl = true) (hlk : lnksP l x) (_hlen : l.length ≤ 1000000) (hxl : x.links.length ≤ 1000000) :
    Calls Try.prog 38 #[.agg #[v], .agg #[.int .i64 x.st, .int .i64 x.pl, u]] w fun e w' => e = .returned (.bool true) ∧ Below w.heap.size w w' := by
  have HL : Hid (∀ W, Below w.heap.size w W → SlN l v W ∧ SlI x.links u W) := fun W hb => ⟨hl.next hb, hx.next hb⟩
  have HK : Hid (lnksP l x) := hlk
  clear hlk
  obtain ⟨la, lc, rfl, _⟩ := hl
  obtain ⟨xa, xc, rfl, _⟩ := hx
  have B0 : Below w.heap.size w ((w.alloc (Obj.cells #[.slice la l.length lc] 24)).alloc (Obj.cells #[.int .i64 x.st, .int .i64 x.pl, .slice xa x.links.length xc] 35)) := ((Below.refl _ _).alloc (Nat.le_refl _) _).alloc (by simp) _
  have p0 : ((w.alloc (Obj.cells #[.slice la l.length lc] 24)).alloc (Obj.cells #[.int .i64 x.st, .int .i64 x.pl, .slice xa x.links.length xc] 35)).cell? ⟨w.heap.size, 0, none⟩ = some (.slice la l.length lc) := by simp
  have p1 : ((w.alloc (Obj.cells #[.slice la l.length lc] 24)).alloc (Obj.cells #[.int .i64 x.st, .int .i64 x.pl, .slice xa x.links.length xc] 35)).cell? ⟨w.heap.size + 1, 0, none⟩ = some (.int .i64 x.st) := by simp
  have p2 : ((w.alloc (Obj.cells #[.slice la l.length lc] 24)).alloc (Obj.cells #[.int .i64 x.st, .int .i64 x.pl, .slice xa x.links.length xc] 35)).cell? ⟨w.heap.size + 1, 1, none⟩ = some (.int .i64 x.pl) := by simp
  have p3 : ((w.alloc (Obj.cells #[.slice la l.length lc] 24)).alloc (Obj.cells #[.int .i64 x.st, .int .i64 x.pl, .slice xa x.links.length xc] 35)).cell? ⟨w.heap.size + 1, 2, none⟩ = some (.slice xa x.links.length xc) := by simp
  have HSZ : Hid (((w.alloc (Obj.cells #[.slice la l.length lc] 24)).alloc (Obj.cells #[.int .i64 x.st, .int .i64 x.pl, .slice xa x.links.length xc] 35)).heap.size = w.heap.size + 2) := by show _ = _; simp
  have C1 := canBe_any x.st ((w.alloc (Obj.cells #[.slice la l.length lc] 24)).alloc (Obj.cells #[.int .i64 x.st, .int .i64 x.pl, .slice xa x.links.length xc] 35))
  have C2 := canBe_any x.pl ((w.alloc (Obj.cells #[.slice la l.length lc] 24)).alloc (Obj.cells #[.int .i64 x.st, .int .i64 x.pl, .slice xa x.links.length xc] 35))
  rw [hst] at C1
  rw [hpl] at C2
  clear hst hpl
  go_enter Try.func38, Try.ntmps38
  go_wp2_with fail
  refine C1.mono ?_
  rintro e w1 ⟨rfl, rfl⟩
  go_wp2_with fail
  refine C2.mono ?_
  rintro e w1 ⟨rfl, rfl⟩
  clear C1 C2
  go_wp2_with fail
  generalize ((w.alloc (Obj.cells #[.slice la l.length lc] 24)).alloc (Obj.cells #[.int .i64 x.st, .int .i64 x.pl, .slice xa x.links.length xc] 35)) = w0 at *
  have HT : Hid (∀ W, Below w0.heap.size w0 W → W.cell? ⟨w.heap.size, 0, none⟩ = some (.slice la l.length lc) ∧ W.cell? ⟨w.heap.size + 1, 1, none⟩ = some (.int .i64 x.pl) ∧ SlN l (.slice la l.length lc) W ∧ SlI x.links (.slice xa x.links.length xc) W ∧ Below w.heap.size w W) := fun W hW => by
    have hz := HSZ.out
    have hB := B0.trans (hW.mono B0.size)
    exact ⟨(hW.cell (p := ⟨w.heap.size, 0, none⟩) (by simp only; omega)).trans p0, (hW.cell (p := ⟨w.heap.size + 1, 1, none⟩) (by simp only; omega)).trans p2, (HL.out W hB).1, (HL.out W hB).2, hB⟩
  clear B0 p0 p1 p2 p3 HSZ HL
  go_loopw [5, 21] (fun av iv wr => ∃ (i : Nat) (ah : Int), iv = .int .i64 i ∧ av = .int .i64 ah ∧ i ≤ x.links.length ∧ Hid (∀ j, x.links[i]? = some j → ah < j) ∧ Below w0.heap.size w0 wr) (fun _ i _ => x.links.length - (intOf i).toNat)
  case atStart => exact ⟨0, -1, rfl, rfl, Nat.zero_le _, fun j hj => by have := (HK.out 0 j hj).1; omega, Below.refl _ _⟩
  case round =>
  obtain ⟨i, ah, rfl, rfl, hi, HA, BR⟩ := hrel
  obtain ⟨c0, c1, ⟨_, _, e0, hal, _⟩, ⟨_, _, e1, hxr, _⟩, QB⟩ := HT.out wr BR
  cases e0
  cases e1
  by_cases hlt : i < x.links.length
  case neg =>
    clear HA HK hal hxr HT
    go_wp2_with fail
    go_ret
    exact ⟨rfl, QB⟩
  obtain ⟨b3, o3, rfl, hb3, q3⟩ := hxr.at (Below.refl _ _) hlt
  have HK2 : Hid (linkP l x i x.links[i]) := HK.out i _ (by simp [hlt])
  have hk := HK2.out
  have HA2 : Hid (ah < x.links[i]) := HA.out _ (by simp [hlt])
  have HA3 : Hid (∀ j, x.links[i + 1]? = some j → x.links[i] < j) := fun j hj => by
    have := (HK.out (i + 1) j hj).2.2.2 (by omega) x.links[i] (by simp [hlt])
    exact this
  have HB : Hid (hasB l x.links[i] = true) := by show _ = _; unfold hasB; simp; exact ⟨hk.1, hk.2.1⟩
  simp only [encI] at q3
  generalize x.links[i] = lk at *
  obtain ⟨j, rfl⟩ : ∃ j : Nat, lk = j := ⟨lk.toNat, by have := hk.1; omega⟩
  have hj : j < l.length := by have := hk.2.1; omega
  obtain ⟨b2, o2, u2, rfl, hb2, q0, q1, q2, _⟩ := hal.at (Below.refl _ _) hj
  have HP : Hid (l[j].pl ≤ x.pl) := hk.2.2.1 _ (by simp [hj])
  generalize l[j].pl = yp at *
  have d1 : decide ((j : Int) ≤ ah) = false := decide_eq_false (by have := HA2.out; omega)
  have d2 : decide (yp > x.pl) = false := decide_eq_false (by have := HP.out; omega)
  clear hk hal hxr
  go_upto_region 7 with fail
  have HBD : Hid (Below wr.heap.size wr wr.drew) := below_drewN (Below.refl _ _) 1
  have HS : wr.drew.cell? ⟨w.heap.size, 0, none⟩ = some (.slice (some ⟨b2, o2, none⟩) l.length lc) ∧ wr.drew.cell? ⟨w.heap.size + 1, 1, none⟩ = some (.int .i64 x.pl) ∧ wr.drew.cell? ⟨b2, o2 + j * 3 + 1, none⟩ = some (.int .i64 yp) := ⟨c0, c1, q1⟩
  have HS1 : Hid (∀ V, Below wr.heap.size wr V → (V.cell? ⟨w.heap.size, 0, none⟩ = some (.slice (some ⟨b2, o2, none⟩) l.length lc) ∧ V.cell? ⟨w.heap.size + 1, 1, none⟩ = some (.int .i64 x.pl) ∧ V.cell? ⟨b2, o2 + j * 3 + 1, none⟩ = some (.int .i64 yp)) ∧ Below w0.heap.size w0 V) := fun V hV => ⟨⟨(hV.cell (p := ⟨w.heap.size, 0, none⟩) (World.block_lt_of_cell? _ _ c0)).trans c0, (hV.cell (p := ⟨w.heap.size + 1, 1, none⟩) (World.block_lt_of_cell? _ _ c1)).trans c1, (hV.cell (p := ⟨b2, o2 + j * 3 + 1, none⟩) hb2).trans q1⟩, BR.trans (hV.mono BR.size)⟩
  have HC := has_any (some ⟨b2, o2, none⟩) l lc j wr.drew
  rw [HB.out] at HC
  clear c0 c1 q0 q1 q2 q3 hb2 hb3 BR QB HB HP HK2 HA HA2
  refine wp_region_L (fun W => W.cell? ⟨w.heap.size, 0, none⟩ = some (.slice (some ⟨b2, o2, none⟩) l.length lc) ∧ W.cell? ⟨w.heap.size + 1, 1, none⟩ = some (.int .i64 x.pl) ∧ W.cell? ⟨b2, o2 + j * 3 + 1, none⟩ = some (.int .i64 yp)) 20 (by kernel_rfl) 20 rfl ?_
  refine wpAnyL_take' (i := 0) (v := ?_) (oi := { dst := some 25, op := Op.move (Operand.tmp 7), type := 3, pos := "spot.go:50", after := #[], guard := none }) rfl (by kernel_rfl) (by kernel_rfl) (by kernel_rfl) (by kernel_rfl) rfl (fun _ _ _ h => h) (Or.inl ⟨by rfl, ?_⟩) HS ?_
  rotate_left
  · intro W hSW
    go_simp
    try with_reducible rfl
  simp only [Act.put, List.setIfInBounds_toArray, List.set_cons_zero, List.set_cons_succ]
  refine wpAnyL_take' (i := 1) (v := ?_) (oi := { dst := some 26, op := Op.move (Operand.tmp 5), type := 3, pos := "spot.go:50", after := #[], guard := none }) rfl (by kernel_rfl) (by kernel_rfl) (by kernel_rfl) (by kernel_rfl) rfl (fun _ _ _ h => h) (Or.inl ⟨by rfl, ?_⟩) HS ?_
  rotate_left
  · intro W hSW
    go_simp
    try with_reducible rfl
  simp only [Act.put, List.setIfInBounds_toArray, List.set_cons_zero, List.set_cons_succ]
  refine wpAnyL_take' (i := 2) (v := ?_) (oi := { dst := some 27, op := Op.binOp BinOp.leq 3 (Operand.tmp 25) (Operand.tmp 26) 3, type := 4, pos := "spot.go:50", after := #[{ on := 0, ground := Ground.data }, { on := 1, ground := Ground.data }], guard := none }) rfl (by kernel_rfl) (by kernel_rfl) (by kernel_rfl) (by kernel_rfl) rfl (fun _ _ _ h => h) (Or.inl ⟨by rfl, ?_⟩) HS ?_
  rotate_left
  · intro W hSW
    go_simp
    try with_reducible rfl
  simp only [Act.put, List.setIfInBounds_toArray, List.set_cons_zero, List.set_cons_succ]
  refine wpAnyL_take' (i := 3) (v := ?_) (oi := { dst := some 28, op := Op.move (Operand.tmp 27), type := 4, pos := "spot.go:50", after := #[{ on := 2, ground := Ground.data }], guard := none }) rfl (by kernel_rfl) (by kernel_rfl) (by kernel_rfl) (by kernel_rfl) rfl (fun _ _ _ h => h) (Or.inl ⟨by rfl, ?_⟩) HS ?_
  rotate_left
  · intro W hSW
    go_simp
    try with_reducible rfl
  simp only [Act.put, List.setIfInBounds_toArray, List.set_cons_zero, List.set_cons_succ]
  refine wpAnyL_take' (i := 4) (v := ?_) (oi := { dst := some 29, op := Op.load 24 (Operand.tmp 2), type := 24, pos := "spot.go:50", after := #[{ on := 3, ground := Ground.guard }], guard := some (3, false) }) rfl (by kernel_rfl) (by kernel_rfl) (by kernel_rfl) (by kernel_rfl) rfl (fun _ _ _ h => h) (Or.inl ⟨by rfl, ?_⟩) HS ?_
  rotate_left
  · intro W hSW
    go_simp
    try with_reducible rfl
  simp only [Act.put, List.setIfInBounds_toArray, List.set_cons_zero, List.set_cons_succ]
  refine wpAnyL_take' (i := 5) (v := ?_) (oi := { dst := some 30, op := Op.move (Operand.tmp 7), type := 3, pos := "spot.go:50", after := #[{ on := 3, ground := Ground.guard }], guard := some (3, false) }) rfl (by kernel_rfl) (by kernel_rfl) (by kernel_rfl) (by kernel_rfl) rfl (fun _ _ _ h => h) (Or.inl ⟨by rfl, ?_⟩) HS ?_
  rotate_left
  · intro W hSW
    go_simp
    try with_reducible rfl
  simp only [Act.put, List.setIfInBounds_toArray, List.set_cons_zero, List.set_cons_succ]
  refine wpAnyL_one' (i := 6) (o := { dst := some 31, op := Op.call { callee := Callee.value (Operand.func 21), args := #[Operand.tmp 29, Operand.tmp 30], argTypes := #[24, 3] }, type := 4, pos := "spot.go:50", after := #[{ on := 4, ground := Ground.data }, { on := 5, ground := Ground.data }, { on := 3, ground := Ground.chain }, { on := 3, ground := Ground.guard }], guard := some (3, false) }) (by kernel_rfl) rfl rfl (fun K hK => ?_)
  go_simp
  refine (HC).mono ?_
  rintro e w2 ⟨rfl, hb2⟩
  refine hK.out _ _ (fun _ => (HS1.out _ (HBD.out.trans ((show Below wr.drew.heap.size wr.drew w2 by rw [hb2]; exact (Below.refl _ _).alloc (Nat.le_refl _) _).mono HBD.out.size))).1) ?_
  clear hK
  obtain ⟨HS2, BW⟩ := HS1.out _ (HBD.out.trans ((show Below wr.drew.heap.size wr.drew w2 by rw [hb2]; exact (Below.refl _ _).alloc (Nat.le_refl _) _).mono HBD.out.size))
  clear HS hb2 HS1 HBD HC
  refine wpAnyL_take' (i := 7) (v := ?_) (oi := { dst := some 32, op := Op.unOp UnOp.not 4 (Operand.tmp 31), type := 4, pos := "spot.go:50", after := #[{ on := 6, ground := Ground.data }, { on := 3, ground := Ground.guard }], guard := some (3, false) }) rfl (by kernel_rfl) (by kernel_rfl) (by kernel_rfl) (by kernel_rfl) rfl (fun _ _ _ h => h) (Or.inl ⟨by rfl, ?_⟩) HS2 ?_
  rotate_left
  · intro W hSW
    go_simp
    try with_reducible rfl
  simp only [Act.put, List.setIfInBounds_toArray, List.set_cons_zero, List.set_cons_succ]
  refine wpAnyL_take' (i := 8) (v := ?_) (oi := { dst := some 33, op := Op.pick (Operand.tmp 28) (Operand.const (Value.bool true)) (Operand.tmp 32), type := 4, pos := "spot.go:50", after := #[{ on := 3, ground := Ground.data }, { on := 7, ground := Ground.data }], guard := none }) rfl (by kernel_rfl) (by kernel_rfl) (by kernel_rfl) (by kernel_rfl) rfl (fun _ _ _ h => h) (Or.inl ⟨by rfl, ?_⟩) HS2 ?_
  rotate_left
  · intro W hSW
    go_simp
    try with_reducible rfl
  simp only [Act.put, List.setIfInBounds_toArray, List.set_cons_zero, List.set_cons_succ]
  refine wpAnyL_take' (i := 9) (v := ?_) (oi := { dst := some 34, op := Op.move (Operand.tmp 33), type := 4, pos := "spot.go:50", after := #[{ on := 8, ground := Ground.data }, { on := 6, ground := Ground.chain }], guard := none }) rfl (by kernel_rfl) (by kernel_rfl) (by kernel_rfl) (by kernel_rfl) rfl (fun _ _ _ h => h) (Or.inl ⟨by rfl, ?_⟩) HS2 ?_
  rotate_left
  · intro W hSW
    go_simp
    try with_reducible rfl
  simp only [Act.put, List.setIfInBounds_toArray, List.set_cons_zero, List.set_cons_succ]
  refine wpAnyL_take' (i := 10) (v := ?_) (oi := { dst := some 35, op := Op.fieldAddr 24 (Operand.tmp 2) 0, type := 0, pos := "spot.go:50", after := #[{ on := 9, ground := Ground.guard }], guard := some (9, false) }) rfl (by kernel_rfl) (by kernel_rfl) (by kernel_rfl) (by kernel_rfl) rfl (fun _ _ _ h => h) (Or.inl ⟨by rfl, ?_⟩) HS2 ?_
  rotate_left
  · intro W hSW
    go_simp
    try with_reducible rfl
  simp only [Act.put, List.setIfInBounds_toArray, List.set_cons_zero, List.set_cons_succ]
  refine wpAnyL_take' (i := 11) (v := ?_) (oi := { dst := some 36, op := Op.load 22 (Operand.tmp 35), type := 22, pos := "spot.go:50", after := #[{ on := 10, ground := Ground.data }, { on := 9, ground := Ground.guard }], guard := some (9, false) }) rfl (by kernel_rfl) (by kernel_rfl) (by kernel_rfl) (by kernel_rfl) rfl (fun _ _ _ h => h) (Or.inl ⟨by rfl, ?_⟩) HS2 ?_
  rotate_left
  · intro W hSW
    go_simp
    try with_reducible rfl
  simp only [Act.put, List.setIfInBounds_toArray, List.set_cons_zero, List.set_cons_succ]
  refine wpAnyL_take' (i := 12) (v := ?_) (oi := { dst := some 37, op := Op.move (Operand.tmp 7), type := 3, pos := "spot.go:50", after := #[{ on := 9, ground := Ground.guard }], guard := some (9, false) }) rfl (by kernel_rfl) (by kernel_rfl) (by kernel_rfl) (by kernel_rfl) rfl (fun _ _ _ h => h) (Or.inl ⟨by rfl, ?_⟩) HS2 ?_
  rotate_left
  · intro W hSW
    go_simp
    try with_reducible rfl
  simp only [Act.put, List.setIfInBounds_toArray, List.set_cons_zero, List.set_cons_succ]
  refine wpAnyL_take' (i := 13) (v := ?_) (oi := { dst := some 38, op := Op.indexAddr 22 (Operand.tmp 36) (Operand.tmp 37), type := 0, pos := "spot.go:50", after := #[{ on := 11, ground := Ground.data }, { on := 12, ground := Ground.data }, { on := 9, ground := Ground.guard }], guard := some (9, false) }) rfl (by kernel_rfl) (by kernel_rfl) (by kernel_rfl) (by kernel_rfl) rfl (fun _ _ _ h => h) (Or.inl ⟨by rfl, ?_⟩) HS2 ?_
  rotate_left
  · intro W hSW
    go_simp
    try with_reducible rfl
  simp only [Act.put, List.setIfInBounds_toArray, List.set_cons_zero, List.set_cons_succ]
  refine wpAnyL_take' (i := 14) (v := ?_) (oi := { dst := some 39, op := Op.fieldAddr 35 (Operand.tmp 38) 1, type := 0, pos := "spot.go:50", after := #[{ on := 13, ground := Ground.data }, { on := 9, ground := Ground.guard }], guard := some (9, false) }) rfl (by kernel_rfl) (by kernel_rfl) (by kernel_rfl) (by kernel_rfl) rfl (fun _ _ _ h => h) (Or.inl ⟨by rfl, ?_⟩) HS2 ?_
  rotate_left
  · intro W hSW
    go_simp
    try with_reducible rfl
  simp only [Act.put, List.setIfInBounds_toArray, List.set_cons_zero, List.set_cons_succ]
  refine wpAnyL_take' (i := 15) (v := ?_) (oi := { dst := some 40, op := Op.load 3 (Operand.tmp 39), type := 3, pos := "spot.go:50", after := #[{ on := 14, ground := Ground.data }, { on := 9, ground := Ground.guard }], guard := some (9, false) }) rfl (by kernel_rfl) (by kernel_rfl) (by kernel_rfl) (by kernel_rfl) rfl (fun _ _ _ h => h) (Or.inl ⟨by rfl, ?_⟩) HS2 ?_
  rotate_left
  · intro W hSW
    go_simp
    try with_reducible rfl
  simp only [Act.put, List.setIfInBounds_toArray, List.set_cons_zero, List.set_cons_succ]
  refine wpAnyL_take' (i := 16) (v := ?_) (oi := { dst := some 41, op := Op.fieldAddr 35 (Operand.tmp 3) 1, type := 0, pos := "spot.go:50", after := #[{ on := 9, ground := Ground.guard }], guard := some (9, false) }) rfl (by kernel_rfl) (by kernel_rfl) (by kernel_rfl) (by kernel_rfl) rfl (fun _ _ _ h => h) (Or.inl ⟨by rfl, ?_⟩) HS2 ?_
  rotate_left
  · intro W hSW
    go_simp
    try with_reducible rfl
  simp only [Act.put, List.setIfInBounds_toArray, List.set_cons_zero, List.set_cons_succ]
  refine wpAnyL_take' (i := 17) (v := ?_) (oi := { dst := some 42, op := Op.load 3 (Operand.tmp 41), type := 3, pos := "spot.go:50", after := #[{ on := 16, ground := Ground.data }, { on := 9, ground := Ground.guard }], guard := some (9, false) }) rfl (by kernel_rfl) (by kernel_rfl) (by kernel_rfl) (by kernel_rfl) rfl (fun _ _ _ h => h) (Or.inl ⟨by rfl, ?_⟩) HS2 ?_
  rotate_left
  · intro W hSW
    go_simp
    try with_reducible rfl
  simp only [Act.put, List.setIfInBounds_toArray, List.set_cons_zero, List.set_cons_succ]
  refine wpAnyL_take' (i := 18) (v := ?_) (oi := { dst := some 43, op := Op.binOp BinOp.gtr 3 (Operand.tmp 40) (Operand.tmp 42) 3, type := 4, pos := "spot.go:50", after := #[{ on := 15, ground := Ground.data }, { on := 17, ground := Ground.data }, { on := 9, ground := Ground.guard }], guard := some (9, false) }) rfl (by kernel_rfl) (by kernel_rfl) (by kernel_rfl) (by kernel_rfl) rfl (fun _ _ _ h => h) (Or.inl ⟨by rfl, ?_⟩) HS2 ?_
  rotate_left
  · intro W hSW
    go_simp
    try with_reducible rfl
  simp only [Act.put, List.setIfInBounds_toArray, List.set_cons_zero, List.set_cons_succ]
  refine wpAnyL_take' (i := 19) (v := ?_) (oi := { dst := some 44, op := Op.pick (Operand.tmp 34) (Operand.const (Value.bool true)) (Operand.tmp 43), type := 4, pos := "spot.go:50", after := #[{ on := 9, ground := Ground.data }, { on := 18, ground := Ground.data }], guard := none }) rfl (by kernel_rfl) (by kernel_rfl) (by kernel_rfl) (by kernel_rfl) rfl (fun _ _ _ h => h) (Or.inl ⟨by rfl, ?_⟩) HS2 ?_
  rotate_left
  · intro W hSW
    go_simp
    try with_reducible rfl
  simp only [Act.put, List.setIfInBounds_toArray, List.set_cons_zero, List.set_cons_succ]
  refine wpAnyL_done (by kernel_rfl) ?_ _
  go_wp2_with fail
  exact ⟨⟨i + 1, _, by go_num, rfl, by omega, HA3, BW⟩, by simp [intOf]; omega⟩

theorem befB_lt {a b : Gn} : befB a b = true ↔ ltS (spG a) (spG b) := by unfold befB ltS spG; simp
theorem fitP.up {l : List Gn} (h : fitP l) : UpG l := by
  unfold UpG
  rw [List.pairwise_iff_getElem]
  have step : ∀ k (hk : k + 1 < l.length), ltS (spG (l[k]'(by omega))) (spG l[k + 1]) := fun k hk => by
    have h1 := (h.2 (k + 1) l[k + 1] (by simp [hk])).1.2.2 (by omega) (l[k]'(by omega)) (by simp [show k < l.length by omega])
    exact befB_lt.1 h1
  intro i j hi hj hij
  obtain ⟨d, rfl⟩ : ∃ d, j = i + 1 + d := ⟨j - i - 1, by omega⟩
  clear hij
  induction d with
  | zero => exact step i hj
  | succ d ih => exact ltS_trans (ih (by omega)) (step (i + 1 + d) hj)
set_option maxRecDepth 100000 in
set_option maxHeartbeats 3200000 in
theorem fit_yes (l : List Gn) (v : Value) (w : World) (hl : SlN l v w) (hf : fitP l) (hlk : linksOk l) :
    Calls Try.prog 19 #[.agg #[v]] w fun e w' => e = .returned (.bool true) ∧ Below w.heap.size w w' := by
  have HL : Hid (∀ W, Below w.heap.size w W → SlN l v W) := fun W hb => hl.next hb
  have HF : Hid (fitP l ∧ linksOk l) := ⟨hf, hlk⟩
  have hlen := hf.1
  clear hf hlk
  obtain ⟨la, lc, rfl, _⟩ := hl
  have B0 := below_box w (.slice la l.length lc) 24
  have b0 : (w.alloc (Obj.cells #[.slice la l.length lc] 24)).heap[w.heap.size]? = some (Obj.cells #[.slice la l.length lc] 24) := heap_alloc_new _ _
  go_enter Try.func19, Try.ntmps19
  go_wp2_with fail
  generalize w.alloc (Obj.cells #[.slice la l.length lc] 24) = w0 at *
  have hz := blk_lt b0
  have HT : Hid (∀ W, Below w0.heap.size w0 W → W.cell? ⟨w.heap.size, 0, none⟩ = some (.slice la l.length lc) ∧ SlN l (.slice la l.length lc) W ∧ Below w.heap.size w W) := fun W hW => ⟨(hW.cell (p := ⟨w.heap.size, 0, none⟩) hz).trans (by rw [Lib.cell_of_heap b0]; rfl), HL.out W (B0.trans (hW.mono B0.size)), B0.trans (hW.mono B0.size)⟩
  clear B0 b0 HL
  go_loopw [12] (fun iv wr => ∃ (i : Nat), iv = .int .i64 i ∧ i ≤ l.length ∧ Below w0.heap.size w0 wr) (fun i _ => l.length - (intOf i).toNat)
  case atStart => exact ⟨0, rfl, Nat.zero_le _, Below.refl _ _⟩
  case round =>
  obtain ⟨i, rfl, hi, BR⟩ := hrel
  obtain ⟨c0, hsl, QB⟩ := HT.out wr BR
  by_cases hlt : i < l.length
  case neg =>
    clear HF HT hsl
    go_wp2_with fail
    go_ret
    exact ⟨rfl, QB⟩
  obtain ⟨_, _, e0, hal, _⟩ := id hsl
  cases e0
  obtain ⟨b2, o2, u, rfl, hb2, q0, q1, q2, hsx, _, _, _⟩ := hal.at (Below.refl _ _) hlt
  have HN : Hid (nodeP l i l[i] ∧ lnksP l l[i] ∧ l[i].links.length ≤ 1000000) := ⟨(HF.out.1.2 i l[i] (by simp [hlt])).1, (HF.out.1.2 i l[i] (by simp [hlt])).2, HF.out.2 _ (List.getElem_mem hlt)⟩
  generalize l[i] = x at *
  have bx : Below wr.heap.size wr (wr.alloc (Obj.cells #[.int .i64 x.st, .int .i64 x.pl, u] 35)) := (Below.refl _ _).alloc (Nat.le_refl _) _
  have x0 : (wr.alloc (Obj.cells #[.int .i64 x.st, .int .i64 x.pl, u] 35)).cell? ⟨wr.heap.size, 0, none⟩ = some (.int .i64 x.st) := by simp
  have x1 : (wr.alloc (Obj.cells #[.int .i64 x.st, .int .i64 x.pl, u] 35)).cell? ⟨wr.heap.size, 1, none⟩ = some (.int .i64 x.pl) := by simp
  have x2 : (wr.alloc (Obj.cells #[.int .i64 x.st, .int .i64 x.pl, u] 35)).cell? ⟨wr.heap.size, 2, none⟩ = some u := by simp
  have xl : wr.heap.size < (wr.alloc (Obj.cells #[.int .i64 x.st, .int .i64 x.pl, u] 35)).heap.size := by simp
  have d1 : (wr.alloc (Obj.cells #[.int .i64 x.st, .int .i64 x.pl, u] 35)).cell? ⟨w.heap.size, 0, none⟩ = some (.slice (some ⟨b2, o2, none⟩) l.length lc) := cell_new c0
  have HSL : Hid (SlN l (.slice (some ⟨b2, o2, none⟩) l.length lc) (wr.alloc (Obj.cells #[.int .i64 x.st, .int .i64 x.pl, u] 35)).drew ∧ SlI x.links u (wr.alloc (Obj.cells #[.int .i64 x.st, .int .i64 x.pl, u] 35)).drew ∧ Below w0.heap.size w0 (wr.alloc (Obj.cells #[.int .i64 x.st, .int .i64 x.pl, u] 35)).drew) := ⟨hsl.next (below_drewN bx 1), hsx.next (below_drewN bx 1), BR.trans ((below_drewN bx 1).mono BR.size)⟩
  obtain ⟨xa, xc, rfl⟩ : ∃ xa xc, u = .slice xa x.links.length xc := hsx.imp fun _ h => h.imp fun _ h => h.1
  clear hsl hsx
  by_cases hi0 : i = 0
  · subst hi0
    clear hal
    simp only [Nat.zero_mul, Nat.add_zero] at q0 q1 q2
    go_upto_region 6 with fail
    obtain ⟨rb, hrb⟩ : ∃ rb, wr.heap.size = rb := ⟨_, rfl⟩
    rw [hrb] at x0 x1 x2 xl
    try simp only [hrb]
    generalize wr.alloc (Obj.cells #[.int .i64 x.st, .int .i64 x.pl, .slice xa x.links.length xc] 35) = wx at *
    have HS : wx.drew.cell? ⟨w.heap.size, 0, none⟩ = some (.slice (some ⟨b2, o2, none⟩) l.length lc) ∧ wx.drew.cell? ⟨rb, 0, none⟩ = some (.int .i64 x.st) ∧ wx.drew.cell? ⟨rb, 1, none⟩ = some (.int .i64 x.pl) ∧ wx.drew.cell? ⟨rb, 2, none⟩ = some (.slice xa x.links.length xc) := ⟨d1, x0, x1, x2⟩
    have HC := fitAlone_any l x _ _ wx.drew HSL.out.1 HSL.out.2.1 HN.out.1.1 HN.out.1.2.1 HN.out.2.1 (by omega) HN.out.2.2
    have HS1 : Hid (∀ V, Below wx.drew.heap.size wx.drew V → (V.cell? ⟨w.heap.size, 0, none⟩ = some (.slice (some ⟨b2, o2, none⟩) l.length lc) ∧ V.cell? ⟨rb, 0, none⟩ = some (.int .i64 x.st) ∧ V.cell? ⟨rb, 1, none⟩ = some (.int .i64 x.pl) ∧ V.cell? ⟨rb, 2, none⟩ = some (.slice xa x.links.length xc)) ∧ Below w0.heap.size w0 V) := fun V hV => ⟨⟨(hV.cell (p := ⟨w.heap.size, 0, none⟩) (World.block_lt_of_cell? _ _ d1)).trans d1, (hV.cell (p := ⟨rb, 0, none⟩) xl).trans x0, (hV.cell (p := ⟨rb, 1, none⟩) xl).trans x1, (hV.cell (p := ⟨rb, 2, none⟩) xl).trans x2⟩, HSL.out.2.2.trans (hV.mono HSL.out.2.2.size)⟩
    clear d1 x0 x1 x2 xl hb2 BR QB bx hrb q0 q1 q2 c0
    refine wp_region_L (fun W => W.cell? ⟨w.heap.size, 0, none⟩ = some (.slice (some ⟨b2, o2, none⟩) l.length lc) ∧ W.cell? ⟨rb, 0, none⟩ = some (.int .i64 x.st) ∧ W.cell? ⟨rb, 1, none⟩ = some (.int .i64 x.pl) ∧ W.cell? ⟨rb, 2, none⟩ = some (.slice xa x.links.length xc)) 21 (by kernel_rfl) 21 rfl ?_
    refine wpAnyL_take' (i := 0) (v := ?_) (oi := { dst := some 17, op := Op.load 24 (Operand.tmp 1), type := 24, pos := "gss.go:24", after := #[], guard := none }) rfl (by kernel_rfl) (by kernel_rfl) (by kernel_rfl) (by kernel_rfl) rfl (fun _ _ _ h => h) (Or.inl ⟨by rfl, ?_⟩) HS ?_
    rotate_left
    · intro W hSW
      go_simp
      try with_reducible rfl
    simp only [Act.put, List.setIfInBounds_toArray, List.set_cons_zero, List.set_cons_succ]
    refine wpAnyL_take' (i := 1) (v := ?_) (oi := { dst := some 18, op := Op.load 35 (Operand.tmp 4), type := 35, pos := "gss.go:24", after := #[], guard := none }) rfl (by kernel_rfl) (by kernel_rfl) (by kernel_rfl) (by kernel_rfl) rfl (fun _ _ _ h => h) (Or.inl ⟨by rfl, ?_⟩) HS ?_
    rotate_left
    · intro W hSW
      go_simp
      try with_reducible rfl
    simp only [Act.put, List.setIfInBounds_toArray, List.set_cons_zero, List.set_cons_succ]
    refine wpAnyL_one' (i := 2) (o := { dst := some 19, op := Op.call { callee := Callee.value (Operand.func 38), args := #[Operand.tmp 17, Operand.tmp 18], argTypes := #[24, 35] }, type := 4, pos := "gss.go:24", after := #[{ on := 0, ground := Ground.data }, { on := 1, ground := Ground.data }], guard := none }) (by kernel_rfl) rfl rfl (fun K hK => ?_)
    go_simp
    refine (HC).mono ?_
    rintro e w2 ⟨rfl, hb2⟩
    refine hK.out _ _ (fun _ => (HS1.out _ hb2).1) ?_
    clear hK
    obtain ⟨HS2, BW⟩ := HS1.out _ hb2
    clear HS hb2 HS1 HC
    refine wpAnyL_take' (i := 3) (v := ?_) (oi := { dst := some 20, op := Op.unOp UnOp.not 4 (Operand.tmp 19), type := 4, pos := "gss.go:24", after := #[{ on := 2, ground := Ground.data }], guard := none }) rfl (by kernel_rfl) (by kernel_rfl) (by kernel_rfl) (by kernel_rfl) rfl (fun _ _ _ h => h) (Or.inl ⟨by rfl, ?_⟩) HS2 ?_
    rotate_left
    · intro W hSW
      go_simp
      try with_reducible rfl
    simp only [Act.put, List.setIfInBounds_toArray, List.set_cons_zero, List.set_cons_succ]
    refine wpAnyL_take' (i := 4) (v := ?_) (oi := { dst := some 21, op := Op.move (Operand.tmp 20), type := 4, pos := "gss.go:24", after := #[{ on := 3, ground := Ground.data }, { on := 2, ground := Ground.chain }], guard := none }) rfl (by kernel_rfl) (by kernel_rfl) (by kernel_rfl) (by kernel_rfl) rfl (fun _ _ _ h => h) (Or.inl ⟨by rfl, ?_⟩) HS2 ?_
    rotate_left
    · intro W hSW
      go_simp
      try with_reducible rfl
    simp only [Act.put, List.setIfInBounds_toArray, List.set_cons_zero, List.set_cons_succ]
    refine wpAnyL_take' (i := 5) (v := ?_) (oi := { dst := some 22, op := Op.move (Operand.tmp 3), type := 3, pos := "gss.go:24", after := #[{ on := 4, ground := Ground.guard }], guard := some (4, false) }) rfl (by kernel_rfl) (by kernel_rfl) (by kernel_rfl) (by kernel_rfl) rfl (fun _ _ _ h => h) (Or.inl ⟨by rfl, ?_⟩) HS2 ?_
    rotate_left
    · intro W hSW
      go_simp
      try with_reducible rfl
    simp only [Act.put, List.setIfInBounds_toArray, List.set_cons_zero, List.set_cons_succ]
    refine wpAnyL_take' (i := 6) (v := ?_) (oi := { dst := some 23, op := Op.binOp BinOp.gtr 3 (Operand.tmp 22) (Operand.const (Value.int IntKind.i64 0)) 3, type := 4, pos := "gss.go:24", after := #[{ on := 5, ground := Ground.data }, { on := 4, ground := Ground.guard }], guard := some (4, false) }) rfl (by kernel_rfl) (by kernel_rfl) (by kernel_rfl) (by kernel_rfl) rfl (fun _ _ _ h => h) (Or.inl ⟨by rfl, ?_⟩) HS2 ?_
    rotate_left
    · intro W hSW
      go_simp
      try with_reducible rfl
    simp only [Act.put, List.setIfInBounds_toArray, List.set_cons_zero, List.set_cons_succ]
    refine wpAnyL_take' (i := 7) (v := ?_) (oi := { dst := some 24, op := Op.move (Operand.tmp 23), type := 4, pos := "gss.go:24", after := #[{ on := 6, ground := Ground.data }, { on := 4, ground := Ground.chain }, { on := 4, ground := Ground.guard }], guard := some (4, false) }) rfl (by kernel_rfl) (by kernel_rfl) (by kernel_rfl) (by kernel_rfl) rfl (fun _ _ _ h => h) (Or.inl ⟨by rfl, ?_⟩) HS2 ?_
    rotate_left
    · intro W hSW
      go_simp
      try with_reducible rfl
    simp only [Act.put, List.setIfInBounds_toArray, List.set_cons_zero, List.set_cons_succ]
    refine wpAnyL_take' (i := 8) (v := undef) (oi := { dst := some 25, op := Op.fieldAddr 24 (Operand.tmp 1) 0, type := 0, pos := "gss.go:24", after := #[{ on := 7, ground := Ground.guard }], guard := some (7, true) }) rfl (by kernel_rfl) (by kernel_rfl) (by kernel_rfl) (by kernel_rfl) rfl (fun _ _ _ h => h) (Or.inr ⟨by rfl, rfl⟩) HS2 ?_
    simp only [Act.put, List.setIfInBounds_toArray, List.set_cons_zero, List.set_cons_succ]
    refine wpAnyL_take' (i := 9) (v := undef) (oi := { dst := some 26, op := Op.load 22 (Operand.tmp 25), type := 22, pos := "gss.go:24", after := #[{ on := 8, ground := Ground.data }, { on := 7, ground := Ground.guard }], guard := some (7, true) }) rfl (by kernel_rfl) (by kernel_rfl) (by kernel_rfl) (by kernel_rfl) rfl (fun _ _ _ h => h) (Or.inr ⟨by rfl, rfl⟩) HS2 ?_
    simp only [Act.put, List.setIfInBounds_toArray, List.set_cons_zero, List.set_cons_succ]
    refine wpAnyL_take' (i := 10) (v := undef) (oi := { dst := some 27, op := Op.move (Operand.tmp 3), type := 3, pos := "gss.go:24", after := #[{ on := 7, ground := Ground.guard }], guard := some (7, true) }) rfl (by kernel_rfl) (by kernel_rfl) (by kernel_rfl) (by kernel_rfl) rfl (fun _ _ _ h => h) (Or.inr ⟨by rfl, rfl⟩) HS2 ?_
    simp only [Act.put, List.setIfInBounds_toArray, List.set_cons_zero, List.set_cons_succ]
    refine wpAnyL_take' (i := 11) (v := undef) (oi := { dst := some 28, op := Op.binOp BinOp.sub 3 (Operand.tmp 27) (Operand.const (Value.int IntKind.i64 1)) 3, type := 3, pos := "gss.go:24", after := #[{ on := 10, ground := Ground.data }, { on := 7, ground := Ground.guard }], guard := some (7, true) }) rfl (by kernel_rfl) (by kernel_rfl) (by kernel_rfl) (by kernel_rfl) rfl (fun _ _ _ h => h) (Or.inr ⟨by rfl, rfl⟩) HS2 ?_
    simp only [Act.put, List.setIfInBounds_toArray, List.set_cons_zero, List.set_cons_succ]
    refine wpAnyL_take' (i := 12) (v := undef) (oi := { dst := some 29, op := Op.indexAddr 22 (Operand.tmp 26) (Operand.tmp 28), type := 0, pos := "gss.go:24", after := #[{ on := 9, ground := Ground.data }, { on := 11, ground := Ground.data }, { on := 7, ground := Ground.guard }], guard := some (7, true) }) rfl (by kernel_rfl) (by kernel_rfl) (by kernel_rfl) (by kernel_rfl) rfl (fun _ _ _ h => h) (Or.inr ⟨by rfl, rfl⟩) HS2 ?_
    simp only [Act.put, List.setIfInBounds_toArray, List.set_cons_zero, List.set_cons_succ]
    refine wpAnyL_take' (i := 13) (v := undef) (oi := { dst := some 30, op := Op.load 35 (Operand.tmp 29), type := 35, pos := "gss.go:24", after := #[{ on := 12, ground := Ground.data }, { on := 7, ground := Ground.guard }], guard := some (7, true) }) rfl (by kernel_rfl) (by kernel_rfl) (by kernel_rfl) (by kernel_rfl) rfl (fun _ _ _ h => h) (Or.inr ⟨by rfl, rfl⟩) HS2 ?_
    simp only [Act.put, List.setIfInBounds_toArray, List.set_cons_zero, List.set_cons_succ]
    refine wpAnyL_take' (i := 14) (v := undef) (oi := { dst := some 31, op := Op.call { callee := Callee.value (Operand.func 40), args := #[Operand.tmp 30], argTypes := #[35] }, type := 48, pos := "gss.go:24", after := #[{ on := 13, ground := Ground.data }, { on := 7, ground := Ground.chain }, { on := 7, ground := Ground.guard }], guard := some (7, true) }) rfl (by kernel_rfl) (by kernel_rfl) (by kernel_rfl) (by kernel_rfl) rfl (fun _ _ _ h => h) (Or.inr ⟨by rfl, rfl⟩) HS2 ?_
    simp only [Act.put, List.setIfInBounds_toArray, List.set_cons_zero, List.set_cons_succ]
    refine wpAnyL_take' (i := 15) (v := undef) (oi := { dst := some 32, op := Op.load 35 (Operand.tmp 4), type := 35, pos := "gss.go:24", after := #[{ on := 7, ground := Ground.guard }], guard := some (7, true) }) rfl (by kernel_rfl) (by kernel_rfl) (by kernel_rfl) (by kernel_rfl) rfl (fun _ _ _ h => h) (Or.inr ⟨by rfl, rfl⟩) HS2 ?_
    simp only [Act.put, List.setIfInBounds_toArray, List.set_cons_zero, List.set_cons_succ]
    refine wpAnyL_take' (i := 16) (v := undef) (oi := { dst := some 33, op := Op.call { callee := Callee.value (Operand.func 40), args := #[Operand.tmp 32], argTypes := #[35] }, type := 48, pos := "gss.go:24", after := #[{ on := 15, ground := Ground.data }, { on := 14, ground := Ground.chain }, { on := 7, ground := Ground.guard }], guard := some (7, true) }) rfl (by kernel_rfl) (by kernel_rfl) (by kernel_rfl) (by kernel_rfl) rfl (fun _ _ _ h => h) (Or.inr ⟨by rfl, rfl⟩) HS2 ?_
    simp only [Act.put, List.setIfInBounds_toArray, List.set_cons_zero, List.set_cons_succ]
    refine wpAnyL_take' (i := 17) (v := undef) (oi := { dst := some 34, op := Op.call { callee := Callee.value (Operand.func 39), args := #[Operand.tmp 31, Operand.tmp 33], argTypes := #[48, 48] }, type := 3, pos := "gss.go:24", after := #[{ on := 14, ground := Ground.data }, { on := 16, ground := Ground.data }, { on := 16, ground := Ground.chain }, { on := 7, ground := Ground.guard }], guard := some (7, true) }) rfl (by kernel_rfl) (by kernel_rfl) (by kernel_rfl) (by kernel_rfl) rfl (fun _ _ _ h => h) (Or.inr ⟨by rfl, rfl⟩) HS2 ?_
    simp only [Act.put, List.setIfInBounds_toArray, List.set_cons_zero, List.set_cons_succ]
    refine wpAnyL_take' (i := 18) (v := undef) (oi := { dst := some 35, op := Op.binOp BinOp.geq 3 (Operand.tmp 34) (Operand.const (Value.int IntKind.i64 0)) 3, type := 4, pos := "gss.go:24", after := #[{ on := 17, ground := Ground.data }, { on := 7, ground := Ground.guard }], guard := some (7, true) }) rfl (by kernel_rfl) (by kernel_rfl) (by kernel_rfl) (by kernel_rfl) rfl (fun _ _ _ h => h) (Or.inr ⟨by rfl, rfl⟩) HS2 ?_
    simp only [Act.put, List.setIfInBounds_toArray, List.set_cons_zero, List.set_cons_succ]
    refine wpAnyL_take' (i := 19) (v := ?_) (oi := { dst := some 36, op := Op.pick (Operand.tmp 24) (Operand.tmp 35) (Operand.const (Value.bool false)), type := 4, pos := "gss.go:24", after := #[{ on := 7, ground := Ground.data }, { on := 18, ground := Ground.data }, { on := 4, ground := Ground.guard }], guard := some (4, false) }) rfl (by kernel_rfl) (by kernel_rfl) (by kernel_rfl) (by kernel_rfl) rfl (fun _ _ _ h => h) (Or.inl ⟨by rfl, ?_⟩) HS2 ?_
    rotate_left
    · intro W hSW
      go_simp
      try with_reducible rfl
    simp only [Act.put, List.setIfInBounds_toArray, List.set_cons_zero, List.set_cons_succ]
    refine wpAnyL_take' (i := 20) (v := ?_) (oi := { dst := some 37, op := Op.pick (Operand.tmp 21) (Operand.const (Value.bool true)) (Operand.tmp 36), type := 4, pos := "gss.go:24", after := #[{ on := 4, ground := Ground.data }, { on := 19, ground := Ground.data }], guard := none }) rfl (by kernel_rfl) (by kernel_rfl) (by kernel_rfl) (by kernel_rfl) rfl (fun _ _ _ h => h) (Or.inl ⟨by rfl, ?_⟩) HS2 ?_
    rotate_left
    · intro W hSW
      go_simp
      try with_reducible rfl
    simp only [Act.put, List.setIfInBounds_toArray, List.set_cons_zero, List.set_cons_succ]
    refine wpAnyL_done (by kernel_rfl) ?_ _
    go_wp2_with fail
    exact ⟨⟨0 + 1, by go_num, by omega, BW⟩, by simp [intOf]; omega⟩
  · have hi1 : i - 1 < l.length := by omega
    have hgt : decide ((i : Int) > 0) = true := decide_eq_true (by omega)
    have hgt2 : decide (0 < i) = true := decide_eq_true (by omega)
    have hgt3 : (0 : Int) < i := by omega
    have hsub : IntKind.i64.wrap ((i : Int) - 1) = ((i - 1 : Nat) : Int) := by rw [IntWalk.i64_in _ (by omega)]; omega
    obtain ⟨_, _, yv, e1, _, t0, t1, t2, _⟩ := hal.at bx hi1
    cases e1
    have HY : Hid (ltS (spG l[i - 1]) (spG x)) := befB_lt.1 (HN.out.1.2.2 (by omega) _ (by simp [hi1]))
    generalize l[i - 1] = y at *
    have HCV : Hid (cmpS (y.pl, y.st) (x.pl, x.st) < 0) := cmpS_lt.2 HY.out
    have dcv : decide (cmpS (y.pl, y.st) (x.pl, x.st) ≥ 0) = false := decide_eq_false (by have := HCV.out; omega)
    clear hal
    go_upto_region 6 with fail
    obtain ⟨rb, hrb⟩ : ∃ rb, wr.heap.size = rb := ⟨_, rfl⟩
    rw [hrb] at x0 x1 x2 xl
    try simp only [hrb]
    have hb2x : b2 < (wr.alloc (Obj.cells #[.int .i64 x.st, .int .i64 x.pl, .slice xa x.links.length xc] 35)).heap.size := Nat.lt_of_lt_of_le hb2 bx.size
    generalize wr.alloc (Obj.cells #[.int .i64 x.st, .int .i64 x.pl, .slice xa x.links.length xc] 35) = wx at *
    have HS : wx.drew.cell? ⟨w.heap.size, 0, none⟩ = some (.slice (some ⟨b2, o2, none⟩) l.length lc) ∧ wx.drew.cell? ⟨rb, 0, none⟩ = some (.int .i64 x.st) ∧ wx.drew.cell? ⟨rb, 1, none⟩ = some (.int .i64 x.pl) ∧ wx.drew.cell? ⟨rb, 2, none⟩ = some (.slice xa x.links.length xc) ∧ wx.drew.cell? ⟨b2, o2 + (i - 1) * 3, none⟩ = some (.int .i64 y.st) ∧ wx.drew.cell? ⟨b2, o2 + (i - 1) * 3 + 1, none⟩ = some (.int .i64 y.pl) ∧ wx.drew.cell? ⟨b2, o2 + (i - 1) * 3 + 2, none⟩ = some yv := ⟨d1, x0, x1, x2, t0, t1, t2⟩
    have HC := fitAlone_any l x _ _ wx.drew HSL.out.1 HSL.out.2.1 HN.out.1.1 HN.out.1.2.1 HN.out.2.1 (by omega) HN.out.2.2
    have HS1 : Hid (∀ V, Below wx.drew.heap.size wx.drew V → (V.cell? ⟨w.heap.size, 0, none⟩ = some (.slice (some ⟨b2, o2, none⟩) l.length lc) ∧ V.cell? ⟨rb, 0, none⟩ = some (.int .i64 x.st) ∧ V.cell? ⟨rb, 1, none⟩ = some (.int .i64 x.pl) ∧ V.cell? ⟨rb, 2, none⟩ = some (.slice xa x.links.length xc) ∧ V.cell? ⟨b2, o2 + (i - 1) * 3, none⟩ = some (.int .i64 y.st) ∧ V.cell? ⟨b2, o2 + (i - 1) * 3 + 1, none⟩ = some (.int .i64 y.pl) ∧ V.cell? ⟨b2, o2 + (i - 1) * 3 + 2, none⟩ = some yv) ∧ Below w0.heap.size w0 V) := fun V hV => ⟨⟨(hV.cell (p := ⟨w.heap.size, 0, none⟩) (World.block_lt_of_cell? _ _ d1)).trans d1, (hV.cell (p := ⟨rb, 0, none⟩) xl).trans x0, (hV.cell (p := ⟨rb, 1, none⟩) xl).trans x1, (hV.cell (p := ⟨rb, 2, none⟩) xl).trans x2, (hV.cell (p := ⟨b2, o2 + (i - 1) * 3, none⟩) hb2x).trans t0, (hV.cell (p := ⟨b2, o2 + (i - 1) * 3 + 1, none⟩) hb2x).trans t1, (hV.cell (p := ⟨b2, o2 + (i - 1) * 3 + 2, none⟩) hb2x).trans t2⟩, HSL.out.2.2.trans (hV.mono HSL.out.2.2.size)⟩
    clear d1 x0 x1 x2 xl hb2 BR QB bx hrb t0 t1 t2 hb2x q0 q1 q2 c0
    generalize hcv : cmpS (y.pl, y.st) (x.pl, x.st) = cv at *
    have HCV2 : Hid (cmpS (y.pl, y.st) (x.pl, x.st) = cv) := hcv
    clear hcv
    refine wp_region_L (fun W => W.cell? ⟨w.heap.size, 0, none⟩ = some (.slice (some ⟨b2, o2, none⟩) l.length lc) ∧ W.cell? ⟨rb, 0, none⟩ = some (.int .i64 x.st) ∧ W.cell? ⟨rb, 1, none⟩ = some (.int .i64 x.pl) ∧ W.cell? ⟨rb, 2, none⟩ = some (.slice xa x.links.length xc) ∧ W.cell? ⟨b2, o2 + (i - 1) * 3, none⟩ = some (.int .i64 y.st) ∧ W.cell? ⟨b2, o2 + (i - 1) * 3 + 1, none⟩ = some (.int .i64 y.pl) ∧ W.cell? ⟨b2, o2 + (i - 1) * 3 + 2, none⟩ = some yv) 21 (by kernel_rfl) 21 rfl ?_
    refine wpAnyL_take' (i := 0) (v := ?_) (oi := { dst := some 17, op := Op.load 24 (Operand.tmp 1), type := 24, pos := "gss.go:24", after := #[], guard := none }) rfl (by kernel_rfl) (by kernel_rfl) (by kernel_rfl) (by kernel_rfl) rfl (fun _ _ _ h => h) (Or.inl ⟨by rfl, ?_⟩) HS ?_
    rotate_left
    · intro W hSW
      go_simp
      try with_reducible rfl
    simp only [Act.put, List.setIfInBounds_toArray, List.set_cons_zero, List.set_cons_succ]
    refine wpAnyL_take' (i := 1) (v := ?_) (oi := { dst := some 18, op := Op.load 35 (Operand.tmp 4), type := 35, pos := "gss.go:24", after := #[], guard := none }) rfl (by kernel_rfl) (by kernel_rfl) (by kernel_rfl) (by kernel_rfl) rfl (fun _ _ _ h => h) (Or.inl ⟨by rfl, ?_⟩) HS ?_
    rotate_left
    · intro W hSW
      go_simp
      try with_reducible rfl
    simp only [Act.put, List.setIfInBounds_toArray, List.set_cons_zero, List.set_cons_succ]
    refine wpAnyL_one' (i := 2) (o := { dst := some 19, op := Op.call { callee := Callee.value (Operand.func 38), args := #[Operand.tmp 17, Operand.tmp 18], argTypes := #[24, 35] }, type := 4, pos := "gss.go:24", after := #[{ on := 0, ground := Ground.data }, { on := 1, ground := Ground.data }], guard := none }) (by kernel_rfl) rfl rfl (fun K hK => ?_)
    go_simp
    refine (HC).mono ?_
    rintro e w2 ⟨rfl, hb2⟩
    refine hK.out _ _ (fun _ => (HS1.out _ hb2).1) ?_
    clear hK
    obtain ⟨HS2, BW2⟩ := HS1.out _ hb2
    have HB2 : Hid (Below wx.drew.heap.size wx.drew w2) := hb2
    clear HS hb2 HC
    refine wpAnyL_take' (i := 3) (v := ?_) (oi := { dst := some 20, op := Op.unOp UnOp.not 4 (Operand.tmp 19), type := 4, pos := "gss.go:24", after := #[{ on := 2, ground := Ground.data }], guard := none }) rfl (by kernel_rfl) (by kernel_rfl) (by kernel_rfl) (by kernel_rfl) rfl (fun _ _ _ h => h) (Or.inl ⟨by rfl, ?_⟩) HS2 ?_
    rotate_left
    · intro W hSW
      go_simp
      try with_reducible rfl
    simp only [Act.put, List.setIfInBounds_toArray, List.set_cons_zero, List.set_cons_succ]
    refine wpAnyL_take' (i := 4) (v := ?_) (oi := { dst := some 21, op := Op.move (Operand.tmp 20), type := 4, pos := "gss.go:24", after := #[{ on := 3, ground := Ground.data }, { on := 2, ground := Ground.chain }], guard := none }) rfl (by kernel_rfl) (by kernel_rfl) (by kernel_rfl) (by kernel_rfl) rfl (fun _ _ _ h => h) (Or.inl ⟨by rfl, ?_⟩) HS2 ?_
    rotate_left
    · intro W hSW
      go_simp
      try with_reducible rfl
    simp only [Act.put, List.setIfInBounds_toArray, List.set_cons_zero, List.set_cons_succ]
    refine wpAnyL_take' (i := 5) (v := ?_) (oi := { dst := some 22, op := Op.move (Operand.tmp 3), type := 3, pos := "gss.go:24", after := #[{ on := 4, ground := Ground.guard }], guard := some (4, false) }) rfl (by kernel_rfl) (by kernel_rfl) (by kernel_rfl) (by kernel_rfl) rfl (fun _ _ _ h => h) (Or.inl ⟨by rfl, ?_⟩) HS2 ?_
    rotate_left
    · intro W hSW
      go_simp
      try with_reducible rfl
    simp only [Act.put, List.setIfInBounds_toArray, List.set_cons_zero, List.set_cons_succ]
    refine wpAnyL_take' (i := 6) (v := ?_) (oi := { dst := some 23, op := Op.binOp BinOp.gtr 3 (Operand.tmp 22) (Operand.const (Value.int IntKind.i64 0)) 3, type := 4, pos := "gss.go:24", after := #[{ on := 5, ground := Ground.data }, { on := 4, ground := Ground.guard }], guard := some (4, false) }) rfl (by kernel_rfl) (by kernel_rfl) (by kernel_rfl) (by kernel_rfl) rfl (fun _ _ _ h => h) (Or.inl ⟨by rfl, ?_⟩) HS2 ?_
    rotate_left
    · intro W hSW
      go_simp
      try with_reducible rfl
    simp only [Act.put, List.setIfInBounds_toArray, List.set_cons_zero, List.set_cons_succ]
    refine wpAnyL_take' (i := 7) (v := ?_) (oi := { dst := some 24, op := Op.move (Operand.tmp 23), type := 4, pos := "gss.go:24", after := #[{ on := 6, ground := Ground.data }, { on := 4, ground := Ground.chain }, { on := 4, ground := Ground.guard }], guard := some (4, false) }) rfl (by kernel_rfl) (by kernel_rfl) (by kernel_rfl) (by kernel_rfl) rfl (fun _ _ _ h => h) (Or.inl ⟨by rfl, ?_⟩) HS2 ?_
    rotate_left
    · intro W hSW
      go_simp
      try with_reducible rfl
    simp only [Act.put, List.setIfInBounds_toArray, List.set_cons_zero, List.set_cons_succ]
    refine wpAnyL_take' (i := 8) (v := ?_) (oi := { dst := some 25, op := Op.fieldAddr 24 (Operand.tmp 1) 0, type := 0, pos := "gss.go:24", after := #[{ on := 7, ground := Ground.guard }], guard := some (7, true) }) rfl (by kernel_rfl) (by kernel_rfl) (by kernel_rfl) (by kernel_rfl) rfl (fun _ _ _ h => h) (Or.inl ⟨by rfl, ?_⟩) HS2 ?_
    rotate_left
    · intro W hSW
      go_simp
      try with_reducible rfl
    simp only [Act.put, List.setIfInBounds_toArray, List.set_cons_zero, List.set_cons_succ]
    refine wpAnyL_take' (i := 9) (v := ?_) (oi := { dst := some 26, op := Op.load 22 (Operand.tmp 25), type := 22, pos := "gss.go:24", after := #[{ on := 8, ground := Ground.data }, { on := 7, ground := Ground.guard }], guard := some (7, true) }) rfl (by kernel_rfl) (by kernel_rfl) (by kernel_rfl) (by kernel_rfl) rfl (fun _ _ _ h => h) (Or.inl ⟨by rfl, ?_⟩) HS2 ?_
    rotate_left
    · intro W hSW
      go_simp
      try with_reducible rfl
    simp only [Act.put, List.setIfInBounds_toArray, List.set_cons_zero, List.set_cons_succ]
    refine wpAnyL_take' (i := 10) (v := ?_) (oi := { dst := some 27, op := Op.move (Operand.tmp 3), type := 3, pos := "gss.go:24", after := #[{ on := 7, ground := Ground.guard }], guard := some (7, true) }) rfl (by kernel_rfl) (by kernel_rfl) (by kernel_rfl) (by kernel_rfl) rfl (fun _ _ _ h => h) (Or.inl ⟨by rfl, ?_⟩) HS2 ?_
    rotate_left
    · intro W hSW
      go_simp
      try with_reducible rfl
    simp only [Act.put, List.setIfInBounds_toArray, List.set_cons_zero, List.set_cons_succ]
    refine wpAnyL_take' (i := 11) (v := ?_) (oi := { dst := some 28, op := Op.binOp BinOp.sub 3 (Operand.tmp 27) (Operand.const (Value.int IntKind.i64 1)) 3, type := 3, pos := "gss.go:24", after := #[{ on := 10, ground := Ground.data }, { on := 7, ground := Ground.guard }], guard := some (7, true) }) rfl (by kernel_rfl) (by kernel_rfl) (by kernel_rfl) (by kernel_rfl) rfl (fun _ _ _ h => h) (Or.inl ⟨by rfl, ?_⟩) HS2 ?_
    rotate_left
    · intro W hSW
      go_simp
      try with_reducible rfl
    simp only [Act.put, List.setIfInBounds_toArray, List.set_cons_zero, List.set_cons_succ]
    refine wpAnyL_take' (i := 12) (v := ?_) (oi := { dst := some 29, op := Op.indexAddr 22 (Operand.tmp 26) (Operand.tmp 28), type := 0, pos := "gss.go:24", after := #[{ on := 9, ground := Ground.data }, { on := 11, ground := Ground.data }, { on := 7, ground := Ground.guard }], guard := some (7, true) }) rfl (by kernel_rfl) (by kernel_rfl) (by kernel_rfl) (by kernel_rfl) rfl (fun _ _ _ h => h) (Or.inl ⟨by rfl, ?_⟩) HS2 ?_
    rotate_left
    · intro W hSW
      go_simp
      try with_reducible rfl
    simp only [Act.put, List.setIfInBounds_toArray, List.set_cons_zero, List.set_cons_succ]
    refine wpAnyL_take' (i := 13) (v := ?_) (oi := { dst := some 30, op := Op.load 35 (Operand.tmp 29), type := 35, pos := "gss.go:24", after := #[{ on := 12, ground := Ground.data }, { on := 7, ground := Ground.guard }], guard := some (7, true) }) rfl (by kernel_rfl) (by kernel_rfl) (by kernel_rfl) (by kernel_rfl) rfl (fun _ _ _ h => h) (Or.inl ⟨by rfl, ?_⟩) HS2 ?_
    rotate_left
    · intro W hSW
      go_simp
      try with_reducible rfl
    simp only [Act.put, List.setIfInBounds_toArray, List.set_cons_zero, List.set_cons_succ]
    refine wpAnyL_take' (i := 15) (v := ?_) (oi := { dst := some 32, op := Op.load 35 (Operand.tmp 4), type := 35, pos := "gss.go:24", after := #[{ on := 7, ground := Ground.guard }], guard := some (7, true) }) rfl (by kernel_rfl) (by kernel_rfl) (by kernel_rfl) (by kernel_rfl) rfl (fun _ _ _ h => h) (Or.inl ⟨by rfl, ?_⟩) HS2 ?_
    rotate_left
    · intro W hSW
      go_simp
      try with_reducible rfl
    simp only [Act.put, List.setIfInBounds_toArray, List.set_cons_zero, List.set_cons_succ]
    refine wpAnyL_one' (i := 14) (o := { dst := some 31, op := Op.call { callee := Callee.value (Operand.func 40), args := #[Operand.tmp 30], argTypes := #[35] }, type := 48, pos := "gss.go:24", after := #[{ on := 13, ground := Ground.data }, { on := 7, ground := Ground.chain }, { on := 7, ground := Ground.guard }], guard := some (7, true) }) (by kernel_rfl) rfl rfl (fun K hK => ?_)
    go_simp
    refine (spotOf_any _ _ _ _).mono ?_
    rintro e w3 ⟨rfl, hb3, _⟩
    refine hK.out _ _ (fun _ => (HS1.out _ (HB2.out.trans (hb3.mono HB2.out.size))).1) ?_
    clear hK
    have HB3 : Hid (Below wx.drew.heap.size wx.drew w3) := HB2.out.trans (hb3.mono HB2.out.size)
    have HS3 := (HS1.out _ HB3.out).1
    clear HS2 hb3 HB2
    refine wpAnyL_one' (i := 16) (o := { dst := some 33, op := Op.call { callee := Callee.value (Operand.func 40), args := #[Operand.tmp 32], argTypes := #[35] }, type := 48, pos := "gss.go:24", after := #[{ on := 15, ground := Ground.data }, { on := 14, ground := Ground.chain }, { on := 7, ground := Ground.guard }], guard := some (7, true) }) (by kernel_rfl) rfl rfl (fun K hK => ?_)
    go_simp
    refine (spotOf_any _ _ _ _).mono ?_
    rintro e w4 ⟨rfl, hb4, _⟩
    refine hK.out _ _ (fun _ => (HS1.out _ (HB3.out.trans (hb4.mono HB3.out.size))).1) ?_
    clear hK
    have HB4 : Hid (Below wx.drew.heap.size wx.drew w4) := HB3.out.trans (hb4.mono HB3.out.size)
    have HS4 := (HS1.out _ HB4.out).1
    clear HS3 hb4 HB3
    refine wpAnyL_one' (i := 17) (o := { dst := some 34, op := Op.call { callee := Callee.value (Operand.func 39), args := #[Operand.tmp 31, Operand.tmp 33], argTypes := #[48, 48] }, type := 3, pos := "gss.go:24", after := #[{ on := 14, ground := Ground.data }, { on := 16, ground := Ground.data }, { on := 16, ground := Ground.chain }, { on := 7, ground := Ground.guard }], guard := some (7, true) }) (by kernel_rfl) rfl rfl (fun K hK => ?_)
    go_simp
    refine (compare_any (y.pl, y.st) (x.pl, x.st) _).mono ?_
    rintro e w5 ⟨rfl, hb5, _⟩
    refine hK.out _ _ (fun _ => (HS1.out _ (HB4.out.trans (hb5.mono HB4.out.size))).1) ?_
    clear hK
    rw [HCV2.out]
    have HB5 : Hid (Below wx.drew.heap.size wx.drew w5) := HB4.out.trans (hb5.mono HB4.out.size)
    have HS5 := (HS1.out _ HB5.out).1
    have BW := (HS1.out _ HB5.out).2
    clear HS4 hb5 HB4
    refine wpAnyL_take' (i := 18) (v := ?_) (oi := { dst := some 35, op := Op.binOp BinOp.geq 3 (Operand.tmp 34) (Operand.const (Value.int IntKind.i64 0)) 3, type := 4, pos := "gss.go:24", after := #[{ on := 17, ground := Ground.data }, { on := 7, ground := Ground.guard }], guard := some (7, true) }) rfl (by kernel_rfl) (by kernel_rfl) (by kernel_rfl) (by kernel_rfl) rfl (fun _ _ _ h => h) (Or.inl ⟨by rfl, ?_⟩) HS5 ?_
    rotate_left
    · intro W hSW
      go_simp
      try with_reducible rfl
    simp only [Act.put, List.setIfInBounds_toArray, List.set_cons_zero, List.set_cons_succ]
    refine wpAnyL_take' (i := 19) (v := ?_) (oi := { dst := some 36, op := Op.pick (Operand.tmp 24) (Operand.tmp 35) (Operand.const (Value.bool false)), type := 4, pos := "gss.go:24", after := #[{ on := 7, ground := Ground.data }, { on := 18, ground := Ground.data }, { on := 4, ground := Ground.guard }], guard := some (4, false) }) rfl (by kernel_rfl) (by kernel_rfl) (by kernel_rfl) (by kernel_rfl) rfl (fun _ _ _ h => h) (Or.inl ⟨by rfl, ?_⟩) HS5 ?_
    rotate_left
    · intro W hSW
      go_simp
      try with_reducible rfl
    simp only [Act.put, List.setIfInBounds_toArray, List.set_cons_zero, List.set_cons_succ]
    refine wpAnyL_take' (i := 20) (v := ?_) (oi := { dst := some 37, op := Op.pick (Operand.tmp 21) (Operand.const (Value.bool true)) (Operand.tmp 36), type := 4, pos := "gss.go:24", after := #[{ on := 4, ground := Ground.data }, { on := 19, ground := Ground.data }], guard := none }) rfl (by kernel_rfl) (by kernel_rfl) (by kernel_rfl) (by kernel_rfl) rfl (fun _ _ _ h => h) (Or.inl ⟨by rfl, ?_⟩) HS5 ?_
    rotate_left
    · intro W hSW
      go_simp
      try with_reducible rfl
    simp only [Act.put, List.setIfInBounds_toArray, List.set_cons_zero, List.set_cons_succ]
    refine wpAnyL_done (by kernel_rfl) ?_ _
    go_wp2_with fail
    exact ⟨⟨i + 1, by go_num, by omega, BW⟩, by simp [intOf]; omega⟩
end Go.Proofs.Ytjpbfckdiojghaa
