/- Stacks: the program's seek: slices.BinarySearchFunc at nodes, by spots. -/
import Derived.Test.YtjpbfckdiojghaaPSmall
namespace Go.Proofs.Ytjpbfckdiojghaa
open Go.RowKit

theorem cmpI_lt {a b : Int} : cmpI a b < 0 ↔ a < b := by
  unfold cmpI; split
  · simp [*]
  · split <;> simp [*]
theorem cmpI_zero {a b : Int} : cmpI a b = 0 ↔ a = b := by
  unfold cmpI; split
  · constructor
    · intro h; simp at h
    · intro h; omega
  · split
    · constructor
      · intro h; simp at h
      · intro h; omega
    · constructor
      · intro h; omega
      · intro h; rfl
def spG (x : Gn) : Sp := (x.pl, x.st)
def ltS (x y : Sp) : Prop := x.1 < y.1 ∨ x.1 = y.1 ∧ x.2 < y.2
instance (x y : Sp) : Decidable (ltS x y) := by unfold ltS; infer_instance
theorem cmpS_lt {x y : Sp} : cmpS x y < 0 ↔ ltS x y := by
  unfold cmpS orI ltS
  by_cases h : x.1 = y.1
  · rw [if_pos (cmpI_zero.2 h), cmpI_lt]; omega
  · rw [if_neg (fun e => h (cmpI_zero.1 e)), cmpI_lt]; omega
theorem cmpS_zero {x y : Sp} : cmpS x y = 0 ↔ x = y := by
  unfold cmpS orI
  rw [Prod.ext_iff]
  by_cases h : x.1 = y.1
  · rw [if_pos (cmpI_zero.2 h), cmpI_zero]; simp [h]
  · rw [if_neg (fun e => h (cmpI_zero.1 e)), cmpI_zero]; simp [h]
theorem ltS_trans {x y z : Sp} (h : ltS x y) (k : ltS y z) : ltS x z := by unfold ltS at *; omega
theorem ltS_irrefl (x : Sp) : ¬ ltS x x := by unfold ltS; omega
theorem ltS_total {x y : Sp} (h : ¬ ltS x y) (hn : x ≠ y) : ltS y x := by
  unfold ltS at *
  by_cases e : x.1 = y.1
  · have : x.2 ≠ y.2 := fun e2 => hn (Prod.ext e e2)
    omega
  · omega
/-- Nodes rise by their spots. -/
def UpG (l : List Gn) : Prop := l.Pairwise fun x y => ltS (spG x) (spG y)
theorem UpG.at {l : List Gn} (h : UpG l) {i j : Nat} (hi : i < l.length) (hj : j < l.length) (hij : i < j) : ltS (spG l[i]) (spG l[j]) := List.pairwise_iff_getElem.1 h i j hi hj hij
/-- The number of the node of a spot, or the one that it would have. -/
def posG (l : List Gn) (s : Sp) : Nat := l.findIdx fun x => !decide (ltS (spG x) s)
def thereB (l : List Gn) (s : Sp) : Bool := (l[posG l s]?).any fun x => decide (spG x = s)
theorem posG_eq {l : List Gn} {s : Sp} {i : Nat} (hi : i ≤ l.length) (h1 : ∀ t (ht : t < l.length), t < i → ltS (spG l[t]) s) (h2 : ∀ h : i < l.length, ¬ ltS (spG l[i]) s) : posG l s = i := by
  unfold posG
  rcases Nat.lt_or_ge i l.length with h | h
  · rw [List.findIdx_eq h]
    exact ⟨by simpa using h2 h, fun j hj => by simpa using h1 j (by omega) hj⟩
  · obtain rfl : i = l.length := by omega
    rw [List.findIdx_eq_length]
    intro x hx
    obtain ⟨t, ht, rfl⟩ := List.getElem_of_mem hx
    simpa using h1 t ht ht
theorem posG_le (l : List Gn) (s : Sp) : posG l s ≤ l.length := List.findIdx_le_length

set_option maxRecDepth 100000 in
set_option maxHeartbeats 1600000 in
theorem seekC_any (xs xp ys yp : Int) (u : Value) (w : World) : Calls Try.prog 42 #[.agg #[.int .i64 xs, .int .i64 xp, u], .agg #[.int .i64 yp, .int .i64 ys]] w fun e w' => e = .returned (.int .i64 (cmpS (xp, xs) (yp, ys))) ∧ Below w.heap.size w w' := by
  have B0 : Below w.heap.size w ((w.alloc (Obj.cells #[.int .i64 xs, .int .i64 xp, u] 35)).alloc (Obj.cells #[.int .i64 yp, .int .i64 ys] 48)) := ((Below.refl _ _).alloc (Nat.le_refl _) _).alloc (by simp) _
  have HSZ : Hid (((w.alloc (Obj.cells #[.int .i64 xs, .int .i64 xp, u] 35)).alloc (Obj.cells #[.int .i64 yp, .int .i64 ys] 48)).heap.size = w.heap.size + 2) := by show _ = _; simp
  have HS0 : ((w.alloc (Obj.cells #[.int .i64 xs, .int .i64 xp, u] 35)).alloc (Obj.cells #[.int .i64 yp, .int .i64 ys] 48)).cell? ⟨w.heap.size, 0, none⟩ = some (.int .i64 xs) ∧ ((w.alloc (Obj.cells #[.int .i64 xs, .int .i64 xp, u] 35)).alloc (Obj.cells #[.int .i64 yp, .int .i64 ys] 48)).cell? ⟨w.heap.size, 1, none⟩ = some (.int .i64 xp) ∧ ((w.alloc (Obj.cells #[.int .i64 xs, .int .i64 xp, u] 35)).alloc (Obj.cells #[.int .i64 yp, .int .i64 ys] 48)).cell? ⟨w.heap.size, 2, none⟩ = some u ∧ ((w.alloc (Obj.cells #[.int .i64 xs, .int .i64 xp, u] 35)).alloc (Obj.cells #[.int .i64 yp, .int .i64 ys] 48)).cell? ⟨w.heap.size + 1, 0, none⟩ = some (.int .i64 yp) ∧ ((w.alloc (Obj.cells #[.int .i64 xs, .int .i64 xp, u] 35)).alloc (Obj.cells #[.int .i64 yp, .int .i64 ys] 48)).cell? ⟨w.heap.size + 1, 1, none⟩ = some (.int .i64 ys) := by refine ⟨?_, ?_, ?_, ?_, ?_⟩ <;> simp
  go_enter Try.func42, Try.ntmps42
  go_upto_region 1 with fail
  generalize ((w.alloc (Obj.cells #[.int .i64 xs, .int .i64 xp, u] 35)).alloc (Obj.cells #[.int .i64 yp, .int .i64 ys] 48)) = w0 at *
  have HS1 : Hid (∀ V, Below w0.heap.size w0 V → (V.cell? ⟨w.heap.size, 0, none⟩ = some (.int .i64 xs) ∧ V.cell? ⟨w.heap.size, 1, none⟩ = some (.int .i64 xp) ∧ V.cell? ⟨w.heap.size, 2, none⟩ = some u ∧ V.cell? ⟨w.heap.size + 1, 0, none⟩ = some (.int .i64 yp) ∧ V.cell? ⟨w.heap.size + 1, 1, none⟩ = some (.int .i64 ys)) ∧ Below w.heap.size w V) := fun V hV => by
    obtain ⟨h0, h1, h2, h3, h4⟩ := HS0
    have hz := HSZ.out
    exact ⟨⟨(hV.cell (p := ⟨w.heap.size, 0, none⟩) (by simp only; omega)).trans h0, (hV.cell (p := ⟨w.heap.size, 1, none⟩) (by simp only; omega)).trans h1, (hV.cell (p := ⟨w.heap.size, 2, none⟩) (by simp only; omega)).trans h2, (hV.cell (p := ⟨w.heap.size + 1, 0, none⟩) (by simp only; omega)).trans h3, (hV.cell (p := ⟨w.heap.size + 1, 1, none⟩) (by simp only; omega)).trans h4⟩, B0.trans (hV.mono B0.size)⟩
  have HD : Hid (Below w0.heap.size w0 w0.drew) := below_drewN (Below.refl _ _) 1
  have HS2 := (HS1.out _ HD.out).1
  clear HS0 B0 HSZ
  refine wp_region_L (fun W => W.cell? ⟨w.heap.size, 0, none⟩ = some (.int .i64 xs) ∧ W.cell? ⟨w.heap.size, 1, none⟩ = some (.int .i64 xp) ∧ W.cell? ⟨w.heap.size, 2, none⟩ = some u ∧ W.cell? ⟨w.heap.size + 1, 0, none⟩ = some (.int .i64 yp) ∧ W.cell? ⟨w.heap.size + 1, 1, none⟩ = some (.int .i64 ys)) 5 (by kernel_rfl) 5 rfl ?_
  refine wpAnyL_take' (i := 0) (v := ?_) (oi := { dst := some 5, op := Op.load 35 (Operand.tmp 2), type := 35, pos := "spot.go:30", after := #[], guard := none }) rfl (by kernel_rfl) (by kernel_rfl) (by kernel_rfl) (by kernel_rfl) rfl (fun _ _ _ h => h) (Or.inl ⟨by rfl, ?_⟩) HS2 ?_
  rotate_left
  · intro W hSW
    go_simp
    try with_reducible rfl
  simp only [Act.put, List.setIfInBounds_toArray, List.set_cons_zero, List.set_cons_succ]
  refine wpAnyL_take' (i := 2) (v := ?_) (oi := { dst := some 7, op := Op.load 48 (Operand.tmp 3), type := 48, pos := "spot.go:30", after := #[], guard := none }) rfl (by kernel_rfl) (by kernel_rfl) (by kernel_rfl) (by kernel_rfl) rfl (fun _ _ _ h => h) (Or.inl ⟨by rfl, ?_⟩) HS2 ?_
  rotate_left
  · intro W hSW
    go_simp
    try with_reducible rfl
  simp only [Act.put, List.setIfInBounds_toArray, List.set_cons_zero, List.set_cons_succ]
  refine wpAnyL_one' (i := 1) (o := { dst := some 6, op := Op.call { callee := Callee.value (Operand.func 40), args := #[Operand.tmp 5], argTypes := #[35] }, type := 48, pos := "spot.go:30", after := #[{ on := 0, ground := Ground.data }], guard := none }) (by kernel_rfl) rfl rfl (fun K hK => ?_)
  go_simp
  refine (spotOf_any _ _ _ _).mono ?_
  rintro e w1 ⟨rfl, hb1, _⟩
  refine hK.out _ _ (fun _ => (HS1.out _ (HD.out.trans (hb1.mono HD.out.size))).1) ?_
  clear hK
  have HS3 := (HS1.out _ (HD.out.trans (hb1.mono HD.out.size))).1
  have HD1 : Hid (Below w0.heap.size w0 w1) := HD.out.trans (hb1.mono HD.out.size)
  clear hb1 HS2
  refine wpAnyL_one' (i := 3) (o := { dst := some 8, op := Op.call { callee := Callee.value (Operand.func 39), args := #[Operand.tmp 6, Operand.tmp 7], argTypes := #[48, 48] }, type := 3, pos := "spot.go:30", after := #[{ on := 1, ground := Ground.data }, { on := 2, ground := Ground.data }, { on := 1, ground := Ground.chain }], guard := none }) (by kernel_rfl) rfl rfl (fun K hK => ?_)
  go_simp
  refine (compare_any (xp, xs) (yp, ys) _).mono ?_
  rintro e w2 ⟨rfl, hb2, _⟩
  refine hK.out _ _ (fun _ => (HS1.out _ (HD1.out.trans (hb2.mono HD1.out.size))).1) ?_
  clear hK
  have HS4 := (HS1.out _ (HD1.out.trans (hb2.mono HD1.out.size))).1
  have HE : Hid (Below w.heap.size w w2) := (HS1.out _ (HD1.out.trans (hb2.mono HD1.out.size))).2
  clear hb2 HS3
  refine wpAnyL_take' (i := 4) (v := ?_) (oi := { dst := some 4, op := Op.assign (Operand.tmp 8), type := 3, pos := "spot.go:30", after := #[{ on := 3, ground := Ground.data }, { on := 3, ground := Ground.chain }, { on := 0, ground := Ground.phase }, { on := 1, ground := Ground.phase }, { on := 2, ground := Ground.phase }, { on := 3, ground := Ground.phase }], guard := none }) rfl (by kernel_rfl) (by kernel_rfl) (by kernel_rfl) (by kernel_rfl) rfl (fun _ _ _ h => h) (Or.inl ⟨by rfl, ?_⟩) HS4 ?_
  rotate_left
  · intro W hSW
    go_simp
    try with_reducible rfl
  simp only [Act.put, List.setIfInBounds_toArray, List.set_cons_zero, List.set_cons_succ]
  refine wpAnyL_done (by kernel_rfl) ?_ _
  go_wp2_with fail
  go_ret
  exact ⟨rfl, HE.out⟩

set_option maxRecDepth 100000 in
set_option maxHeartbeats 1600000 in
theorem bsearch_any (l : List Gn) (v : Value) (s : Sp) (w : World) (hl : SlN l v w) (hu : UpG l) (hlen : l.length ≤ 1000000) :
    Calls Try.prog 41 #[v, spV s, .func (.func 42) #[] #[]] w fun e w' => e = .returned (.tuple #[.int .i64 (posG l s : Nat), .bool (thereB l s)]) ∧ Below w.heap.size w w' := by
  obtain ⟨yp, ys⟩ := s
  have HL : Hid (∀ W, Below w.heap.size w W → SlN l v W) := fun W hb => hl.next hb
  have HU : Hid (UpG l) := hu
  clear hu
  obtain ⟨la, lc, rfl, _, _, _, hlb⟩ := hl
  unfold spV
  simp only
  have B0 : Below w.heap.size w (w.alloc (Obj.cells #[.int .i64 yp, .int .i64 ys] 48)) := (Below.refl _ _).alloc (Nat.le_refl _) _
  have b0 : (w.alloc (Obj.cells #[.int .i64 yp, .int .i64 ys] 48)).heap[w.heap.size]? = some (Obj.cells #[.int .i64 yp, .int .i64 ys] 48) := heap_alloc_new _ _
  go_enter Try.func41, Try.ntmps41
  go_wp2_with fail
  generalize w.alloc (Obj.cells #[.int .i64 yp, .int .i64 ys] 48) = w0 at *
  have hz := blk_lt b0
  have HT : Hid (∀ W, Below w0.heap.size w0 W → W.cell? ⟨w.heap.size, 0, none⟩ = some (.int .i64 yp) ∧ W.cell? ⟨w.heap.size, 1, none⟩ = some (.int .i64 ys) ∧ SlN l (.slice la l.length lc) W ∧ Below w.heap.size w W) := fun W hW => ⟨(hW.cell (p := ⟨w.heap.size, 0, none⟩) hz).trans (by rw [Lib.cell_of_heap b0]; rfl), (hW.cell (p := ⟨w.heap.size, 1, none⟩) hz).trans (by rw [Lib.cell_of_heap b0]; rfl), HL.out W (B0.trans (hW.mono B0.size)), B0.trans (hW.mono B0.size)⟩
  clear B0 b0 HL hz
  go_loopw [9, 10] (fun iv jv wr => ∃ (i j : Nat), iv = .int .i64 i ∧ jv = .int .i64 j ∧ i ≤ j ∧ j ≤ l.length ∧ Hid ((∀ t (ht : t < l.length), t < i → ltS (spG l[t]) (yp, ys)) ∧ (∀ t (ht : t < l.length), j ≤ t → ¬ ltS (spG l[t]) (yp, ys))) ∧ Below w0.heap.size w0 wr) (fun i j _ => (intOf j).toNat - (intOf i).toNat)
  case atStart => exact ⟨0, l.length, rfl, rfl, Nat.zero_le _, Nat.le_refl _, ⟨fun t _ h => by omega, fun t h1 h2 => by omega⟩, Below.refl _ _⟩
  case round =>
  obtain ⟨i, j, rfl, rfl, hij, hj, HF, BR⟩ := hrel
  obtain ⟨c0, c1, ⟨_, _, e0, hal, _⟩, QB⟩ := HT.out wr BR
  cases e0
  by_cases hlt : i < j
  · obtain ⟨m, hm⟩ : ∃ m : Nat, (i + j) / 2 = m := ⟨_, rfl⟩
    have hm1 : ((i : Int) + j) / 2 = m := by omega
    have hml : m < l.length := by omega
    have hmi : i ≤ m ∧ m < j := by omega
    obtain ⟨b2, o2, u, rfl, hb2, q0, q1, q2, _⟩ := hal.at (Below.refl _ _) hml
    have HX : Hid (spG l[m] = (l[m].pl, l[m].st)) := rfl
    have HLT : Hid (ltS (spG l[m]) (yp, ys) → ∀ t (ht : t < l.length), t < m + 1 → ltS (spG l[t]) (yp, ys)) := fun h t ht htm => by
      rcases Nat.lt_or_ge t m with h' | h'
      · exact ltS_trans (HU.out.at ht hml h') h
      · obtain rfl : t = m := by omega
        exact h
    have HGE : Hid (¬ ltS (spG l[m]) (yp, ys) → ∀ t (ht : t < l.length), m ≤ t → ¬ ltS (spG l[t]) (yp, ys)) := fun h t ht htm hl => by
      rcases Nat.lt_or_ge m t with h' | h'
      · exact h (ltS_trans (HU.out.at hml ht h') hl)
      · obtain rfl : t = m := by omega
        exact h hl
    generalize l[m].st = xs at *
    generalize l[m].pl = xp at *
    clear hm hal
    go_upto_region 5 with fail
    have HBD : Hid (Below wr.heap.size wr wr.drew) := below_drewN (Below.refl _ _) 1
    have HS : wr.drew.cell? ⟨w.heap.size, 0, none⟩ = some (.int .i64 yp) ∧ wr.drew.cell? ⟨w.heap.size, 1, none⟩ = some (.int .i64 ys) ∧ wr.drew.cell? ⟨b2, o2 + m * 3, none⟩ = some (.int .i64 xs) ∧ wr.drew.cell? ⟨b2, o2 + m * 3 + 1, none⟩ = some (.int .i64 xp) ∧ wr.drew.cell? ⟨b2, o2 + m * 3 + 2, none⟩ = some u := ⟨c0, c1, q0, q1, q2⟩
    have HS1 : Hid (∀ V, Below wr.heap.size wr V → (V.cell? ⟨w.heap.size, 0, none⟩ = some (.int .i64 yp) ∧ V.cell? ⟨w.heap.size, 1, none⟩ = some (.int .i64 ys) ∧ V.cell? ⟨b2, o2 + m * 3, none⟩ = some (.int .i64 xs) ∧ V.cell? ⟨b2, o2 + m * 3 + 1, none⟩ = some (.int .i64 xp) ∧ V.cell? ⟨b2, o2 + m * 3 + 2, none⟩ = some u) ∧ Below w0.heap.size w0 V) := fun V hV => ⟨⟨(hV.cell (p := ⟨w.heap.size, 0, none⟩) (World.block_lt_of_cell? _ _ c0)).trans c0, (hV.cell (p := ⟨w.heap.size, 1, none⟩) (World.block_lt_of_cell? _ _ c1)).trans c1, (hV.cell (p := ⟨b2, o2 + m * 3, none⟩) hb2).trans q0, (hV.cell (p := ⟨b2, o2 + m * 3 + 1, none⟩) hb2).trans q1, (hV.cell (p := ⟨b2, o2 + m * 3 + 2, none⟩) hb2).trans q2⟩, BR.trans (hV.mono BR.size)⟩
    clear c0 c1 q0 q1 q2 hb2 BR QB
    refine wp_region_L (fun W => W.cell? ⟨w.heap.size, 0, none⟩ = some (.int .i64 yp) ∧ W.cell? ⟨w.heap.size, 1, none⟩ = some (.int .i64 ys) ∧ W.cell? ⟨b2, o2 + m * 3, none⟩ = some (.int .i64 xs) ∧ W.cell? ⟨b2, o2 + m * 3 + 1, none⟩ = some (.int .i64 xp) ∧ W.cell? ⟨b2, o2 + m * 3 + 2, none⟩ = some u) 8 (by kernel_rfl) 8 rfl ?_
    refine wpAnyL_take' (i := 0) (v := ?_) (oi := { dst := some 24, op := Op.move (Operand.tmp 2), type := 74, pos := "sort.go:160", after := #[], guard := none }) rfl (by kernel_rfl) (by kernel_rfl) (by kernel_rfl) (by kernel_rfl) rfl (fun _ _ _ h => h) (Or.inl ⟨by rfl, ?_⟩) HS ?_
    rotate_left
    · intro W hSW
      go_simp
      try with_reducible rfl
    simp only [Act.put, List.setIfInBounds_toArray, List.set_cons_zero, List.set_cons_succ]
    refine wpAnyL_take' (i := 1) (v := ?_) (oi := { dst := some 25, op := Op.move (Operand.tmp 0), type := 22, pos := "sort.go:160", after := #[], guard := none }) rfl (by kernel_rfl) (by kernel_rfl) (by kernel_rfl) (by kernel_rfl) rfl (fun _ _ _ h => h) (Or.inl ⟨by rfl, ?_⟩) HS ?_
    rotate_left
    · intro W hSW
      go_simp
      try with_reducible rfl
    simp only [Act.put, List.setIfInBounds_toArray, List.set_cons_zero, List.set_cons_succ]
    refine wpAnyL_take' (i := 2) (v := ?_) (oi := { dst := some 26, op := Op.move (Operand.tmp 11), type := 3, pos := "sort.go:160", after := #[], guard := none }) rfl (by kernel_rfl) (by kernel_rfl) (by kernel_rfl) (by kernel_rfl) rfl (fun _ _ _ h => h) (Or.inl ⟨by rfl, ?_⟩) HS ?_
    rotate_left
    · intro W hSW
      go_simp
      try with_reducible rfl
    simp only [Act.put, List.setIfInBounds_toArray, List.set_cons_zero, List.set_cons_succ]
    refine wpAnyL_take' (i := 3) (v := ?_) (oi := { dst := some 27, op := Op.indexAddr 22 (Operand.tmp 25) (Operand.tmp 26), type := 0, pos := "sort.go:160", after := #[{ on := 1, ground := Ground.data }, { on := 2, ground := Ground.data }], guard := none }) rfl (by kernel_rfl) (by kernel_rfl) (by kernel_rfl) (by kernel_rfl) rfl (fun _ _ _ h => h) (Or.inl ⟨by rfl, ?_⟩) HS ?_
    rotate_left
    · intro W hSW
      go_simp
      try with_reducible rfl
    simp only [Act.put, List.setIfInBounds_toArray, List.set_cons_zero, List.set_cons_succ]
    refine wpAnyL_take' (i := 4) (v := ?_) (oi := { dst := some 28, op := Op.load 35 (Operand.tmp 27), type := 35, pos := "sort.go:160", after := #[{ on := 3, ground := Ground.data }], guard := none }) rfl (by kernel_rfl) (by kernel_rfl) (by kernel_rfl) (by kernel_rfl) rfl (fun _ _ _ h => h) (Or.inl ⟨by rfl, ?_⟩) HS ?_
    rotate_left
    · intro W hSW
      go_simp
      try with_reducible rfl
    simp only [Act.put, List.setIfInBounds_toArray, List.set_cons_zero, List.set_cons_succ]
    refine wpAnyL_take' (i := 5) (v := ?_) (oi := { dst := some 29, op := Op.load 48 (Operand.tmp 4), type := 48, pos := "sort.go:160", after := #[], guard := none }) rfl (by kernel_rfl) (by kernel_rfl) (by kernel_rfl) (by kernel_rfl) rfl (fun _ _ _ h => h) (Or.inl ⟨by rfl, ?_⟩) HS ?_
    rotate_left
    · intro W hSW
      go_simp
      try with_reducible rfl
    simp only [Act.put, List.setIfInBounds_toArray, List.set_cons_zero, List.set_cons_succ]
    refine wpAnyL_one' (i := 6) (o := { dst := some 30, op := Op.call { callee := Callee.value (Operand.tmp 24), args := #[Operand.tmp 28, Operand.tmp 29], argTypes := #[35, 48] }, type := 3, pos := "sort.go:160", after := #[{ on := 0, ground := Ground.data }, { on := 4, ground := Ground.data }, { on := 5, ground := Ground.data }], guard := none }) (by kernel_rfl) rfl rfl (fun K hK => ?_)
    go_simp
    refine (seekC_any _ _ _ _ _ _).mono ?_
    rintro e w2 ⟨rfl, hb2⟩
    refine hK.out _ _ (fun _ => (HS1.out _ (HBD.out.trans (hb2.mono HBD.out.size))).1) ?_
    clear hK
    obtain ⟨HS2, BW⟩ := HS1.out _ (HBD.out.trans (hb2.mono HBD.out.size))
    clear HS hb2 HS1 HBD
    refine wpAnyL_take' (i := 7) (v := ?_) (oi := { dst := some 31, op := Op.binOp BinOp.lss 3 (Operand.tmp 30) (Operand.const (Value.int IntKind.i64 0)) 3, type := 4, pos := "sort.go:160", after := #[{ on := 6, ground := Ground.data }], guard := none }) rfl (by kernel_rfl) (by kernel_rfl) (by kernel_rfl) (by kernel_rfl) rfl (fun _ _ _ h => h) (Or.inl ⟨by rfl, ?_⟩) HS2 ?_
    rotate_left
    · intro W hSW
      go_simp
      try with_reducible rfl
    simp only [Act.put, List.setIfInBounds_toArray, List.set_cons_zero, List.set_cons_succ]
    refine wpAnyL_done (by kernel_rfl) ?_ _
    by_cases hc : ltS (xp, xs) (yp, ys)
    · have d0 : cmpS (xp, xs) (yp, ys) < 0 := cmpS_lt.2 hc
      have d : decide (cmpS (xp, xs) (yp, ys) < 0) = true := decide_eq_true d0
      have HF2 : Hid ((∀ t (ht : t < l.length), t < m + 1 → ltS (spG l[t]) (yp, ys)) ∧ (∀ t (ht : t < l.length), j ≤ t → ¬ ltS (spG l[t]) (yp, ys))) := ⟨HLT.out (by rw [HX.out]; exact hc), HF.out.2⟩
      generalize cmpS (xp, xs) (yp, ys) = cv at *
      clear HF HLT HGE HX hc
      go_wp2_with fail
      exact ⟨⟨m + 1, j, by go_num, rfl, by omega, hj, HF2, BW⟩, by simp [intOf]; omega⟩
    · have d0 : ¬ cmpS (xp, xs) (yp, ys) < 0 := fun h => hc (cmpS_lt.1 h)
      have d : decide (cmpS (xp, xs) (yp, ys) < 0) = false := decide_eq_false d0
      have HF2 : Hid ((∀ t (ht : t < l.length), t < i → ltS (spG l[t]) (yp, ys)) ∧ (∀ t (ht : t < l.length), m ≤ t → ¬ ltS (spG l[t]) (yp, ys))) := ⟨HF.out.1, HGE.out (by rw [HX.out]; exact hc)⟩
      generalize cmpS (xp, xs) (yp, ys) = cv at *
      clear HF HLT HGE HX hc
      go_wp2_with fail
      exact ⟨⟨i, m, rfl, rfl, by omega, by omega, HF2, BW⟩, by simp [intOf]; omega⟩
  · obtain rfl : i = j := by omega
    have HP : Hid (posG l (yp, ys) = i) := posG_eq hj (fun t ht h => HF.out.1 t ht h) (fun h => HF.out.2 i h (Nat.le_refl _))
    have HV : Hid (thereB l (yp, ys) = (l[i]?).any fun x => decide (spG x = (yp, ys))) := by show _ = _; unfold thereB; rw [HP.out]
    obtain ⟨TB, HTB⟩ : ∃ TB, Hid (thereB l (yp, ys) = TB) := ⟨_, rfl⟩
    rw [HTB.out] at HV
    by_cases hil : i < l.length
    · obtain ⟨b2, o2, u, rfl, hb2, q0, q1, q2, _⟩ := hal.at (Below.refl _ _) hil
      have HX : Hid (TB = decide ((l[i].pl, l[i].st) = (yp, ys))) := by show _ = _; rw [HV.out, List.getElem?_eq_getElem hil]; rfl
      generalize l[i].st = xs at *
      generalize l[i].pl = xp at *
      have HX2 : Hid (TB = (cmpS (xp, xs) (yp, ys) == 0)) := by
        show _ = _
        rw [HX.out, Bool.eq_iff_iff, decide_eq_true_eq, beq_iff_eq, cmpS_zero]
      clear hal HF HV HX
      have d8 : decide ((i : Int) < l.length) = true := decide_eq_true (by omega)
      go_upto_region 8 with fail
      have HBD : Hid (Below wr.heap.size wr wr.drew) := below_drewN (Below.refl _ _) 1
      have HS : wr.drew.cell? ⟨w.heap.size, 0, none⟩ = some (.int .i64 yp) ∧ wr.drew.cell? ⟨w.heap.size, 1, none⟩ = some (.int .i64 ys) ∧ wr.drew.cell? ⟨b2, o2 + i * 3, none⟩ = some (.int .i64 xs) ∧ wr.drew.cell? ⟨b2, o2 + i * 3 + 1, none⟩ = some (.int .i64 xp) ∧ wr.drew.cell? ⟨b2, o2 + i * 3 + 2, none⟩ = some u := ⟨c0, c1, q0, q1, q2⟩
      have HS1 : Hid (∀ V, Below wr.heap.size wr V → (V.cell? ⟨w.heap.size, 0, none⟩ = some (.int .i64 yp) ∧ V.cell? ⟨w.heap.size, 1, none⟩ = some (.int .i64 ys) ∧ V.cell? ⟨b2, o2 + i * 3, none⟩ = some (.int .i64 xs) ∧ V.cell? ⟨b2, o2 + i * 3 + 1, none⟩ = some (.int .i64 xp) ∧ V.cell? ⟨b2, o2 + i * 3 + 2, none⟩ = some u) ∧ Below w.heap.size w V) := fun V hV => ⟨⟨(hV.cell (p := ⟨w.heap.size, 0, none⟩) (World.block_lt_of_cell? _ _ c0)).trans c0, (hV.cell (p := ⟨w.heap.size, 1, none⟩) (World.block_lt_of_cell? _ _ c1)).trans c1, (hV.cell (p := ⟨b2, o2 + i * 3, none⟩) hb2).trans q0, (hV.cell (p := ⟨b2, o2 + i * 3 + 1, none⟩) hb2).trans q1, (hV.cell (p := ⟨b2, o2 + i * 3 + 2, none⟩) hb2).trans q2⟩, QB.trans (hV.mono QB.size)⟩
      clear c0 c1 q0 q1 q2 hb2 BR QB
      refine wp_region_L (fun W => W.cell? ⟨w.heap.size, 0, none⟩ = some (.int .i64 yp) ∧ W.cell? ⟨w.heap.size, 1, none⟩ = some (.int .i64 ys) ∧ W.cell? ⟨b2, o2 + i * 3, none⟩ = some (.int .i64 xs) ∧ W.cell? ⟨b2, o2 + i * 3 + 1, none⟩ = some (.int .i64 xp) ∧ W.cell? ⟨b2, o2 + i * 3 + 2, none⟩ = some u) 16 (by kernel_rfl) 16 rfl ?_
      refine wpAnyL_take' (i := 0) (v := ?_) (oi := { dst := some 35, op := Op.move (Operand.tmp 9), type := 3, pos := "sort.go:167", after := #[], guard := none }) rfl (by kernel_rfl) (by kernel_rfl) (by kernel_rfl) (by kernel_rfl) rfl (fun _ _ _ h => h) (Or.inl ⟨by rfl, ?_⟩) HS ?_
      rotate_left
      · intro W hSW
        go_simp
        try with_reducible rfl
      simp only [Act.put, List.setIfInBounds_toArray, List.set_cons_zero, List.set_cons_succ]
      refine wpAnyL_take' (i := 1) (v := ?_) (oi := { dst := some 36, op := Op.move (Operand.tmp 9), type := 3, pos := "sort.go:167", after := #[], guard := none }) rfl (by kernel_rfl) (by kernel_rfl) (by kernel_rfl) (by kernel_rfl) rfl (fun _ _ _ h => h) (Or.inl ⟨by rfl, ?_⟩) HS ?_
      rotate_left
      · intro W hSW
        go_simp
        try with_reducible rfl
      simp only [Act.put, List.setIfInBounds_toArray, List.set_cons_zero, List.set_cons_succ]
      refine wpAnyL_take' (i := 2) (v := ?_) (oi := { dst := some 37, op := Op.move (Operand.tmp 8), type := 3, pos := "sort.go:167", after := #[], guard := none }) rfl (by kernel_rfl) (by kernel_rfl) (by kernel_rfl) (by kernel_rfl) rfl (fun _ _ _ h => h) (Or.inl ⟨by rfl, ?_⟩) HS ?_
      rotate_left
      · intro W hSW
        go_simp
        try with_reducible rfl
      simp only [Act.put, List.setIfInBounds_toArray, List.set_cons_zero, List.set_cons_succ]
      refine wpAnyL_take' (i := 3) (v := ?_) (oi := { dst := some 38, op := Op.binOp BinOp.lss 3 (Operand.tmp 36) (Operand.tmp 37) 3, type := 4, pos := "sort.go:167", after := #[{ on := 1, ground := Ground.data }, { on := 2, ground := Ground.data }], guard := none }) rfl (by kernel_rfl) (by kernel_rfl) (by kernel_rfl) (by kernel_rfl) rfl (fun _ _ _ h => h) (Or.inl ⟨by rfl, ?_⟩) HS ?_
      rotate_left
      · intro W hSW
        go_simp
        try with_reducible rfl
      simp only [Act.put, List.setIfInBounds_toArray, List.set_cons_zero, List.set_cons_succ]
      refine wpAnyL_take' (i := 4) (v := ?_) (oi := { dst := some 39, op := Op.move (Operand.tmp 38), type := 4, pos := "sort.go:167", after := #[{ on := 3, ground := Ground.data }], guard := none }) rfl (by kernel_rfl) (by kernel_rfl) (by kernel_rfl) (by kernel_rfl) rfl (fun _ _ _ h => h) (Or.inl ⟨by rfl, ?_⟩) HS ?_
      rotate_left
      · intro W hSW
        go_simp
        try with_reducible rfl
      simp only [Act.put, List.setIfInBounds_toArray, List.set_cons_zero, List.set_cons_succ]
      refine wpAnyL_take' (i := 5) (v := ?_) (oi := { dst := some 40, op := Op.move (Operand.tmp 2), type := 74, pos := "sort.go:167", after := #[{ on := 4, ground := Ground.guard }], guard := some (4, true) }) rfl (by kernel_rfl) (by kernel_rfl) (by kernel_rfl) (by kernel_rfl) rfl (fun _ _ _ h => h) (Or.inl ⟨by rfl, ?_⟩) HS ?_
      rotate_left
      · intro W hSW
        go_simp
        try with_reducible rfl
      simp only [Act.put, List.setIfInBounds_toArray, List.set_cons_zero, List.set_cons_succ]
      refine wpAnyL_take' (i := 6) (v := ?_) (oi := { dst := some 41, op := Op.move (Operand.tmp 0), type := 22, pos := "sort.go:167", after := #[{ on := 4, ground := Ground.guard }], guard := some (4, true) }) rfl (by kernel_rfl) (by kernel_rfl) (by kernel_rfl) (by kernel_rfl) rfl (fun _ _ _ h => h) (Or.inl ⟨by rfl, ?_⟩) HS ?_
      rotate_left
      · intro W hSW
        go_simp
        try with_reducible rfl
      simp only [Act.put, List.setIfInBounds_toArray, List.set_cons_zero, List.set_cons_succ]
      refine wpAnyL_take' (i := 7) (v := ?_) (oi := { dst := some 42, op := Op.move (Operand.tmp 9), type := 3, pos := "sort.go:167", after := #[{ on := 4, ground := Ground.guard }], guard := some (4, true) }) rfl (by kernel_rfl) (by kernel_rfl) (by kernel_rfl) (by kernel_rfl) rfl (fun _ _ _ h => h) (Or.inl ⟨by rfl, ?_⟩) HS ?_
      rotate_left
      · intro W hSW
        go_simp
        try with_reducible rfl
      simp only [Act.put, List.setIfInBounds_toArray, List.set_cons_zero, List.set_cons_succ]
      refine wpAnyL_take' (i := 8) (v := ?_) (oi := { dst := some 43, op := Op.indexAddr 22 (Operand.tmp 41) (Operand.tmp 42), type := 0, pos := "sort.go:167", after := #[{ on := 6, ground := Ground.data }, { on := 7, ground := Ground.data }, { on := 4, ground := Ground.guard }], guard := some (4, true) }) rfl (by kernel_rfl) (by kernel_rfl) (by kernel_rfl) (by kernel_rfl) rfl (fun _ _ _ h => h) (Or.inl ⟨by rfl, ?_⟩) HS ?_
      rotate_left
      · intro W hSW
        go_simp
        try with_reducible rfl
      simp only [Act.put, List.setIfInBounds_toArray, List.set_cons_zero, List.set_cons_succ]
      refine wpAnyL_take' (i := 9) (v := ?_) (oi := { dst := some 44, op := Op.load 35 (Operand.tmp 43), type := 35, pos := "sort.go:167", after := #[{ on := 8, ground := Ground.data }, { on := 4, ground := Ground.guard }], guard := some (4, true) }) rfl (by kernel_rfl) (by kernel_rfl) (by kernel_rfl) (by kernel_rfl) rfl (fun _ _ _ h => h) (Or.inl ⟨by rfl, ?_⟩) HS ?_
      rotate_left
      · intro W hSW
        go_simp
        try with_reducible rfl
      simp only [Act.put, List.setIfInBounds_toArray, List.set_cons_zero, List.set_cons_succ]
      refine wpAnyL_take' (i := 10) (v := ?_) (oi := { dst := some 45, op := Op.load 48 (Operand.tmp 4), type := 48, pos := "sort.go:167", after := #[{ on := 4, ground := Ground.guard }], guard := some (4, true) }) rfl (by kernel_rfl) (by kernel_rfl) (by kernel_rfl) (by kernel_rfl) rfl (fun _ _ _ h => h) (Or.inl ⟨by rfl, ?_⟩) HS ?_
      rotate_left
      · intro W hSW
        go_simp
        try with_reducible rfl
      simp only [Act.put, List.setIfInBounds_toArray, List.set_cons_zero, List.set_cons_succ]
      refine wpAnyL_one' (i := 11) (o := { dst := some 46, op := Op.call { callee := Callee.value (Operand.tmp 40), args := #[Operand.tmp 44, Operand.tmp 45], argTypes := #[35, 48] }, type := 3, pos := "sort.go:167", after := #[{ on := 5, ground := Ground.data }, { on := 9, ground := Ground.data }, { on := 10, ground := Ground.data }, { on := 4, ground := Ground.chain }, { on := 4, ground := Ground.guard }], guard := some (4, true) }) (by kernel_rfl) rfl rfl (fun K hK => ?_)
      go_simp
      refine (seekC_any _ _ _ _ _ _).mono ?_
      rintro e w2 ⟨rfl, hb2⟩
      refine hK.out _ _ (fun _ => (HS1.out _ (HBD.out.trans (hb2.mono HBD.out.size))).1) ?_
      clear hK
      obtain ⟨HS2, BW⟩ := HS1.out _ (HBD.out.trans (hb2.mono HBD.out.size))
      clear HS hb2 HS1 HBD
      refine wpAnyL_take' (i := 12) (v := ?_) (oi := { dst := some 47, op := Op.binOp BinOp.eql 3 (Operand.tmp 46) (Operand.const (Value.int IntKind.i64 0)) 3, type := 4, pos := "sort.go:167", after := #[{ on := 11, ground := Ground.data }, { on := 4, ground := Ground.guard }, { on := 14, ground := Ground.gcOnly Departure.lateStores }], guard := some (4, true) }) rfl (by kernel_rfl) (by kernel_rfl) (by kernel_rfl) (by kernel_rfl) rfl (fun _ _ _ h => h) (Or.inl ⟨by rfl, ?_⟩) HS2 ?_
      rotate_left
      · intro W hSW
        go_simp
        try with_reducible rfl
      simp only [Act.put, List.setIfInBounds_toArray, List.set_cons_zero, List.set_cons_succ]
      refine wpAnyL_take' (i := 13) (v := ?_) (oi := { dst := some 48, op := Op.pick (Operand.tmp 39) (Operand.tmp 47) (Operand.const (Value.bool false)), type := 4, pos := "sort.go:167", after := #[{ on := 4, ground := Ground.data }, { on := 12, ground := Ground.data }, { on := 14, ground := Ground.gcOnly Departure.lateStores }], guard := none }) rfl (by kernel_rfl) (by kernel_rfl) (by kernel_rfl) (by kernel_rfl) rfl (fun _ _ _ h => h) (Or.inl ⟨by rfl, ?_⟩) HS2 ?_
      rotate_left
      · intro W hSW
        go_simp
        try with_reducible rfl
      simp only [Act.put, List.setIfInBounds_toArray, List.set_cons_zero, List.set_cons_succ]
      refine wpAnyL_take' (i := 14) (v := ?_) (oi := { dst := some 6, op := Op.assign (Operand.tmp 35), type := 3, pos := "sort.go:167", after := #[{ on := 0, ground := Ground.data }, { on := 11, ground := Ground.chain }, { on := 0, ground := Ground.phase }, { on := 1, ground := Ground.textOnly Departure.lateStores }, { on := 2, ground := Ground.textOnly Departure.lateStores }, { on := 3, ground := Ground.textOnly Departure.lateStores }, { on := 4, ground := Ground.textOnly Departure.lateStores }, { on := 5, ground := Ground.textOnly Departure.lateStores }, { on := 6, ground := Ground.textOnly Departure.lateStores }, { on := 7, ground := Ground.textOnly Departure.lateStores }, { on := 8, ground := Ground.textOnly Departure.lateStores }, { on := 9, ground := Ground.textOnly Departure.lateStores }, { on := 10, ground := Ground.textOnly Departure.lateStores }, { on := 11, ground := Ground.textOnly Departure.lateStoresUnsure }, { on := 12, ground := Ground.textOnly Departure.lateStores }, { on := 13, ground := Ground.textOnly Departure.lateStores }], guard := none }) rfl (by kernel_rfl) (by kernel_rfl) (by kernel_rfl) (by kernel_rfl) rfl (fun _ _ _ h => h) (Or.inl ⟨by rfl, ?_⟩) HS2 ?_
      rotate_left
      · intro W hSW
        go_simp
        try with_reducible rfl
      simp only [Act.put, List.setIfInBounds_toArray, List.set_cons_zero, List.set_cons_succ]
      refine wpAnyL_take' (i := 15) (v := ?_) (oi := { dst := some 7, op := Op.assign (Operand.tmp 48), type := 4, pos := "sort.go:167", after := #[{ on := 13, ground := Ground.data }, { on := 14, ground := Ground.chain }, { on := 0, ground := Ground.phase }, { on := 1, ground := Ground.phase }, { on := 2, ground := Ground.phase }, { on := 3, ground := Ground.phase }, { on := 4, ground := Ground.phase }, { on := 5, ground := Ground.phase }, { on := 6, ground := Ground.phase }, { on := 7, ground := Ground.phase }, { on := 8, ground := Ground.phase }, { on := 9, ground := Ground.phase }, { on := 10, ground := Ground.phase }, { on := 11, ground := Ground.phase }, { on := 12, ground := Ground.phase }, { on := 13, ground := Ground.phase }, { on := 14, ground := Ground.phase }], guard := none }) rfl (by kernel_rfl) (by kernel_rfl) (by kernel_rfl) (by kernel_rfl) rfl (fun _ _ _ h => h) (Or.inl ⟨by rfl, ?_⟩) HS2 ?_
      rotate_left
      · intro W hSW
        go_simp
        try with_reducible rfl
      simp only [Act.put, List.setIfInBounds_toArray, List.set_cons_zero, List.set_cons_succ]
      refine wpAnyL_done (by kernel_rfl) ?_ _
      go_wp2_with fail
      go_ret2
      exact ⟨by rw [HTB.out, HX2.out, HP.out]; rfl, BW⟩
    · have HX2 : Hid (TB = false) := by show _ = _; rw [HV.out, List.getElem?_eq_none (by omega)]; rfl
      clear hal HF HV
      have d8 : decide ((i : Int) < l.length) = false := decide_eq_false (by omega)
      go_upto_region 8 with fail
      have HS : (wr.drew.cell? ⟨w.heap.size, 0, none⟩ = some (.int .i64 yp)) := c0
      have BW : Below w.heap.size w wr.drew := below_drewN QB 1
      refine wp_region_L (fun W => W.cell? ⟨w.heap.size, 0, none⟩ = some (.int .i64 yp)) 16 (by kernel_rfl) 16 rfl ?_
      refine wpAnyL_take' (i := 0) (v := ?_) (oi := { dst := some 35, op := Op.move (Operand.tmp 9), type := 3, pos := "sort.go:167", after := #[], guard := none }) rfl (by kernel_rfl) (by kernel_rfl) (by kernel_rfl) (by kernel_rfl) rfl (fun _ _ _ h => h) (Or.inl ⟨by rfl, ?_⟩) HS ?_
      rotate_left
      · intro W hSW
        go_simp
        try with_reducible rfl
      simp only [Act.put, List.setIfInBounds_toArray, List.set_cons_zero, List.set_cons_succ]
      refine wpAnyL_take' (i := 1) (v := ?_) (oi := { dst := some 36, op := Op.move (Operand.tmp 9), type := 3, pos := "sort.go:167", after := #[], guard := none }) rfl (by kernel_rfl) (by kernel_rfl) (by kernel_rfl) (by kernel_rfl) rfl (fun _ _ _ h => h) (Or.inl ⟨by rfl, ?_⟩) HS ?_
      rotate_left
      · intro W hSW
        go_simp
        try with_reducible rfl
      simp only [Act.put, List.setIfInBounds_toArray, List.set_cons_zero, List.set_cons_succ]
      refine wpAnyL_take' (i := 2) (v := ?_) (oi := { dst := some 37, op := Op.move (Operand.tmp 8), type := 3, pos := "sort.go:167", after := #[], guard := none }) rfl (by kernel_rfl) (by kernel_rfl) (by kernel_rfl) (by kernel_rfl) rfl (fun _ _ _ h => h) (Or.inl ⟨by rfl, ?_⟩) HS ?_
      rotate_left
      · intro W hSW
        go_simp
        try with_reducible rfl
      simp only [Act.put, List.setIfInBounds_toArray, List.set_cons_zero, List.set_cons_succ]
      refine wpAnyL_take' (i := 3) (v := ?_) (oi := { dst := some 38, op := Op.binOp BinOp.lss 3 (Operand.tmp 36) (Operand.tmp 37) 3, type := 4, pos := "sort.go:167", after := #[{ on := 1, ground := Ground.data }, { on := 2, ground := Ground.data }], guard := none }) rfl (by kernel_rfl) (by kernel_rfl) (by kernel_rfl) (by kernel_rfl) rfl (fun _ _ _ h => h) (Or.inl ⟨by rfl, ?_⟩) HS ?_
      rotate_left
      · intro W hSW
        go_simp
        try with_reducible rfl
      simp only [Act.put, List.setIfInBounds_toArray, List.set_cons_zero, List.set_cons_succ]
      refine wpAnyL_take' (i := 4) (v := ?_) (oi := { dst := some 39, op := Op.move (Operand.tmp 38), type := 4, pos := "sort.go:167", after := #[{ on := 3, ground := Ground.data }], guard := none }) rfl (by kernel_rfl) (by kernel_rfl) (by kernel_rfl) (by kernel_rfl) rfl (fun _ _ _ h => h) (Or.inl ⟨by rfl, ?_⟩) HS ?_
      rotate_left
      · intro W hSW
        go_simp
        try with_reducible rfl
      simp only [Act.put, List.setIfInBounds_toArray, List.set_cons_zero, List.set_cons_succ]
      refine wpAnyL_take' (i := 5) (v := undef) (oi := { dst := some 40, op := Op.move (Operand.tmp 2), type := 74, pos := "sort.go:167", after := #[{ on := 4, ground := Ground.guard }], guard := some (4, true) }) rfl (by kernel_rfl) (by kernel_rfl) (by kernel_rfl) (by kernel_rfl) rfl (fun _ _ _ h => h) (Or.inr ⟨by rfl, rfl⟩) HS ?_
      simp only [Act.put, List.setIfInBounds_toArray, List.set_cons_zero, List.set_cons_succ]
      refine wpAnyL_take' (i := 6) (v := undef) (oi := { dst := some 41, op := Op.move (Operand.tmp 0), type := 22, pos := "sort.go:167", after := #[{ on := 4, ground := Ground.guard }], guard := some (4, true) }) rfl (by kernel_rfl) (by kernel_rfl) (by kernel_rfl) (by kernel_rfl) rfl (fun _ _ _ h => h) (Or.inr ⟨by rfl, rfl⟩) HS ?_
      simp only [Act.put, List.setIfInBounds_toArray, List.set_cons_zero, List.set_cons_succ]
      refine wpAnyL_take' (i := 7) (v := undef) (oi := { dst := some 42, op := Op.move (Operand.tmp 9), type := 3, pos := "sort.go:167", after := #[{ on := 4, ground := Ground.guard }], guard := some (4, true) }) rfl (by kernel_rfl) (by kernel_rfl) (by kernel_rfl) (by kernel_rfl) rfl (fun _ _ _ h => h) (Or.inr ⟨by rfl, rfl⟩) HS ?_
      simp only [Act.put, List.setIfInBounds_toArray, List.set_cons_zero, List.set_cons_succ]
      refine wpAnyL_take' (i := 8) (v := undef) (oi := { dst := some 43, op := Op.indexAddr 22 (Operand.tmp 41) (Operand.tmp 42), type := 0, pos := "sort.go:167", after := #[{ on := 6, ground := Ground.data }, { on := 7, ground := Ground.data }, { on := 4, ground := Ground.guard }], guard := some (4, true) }) rfl (by kernel_rfl) (by kernel_rfl) (by kernel_rfl) (by kernel_rfl) rfl (fun _ _ _ h => h) (Or.inr ⟨by rfl, rfl⟩) HS ?_
      simp only [Act.put, List.setIfInBounds_toArray, List.set_cons_zero, List.set_cons_succ]
      refine wpAnyL_take' (i := 9) (v := undef) (oi := { dst := some 44, op := Op.load 35 (Operand.tmp 43), type := 35, pos := "sort.go:167", after := #[{ on := 8, ground := Ground.data }, { on := 4, ground := Ground.guard }], guard := some (4, true) }) rfl (by kernel_rfl) (by kernel_rfl) (by kernel_rfl) (by kernel_rfl) rfl (fun _ _ _ h => h) (Or.inr ⟨by rfl, rfl⟩) HS ?_
      simp only [Act.put, List.setIfInBounds_toArray, List.set_cons_zero, List.set_cons_succ]
      refine wpAnyL_take' (i := 10) (v := undef) (oi := { dst := some 45, op := Op.load 48 (Operand.tmp 4), type := 48, pos := "sort.go:167", after := #[{ on := 4, ground := Ground.guard }], guard := some (4, true) }) rfl (by kernel_rfl) (by kernel_rfl) (by kernel_rfl) (by kernel_rfl) rfl (fun _ _ _ h => h) (Or.inr ⟨by rfl, rfl⟩) HS ?_
      simp only [Act.put, List.setIfInBounds_toArray, List.set_cons_zero, List.set_cons_succ]
      refine wpAnyL_take' (i := 11) (v := undef) (oi := { dst := some 46, op := Op.call { callee := Callee.value (Operand.tmp 40), args := #[Operand.tmp 44, Operand.tmp 45], argTypes := #[35, 48] }, type := 3, pos := "sort.go:167", after := #[{ on := 5, ground := Ground.data }, { on := 9, ground := Ground.data }, { on := 10, ground := Ground.data }, { on := 4, ground := Ground.chain }, { on := 4, ground := Ground.guard }], guard := some (4, true) }) rfl (by kernel_rfl) (by kernel_rfl) (by kernel_rfl) (by kernel_rfl) rfl (fun _ _ _ h => h) (Or.inr ⟨by rfl, rfl⟩) HS ?_
      simp only [Act.put, List.setIfInBounds_toArray, List.set_cons_zero, List.set_cons_succ]
      refine wpAnyL_take' (i := 12) (v := undef) (oi := { dst := some 47, op := Op.binOp BinOp.eql 3 (Operand.tmp 46) (Operand.const (Value.int IntKind.i64 0)) 3, type := 4, pos := "sort.go:167", after := #[{ on := 11, ground := Ground.data }, { on := 4, ground := Ground.guard }, { on := 14, ground := Ground.gcOnly Departure.lateStores }], guard := some (4, true) }) rfl (by kernel_rfl) (by kernel_rfl) (by kernel_rfl) (by kernel_rfl) rfl (fun _ _ _ h => h) (Or.inr ⟨by rfl, rfl⟩) HS ?_
      simp only [Act.put, List.setIfInBounds_toArray, List.set_cons_zero, List.set_cons_succ]
      refine wpAnyL_take' (i := 13) (v := ?_) (oi := { dst := some 48, op := Op.pick (Operand.tmp 39) (Operand.tmp 47) (Operand.const (Value.bool false)), type := 4, pos := "sort.go:167", after := #[{ on := 4, ground := Ground.data }, { on := 12, ground := Ground.data }, { on := 14, ground := Ground.gcOnly Departure.lateStores }], guard := none }) rfl (by kernel_rfl) (by kernel_rfl) (by kernel_rfl) (by kernel_rfl) rfl (fun _ _ _ h => h) (Or.inl ⟨by rfl, ?_⟩) HS ?_
      rotate_left
      · intro W hSW
        go_simp
        try with_reducible rfl
      simp only [Act.put, List.setIfInBounds_toArray, List.set_cons_zero, List.set_cons_succ]
      refine wpAnyL_take' (i := 14) (v := ?_) (oi := { dst := some 6, op := Op.assign (Operand.tmp 35), type := 3, pos := "sort.go:167", after := #[{ on := 0, ground := Ground.data }, { on := 11, ground := Ground.chain }, { on := 0, ground := Ground.phase }, { on := 1, ground := Ground.textOnly Departure.lateStores }, { on := 2, ground := Ground.textOnly Departure.lateStores }, { on := 3, ground := Ground.textOnly Departure.lateStores }, { on := 4, ground := Ground.textOnly Departure.lateStores }, { on := 5, ground := Ground.textOnly Departure.lateStores }, { on := 6, ground := Ground.textOnly Departure.lateStores }, { on := 7, ground := Ground.textOnly Departure.lateStores }, { on := 8, ground := Ground.textOnly Departure.lateStores }, { on := 9, ground := Ground.textOnly Departure.lateStores }, { on := 10, ground := Ground.textOnly Departure.lateStores }, { on := 11, ground := Ground.textOnly Departure.lateStoresUnsure }, { on := 12, ground := Ground.textOnly Departure.lateStores }, { on := 13, ground := Ground.textOnly Departure.lateStores }], guard := none }) rfl (by kernel_rfl) (by kernel_rfl) (by kernel_rfl) (by kernel_rfl) rfl (fun _ _ _ h => h) (Or.inl ⟨by rfl, ?_⟩) HS ?_
      rotate_left
      · intro W hSW
        go_simp
        try with_reducible rfl
      simp only [Act.put, List.setIfInBounds_toArray, List.set_cons_zero, List.set_cons_succ]
      refine wpAnyL_take' (i := 15) (v := ?_) (oi := { dst := some 7, op := Op.assign (Operand.tmp 48), type := 4, pos := "sort.go:167", after := #[{ on := 13, ground := Ground.data }, { on := 14, ground := Ground.chain }, { on := 0, ground := Ground.phase }, { on := 1, ground := Ground.phase }, { on := 2, ground := Ground.phase }, { on := 3, ground := Ground.phase }, { on := 4, ground := Ground.phase }, { on := 5, ground := Ground.phase }, { on := 6, ground := Ground.phase }, { on := 7, ground := Ground.phase }, { on := 8, ground := Ground.phase }, { on := 9, ground := Ground.phase }, { on := 10, ground := Ground.phase }, { on := 11, ground := Ground.phase }, { on := 12, ground := Ground.phase }, { on := 13, ground := Ground.phase }, { on := 14, ground := Ground.phase }], guard := none }) rfl (by kernel_rfl) (by kernel_rfl) (by kernel_rfl) (by kernel_rfl) rfl (fun _ _ _ h => h) (Or.inl ⟨by rfl, ?_⟩) HS ?_
      rotate_left
      · intro W hSW
        go_simp
        try with_reducible rfl
      simp only [Act.put, List.setIfInBounds_toArray, List.set_cons_zero, List.set_cons_succ]
      refine wpAnyL_done (by kernel_rfl) ?_ _
      go_wp2_with fail
      go_ret2
      exact ⟨by rw [HTB.out, HX2.out, HP.out]; rfl, BW⟩

set_option maxRecDepth 100000 in
set_option maxHeartbeats 1600000 in
theorem seek_any (l : List Gn) (v : Value) (s : Sp) (w : World) (hl : SlN l v w) (hu : UpG l) (hlen : l.length ≤ 1000000) :
    Calls Try.prog 20 #[.agg #[v], spV s] w fun e w' => e = .returned (.tuple #[.int .i64 (posG l s : Nat), .bool (thereB l s)]) ∧ Below w.heap.size w w' := by
  obtain ⟨yp, ys⟩ := s
  have B0 : Below w.heap.size w ((w.alloc (Obj.cells #[v] 24)).alloc (Obj.cells #[.int .i64 yp, .int .i64 ys] 48)) := ((Below.refl _ _).alloc (Nat.le_refl _) _).alloc (by simp) _
  have HC := bsearch_any l v (yp, ys) _ (hl.next B0) hu hlen
  obtain ⟨la, lc, rfl, _⟩ := hl
  unfold spV at *
  simp only at *
  generalize posG l (yp, ys) = ps at *
  generalize thereB l (yp, ys) = tb at *
  go_enter Try.func20, Try.ntmps20
  go_wp2_with fail
  refine HC.mono ?_
  rintro e w1 ⟨rfl, hb⟩
  have HE : Hid (Below w.heap.size w w1) := B0.trans (hb.mono B0.size)
  clear HC hb B0
  go_wp2_with fail
  go_ret2
  exact ⟨rfl, HE.out⟩

def findP (l : List Gn) (s : Sp) : Int := if thereB l s then (posG l s : Nat) else -1
end Go.Proofs.Ytjpbfckdiojghaa
