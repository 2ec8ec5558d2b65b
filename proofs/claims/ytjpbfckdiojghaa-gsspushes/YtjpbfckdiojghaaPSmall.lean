/- Stacks: small functions of the program: canBe, has, spotOf, cmp's. -/
import Derived.Test.YtjpbfckdiojghaaGBack
import Derived.Test.YtjpbfckdiojghaaHeld
import Derived.Test.YtjpbfckdiojghaaHeldTwo
import Derived.Deep.Cut
import Derived.Deep.CutRange
namespace Go.Proofs.Ytjpbfckdiojghaa
open Go.RowKit

theorem cell_new {W : World} {p : Addr} {v : Value} {o : Obj} (h : W.cell? p = some v) : (W.alloc o).cell? p = some v := (((Below.refl _ W).alloc (Nat.le_refl _) o).cell (World.block_lt_of_cell? _ _ h)).trans h

set_option maxRecDepth 100000 in
set_option maxHeartbeats 800000 in
theorem canBe_any (n : Int) (w : World) : Calls Try.prog 22 #[.int .i64 n] w fun e w' => e = .returned (.bool (numB n)) ∧ w' = w := by
  by_cases h1 : n ≥ 0
  · have d1 : decide (n ≥ 0) = true := decide_eq_true h1
    have HV : Hid (numB n = decide (n ≤ 65535)) := by show _ = _; unfold numB; simp; omega
    go_enter Try.func22, Try.ntmps22
    go_wp2_with fail
    go_ret
    exact ⟨by rw [HV.out]; rfl, rfl⟩
  · have d1 : decide (n ≥ 0) = false := decide_eq_false h1
    have HV : Hid (numB n = false) := by show _ = _; unfold numB; simp; omega
    go_enter Try.func22, Try.ntmps22
    go_wp2_with fail
    go_ret
    exact ⟨by rw [HV.out]; rfl, rfl⟩

def hasB (l : List Gn) (n : Int) : Bool := decide (0 ≤ n ∧ n < l.length)
set_option maxRecDepth 100000 in
set_option maxHeartbeats 800000 in
theorem has_any (la : Option Addr) (l : List Gn) (lc : Nat) (n : Int) (w : World) : Calls Try.prog 21 #[.agg #[.slice la l.length lc], .int .i64 n] w fun e w' => e = .returned (.bool (hasB l n)) ∧ w' = w.alloc (Obj.cells #[.slice la l.length lc] 24) := by
  by_cases h1 : n ≥ 0
  · have d1 : decide (n ≥ 0) = true := decide_eq_true h1
    have HV : Hid (hasB l n = decide (n < l.length)) := by show _ = _; unfold hasB; simp; omega
    go_enter Try.func21, Try.ntmps21
    go_wp2_with fail
    go_ret
    exact ⟨by rw [HV.out]; rfl, rfl⟩
  · have d1 : decide (n ≥ 0) = false := decide_eq_false h1
    have HV : Hid (hasB l n = false) := by show _ = _; unfold hasB; simp; omega
    go_enter Try.func21, Try.ntmps21
    go_wp2_with fail
    go_ret
    exact ⟨by rw [HV.out]; rfl, rfl⟩

set_option maxRecDepth 100000 in
set_option maxHeartbeats 800000 in
theorem spotOf_any (s p : Int) (u : Value) (w : World) : Calls Try.prog 40 #[.agg #[.int .i64 s, .int .i64 p, u]] w fun e w' => e = .returned (.agg #[.int .i64 p, .int .i64 s]) ∧ Below w.heap.size w w' ∧ w.drawn ≤ w'.drawn := by
  have B0 : Below w.heap.size w ((w.alloc (Obj.cells #[.int .i64 s, .int .i64 p, u] 35)).alloc (Obj.cells #[.int .i64 p, .int .i64 s] 48)) := ((Below.refl _ _).alloc (Nat.le_refl _) _).alloc (by simp) _
  have b0 : ((w.alloc (Obj.cells #[.int .i64 s, .int .i64 p, u] 35)).alloc (Obj.cells #[.int .i64 p, .int .i64 s] 48)).heap[w.heap.size + 1]? = some (Obj.cells #[.int .i64 p, .int .i64 s] 48) := by
    have := heap_alloc_new (w.alloc (Obj.cells #[.int .i64 s, .int .i64 p, u] 35)) (Obj.cells #[.int .i64 p, .int .i64 s] 48)
    simpa using this
  go_enter Try.func40, Try.ntmps40
  go_wp2_with fail
  refine bodyPost_ret (results_cell1 rfl _ _ _ rfl (run_loadVar_row _ _ _ _ _ _ _ b0 Try.underlying48 rfl (by kernel_rfl))) rfl ?_
  exact ⟨rfl, B0, Nat.le_refl _⟩

def cmpI (a b : Int) : Int := if a < b then -1 else if b < a then 1 else 0
set_option maxRecDepth 100000 in
set_option maxHeartbeats 800000 in
theorem isNaN_any (a : Int) (w : World) : Calls Try.prog 61 #[.int .i64 a] w fun e w' => e = .returned (.bool false) ∧ w' = w := by
  have h : (a != a) = false := by simp
  go_enter Try.func61, Try.ntmps61
  go_wp2_with fail
  go_ret
  exact ⟨rfl, rfl⟩
set_option maxRecDepth 100000 in
set_option maxHeartbeats 1600000 in
theorem cmpC_any (a b : Int) (w : World) : Calls Try.prog 58 #[.int .i64 a, .int .i64 b] w fun e w' => e = .returned (.int .i64 (cmpI a b)) ∧ w' = w := by
  have C1 := isNaN_any a w
  have C2 := isNaN_any b w
  by_cases h1 : a < b
  · have d1 : decide (a < b) = true := decide_eq_true h1
    have HV : Hid (cmpI a b = -1) := by show _ = _; unfold cmpI; rw [if_pos h1]
    go_enter Try.func58, Try.ntmps58
    go_wp2_with fail
    refine C1.mono ?_
    rintro e w1 ⟨rfl, rfl⟩
    go_wp2_with fail
    refine C2.mono ?_
    rintro e w2 ⟨rfl, rfl⟩
    clear C1 C2
    go_wp2_with fail
    go_ret
    exact ⟨by rw [HV.out]; rfl, rfl⟩
  have d1 : decide (a < b) = false := decide_eq_false h1
  by_cases h2 : a > b
  · have d2 : decide (a > b) = true := decide_eq_true h2
    have HV : Hid (cmpI a b = 1) := by show _ = _; unfold cmpI; rw [if_neg h1, if_pos h2]
    go_enter Try.func58, Try.ntmps58
    go_wp2_with fail
    refine C1.mono ?_
    rintro e w1 ⟨rfl, rfl⟩
    go_wp2_with fail
    refine C2.mono ?_
    rintro e w2 ⟨rfl, rfl⟩
    clear C1 C2
    go_wp2_with fail
    go_ret
    exact ⟨by rw [HV.out]; rfl, rfl⟩
  · have d2 : decide (a > b) = false := decide_eq_false h2
    have HV : Hid (cmpI a b = 0) := by show _ = _; unfold cmpI; rw [if_neg h1, if_neg h2]
    go_enter Try.func58, Try.ntmps58
    go_wp2_with fail
    refine C1.mono ?_
    rintro e w1 ⟨rfl, rfl⟩
    go_wp2_with fail
    refine C2.mono ?_
    rintro e w2 ⟨rfl, rfl⟩
    clear C1 C2
    go_wp2_with fail
    go_ret
    exact ⟨by rw [HV.out]; rfl, rfl⟩

def orI (a b : Int) : Int := if a = 0 then b else a
set_option maxRecDepth 100000 in
set_option maxHeartbeats 1600000 in
theorem cmpOr_any (a b : Int) (g : Nat) (w : World) (h0 : w.cell? ⟨g, 0, none⟩ = some (.int .i64 a)) (h1 : w.cell? ⟨g, 1, none⟩ = some (.int .i64 b)) : Calls Try.prog 57 #[.slice (some ⟨g, 0, none⟩) 2 2] w fun e w' => e = .returned (.int .i64 (orI a b)) ∧ w' = w := by
  go_enter Try.func57, Try.ntmps57
  go_wp2_with fail
  go_loopw [8] (fun iv wr => ∃ (j : Nat), iv = .int .i64 j ∧ j ≤ 2 ∧ Hid ((1 ≤ j → a = 0) ∧ (2 ≤ j → b = 0)) ∧ wr = w) (fun i _ => 2 - (intOf i).toNat)
  case atStart => exact ⟨0, rfl, Nat.zero_le _, ⟨fun h => by omega, fun h => by omega⟩, rfl⟩
  case round =>
  obtain ⟨j, rfl, hj, HF, rfl⟩ := hrel
  by_cases hlt : j < 2
  case neg =>
    obtain rfl : j = 2 := by omega
    have HV : Hid (orI a b = 0) := by show _ = _; unfold orI; rw [if_pos (HF.out.1 (by omega)), HF.out.2 (by omega)]
    clear HF
    go_wp2_with fail
    go_ret
    exact ⟨by rw [HV.out]; rfl, rfl⟩
  obtain ⟨c, hc, HC⟩ : ∃ c : Int, wr.cell? ⟨g, 0 + j, none⟩ = some (.int .i64 c) ∧ Hid ((j = 0 → c = a) ∧ (j = 1 → c = b)) := by
    rcases Nat.lt_or_ge j 1 with h | h
    · obtain rfl : j = 0 := by omega
      exact ⟨a, h0, fun _ => rfl, fun h => by omega⟩
    · obtain rfl : j = 1 := by omega
      exact ⟨b, h1, fun h => by omega, fun _ => rfl⟩
  rw [Nat.zero_add] at hc
  have hj0 : 0 + j = j := by omega
  clear h0 h1
  by_cases h : c = 0
  · have d : (c != 0) = false := by simpa using h
    have HV : Hid ((1 ≤ j + 1 → a = 0) ∧ (2 ≤ j + 1 → b = 0)) := by
      refine ⟨fun _ => ?_, fun h2 => ?_⟩
      · rcases Nat.lt_or_ge j 1 with h' | h'
        · rw [← HC.out.1 (by omega)]; exact h
        · exact HF.out.1 h'
      · rw [← HC.out.2 (by omega)]; exact h
    clear HF HC h
    go_wp2_with fail
    exact ⟨⟨j + 1, by go_num, by omega, HV, trivial⟩, by simp [intOf]; omega⟩
  · have d : (c != 0) = true := by simpa using h
    have HV : Hid (orI a b = c) := by
      show _ = _
      unfold orI
      rcases Nat.lt_or_ge j 1 with h' | h'
      · have := HC.out.1 (by omega)
        rw [if_neg (by rw [← this]; exact h), this]
      · rw [if_pos (HF.out.1 h'), HC.out.2 (by omega)]
    clear HF HC h
    go_wp2_with fail
    go_ret
    exact ⟨by rw [HV.out]; rfl, rfl⟩

abbrev Sp := Int × Int
def spV (x : Sp) : Value := .agg #[.int .i64 x.1, .int .i64 x.2]
def cmpS (x y : Sp) : Int := orI (cmpI x.1 y.1) (cmpI x.2 y.2)
set_option maxRecDepth 100000 in
set_option maxHeartbeats 1600000 in
theorem compare_any (x y : Sp) (w : World) : Calls Try.prog 39 #[spV x, spV y] w fun e w' => e = .returned (.int .i64 (cmpS x y)) ∧ Below w.heap.size w w' ∧ w.drawn ≤ w'.drawn := by
  obtain ⟨xp, xs⟩ := x
  obtain ⟨yp, ys⟩ := y
  unfold spV cmpS
  simp only
  have B0 : Below w.heap.size w ((w.alloc (Obj.cells #[.int .i64 xp, .int .i64 xs] 48)).alloc (Obj.cells #[.int .i64 yp, .int .i64 ys] 48)) := ((Below.refl _ _).alloc (Nat.le_refl _) _).alloc (by simp) _
  have c0 : ((w.alloc (Obj.cells #[.int .i64 xp, .int .i64 xs] 48)).alloc (Obj.cells #[.int .i64 yp, .int .i64 ys] 48)).cell? ⟨w.heap.size, 0, none⟩ = some (.int .i64 xp) := by simp
  have c1 : ((w.alloc (Obj.cells #[.int .i64 xp, .int .i64 xs] 48)).alloc (Obj.cells #[.int .i64 yp, .int .i64 ys] 48)).cell? ⟨w.heap.size, 1, none⟩ = some (.int .i64 xs) := by simp
  have c2 : ((w.alloc (Obj.cells #[.int .i64 xp, .int .i64 xs] 48)).alloc (Obj.cells #[.int .i64 yp, .int .i64 ys] 48)).cell? ⟨w.heap.size + 1, 0, none⟩ = some (.int .i64 yp) := by simp
  have c3 : ((w.alloc (Obj.cells #[.int .i64 xp, .int .i64 xs] 48)).alloc (Obj.cells #[.int .i64 yp, .int .i64 ys] 48)).cell? ⟨w.heap.size + 1, 1, none⟩ = some (.int .i64 ys) := by simp
  have hd : ((w.alloc (Obj.cells #[.int .i64 xp, .int .i64 xs] 48)).alloc (Obj.cells #[.int .i64 yp, .int .i64 ys] 48)).drawn = w.drawn := rfl
  go_enter Try.func39, Try.ntmps39
  go_upto_region 1 with fail
  generalize (w.alloc (Obj.cells #[.int .i64 xp, .int .i64 xs] 48)).alloc (Obj.cells #[.int .i64 yp, .int .i64 ys] 48) = w0 at *
  have HS0 : (w0.drew.cell? ⟨w.heap.size, 0, none⟩ = some (.int .i64 xp) ∧ w0.drew.cell? ⟨w.heap.size, 1, none⟩ = some (.int .i64 xs) ∧ w0.drew.cell? ⟨w.heap.size + 1, 0, none⟩ = some (.int .i64 yp) ∧ w0.drew.cell? ⟨w.heap.size + 1, 1, none⟩ = some (.int .i64 ys)) := ⟨c0, c1, c2, c3⟩
  refine wp_region_L (fun W => (W.cell? ⟨w.heap.size, 0, none⟩ = some (.int .i64 xp) ∧ W.cell? ⟨w.heap.size, 1, none⟩ = some (.int .i64 xs) ∧ W.cell? ⟨w.heap.size + 1, 0, none⟩ = some (.int .i64 yp) ∧ W.cell? ⟨w.heap.size + 1, 1, none⟩ = some (.int .i64 ys))) 13 (by kernel_rfl) 13 rfl ?_
  refine wpAnyL_take' (i := 0) (v := ?_) (oi := { dst := some 5, op := Op.fieldAddr 48 (Operand.tmp 2) 0, type := 0, pos := "spot.go:25", after := #[], guard := none }) rfl (by kernel_rfl) (by kernel_rfl) (by kernel_rfl) (by kernel_rfl) rfl (fun _ _ _ h => h) (Or.inl ⟨by rfl, ?_⟩) HS0 ?_
  rotate_left
  · intro W hSW
    go_simp
    try with_reducible rfl
  simp only [Act.put, List.setIfInBounds_toArray, List.set_cons_zero, List.set_cons_succ]
  refine wpAnyL_take' (i := 1) (v := ?_) (oi := { dst := some 6, op := Op.load 3 (Operand.tmp 5), type := 3, pos := "spot.go:25", after := #[{ on := 0, ground := Ground.data }], guard := none }) rfl (by kernel_rfl) (by kernel_rfl) (by kernel_rfl) (by kernel_rfl) rfl (fun _ _ _ h => h) (Or.inl ⟨by rfl, ?_⟩) HS0 ?_
  rotate_left
  · intro W hSW
    go_simp
    try with_reducible rfl
  simp only [Act.put, List.setIfInBounds_toArray, List.set_cons_zero, List.set_cons_succ]
  refine wpAnyL_take' (i := 2) (v := ?_) (oi := { dst := some 7, op := Op.fieldAddr 48 (Operand.tmp 3) 0, type := 0, pos := "spot.go:25", after := #[], guard := none }) rfl (by kernel_rfl) (by kernel_rfl) (by kernel_rfl) (by kernel_rfl) rfl (fun _ _ _ h => h) (Or.inl ⟨by rfl, ?_⟩) HS0 ?_
  rotate_left
  · intro W hSW
    go_simp
    try with_reducible rfl
  simp only [Act.put, List.setIfInBounds_toArray, List.set_cons_zero, List.set_cons_succ]
  refine wpAnyL_take' (i := 3) (v := ?_) (oi := { dst := some 8, op := Op.load 3 (Operand.tmp 7), type := 3, pos := "spot.go:25", after := #[{ on := 2, ground := Ground.data }], guard := none }) rfl (by kernel_rfl) (by kernel_rfl) (by kernel_rfl) (by kernel_rfl) rfl (fun _ _ _ h => h) (Or.inl ⟨by rfl, ?_⟩) HS0 ?_
  rotate_left
  · intro W hSW
    go_simp
    try with_reducible rfl
  simp only [Act.put, List.setIfInBounds_toArray, List.set_cons_zero, List.set_cons_succ]
  refine wpAnyL_take' (i := 5) (v := ?_) (oi := { dst := some 10, op := Op.fieldAddr 48 (Operand.tmp 2) 1, type := 0, pos := "spot.go:25", after := #[], guard := none }) rfl (by kernel_rfl) (by kernel_rfl) (by kernel_rfl) (by kernel_rfl) rfl (fun _ _ _ h => h) (Or.inl ⟨by rfl, ?_⟩) HS0 ?_
  rotate_left
  · intro W hSW
    go_simp
    try with_reducible rfl
  simp only [Act.put, List.setIfInBounds_toArray, List.set_cons_zero, List.set_cons_succ]
  refine wpAnyL_take' (i := 6) (v := ?_) (oi := { dst := some 11, op := Op.load 3 (Operand.tmp 10), type := 3, pos := "spot.go:25", after := #[{ on := 5, ground := Ground.data }], guard := none }) rfl (by kernel_rfl) (by kernel_rfl) (by kernel_rfl) (by kernel_rfl) rfl (fun _ _ _ h => h) (Or.inl ⟨by rfl, ?_⟩) HS0 ?_
  rotate_left
  · intro W hSW
    go_simp
    try with_reducible rfl
  simp only [Act.put, List.setIfInBounds_toArray, List.set_cons_zero, List.set_cons_succ]
  refine wpAnyL_take' (i := 7) (v := ?_) (oi := { dst := some 12, op := Op.fieldAddr 48 (Operand.tmp 3) 1, type := 0, pos := "spot.go:25", after := #[], guard := none }) rfl (by kernel_rfl) (by kernel_rfl) (by kernel_rfl) (by kernel_rfl) rfl (fun _ _ _ h => h) (Or.inl ⟨by rfl, ?_⟩) HS0 ?_
  rotate_left
  · intro W hSW
    go_simp
    try with_reducible rfl
  simp only [Act.put, List.setIfInBounds_toArray, List.set_cons_zero, List.set_cons_succ]
  refine wpAnyL_take' (i := 8) (v := ?_) (oi := { dst := some 13, op := Op.load 3 (Operand.tmp 12), type := 3, pos := "spot.go:25", after := #[{ on := 7, ground := Ground.data }], guard := none }) rfl (by kernel_rfl) (by kernel_rfl) (by kernel_rfl) (by kernel_rfl) rfl (fun _ _ _ h => h) (Or.inl ⟨by rfl, ?_⟩) HS0 ?_
  rotate_left
  · intro W hSW
    go_simp
    try with_reducible rfl
  simp only [Act.put, List.setIfInBounds_toArray, List.set_cons_zero, List.set_cons_succ]
  refine wpAnyL_one' (i := 4) (o := { dst := some 9, op := Op.call { callee := Callee.value (Operand.func 58), args := #[Operand.tmp 6, Operand.tmp 8], argTypes := #[3, 3] }, type := 3, pos := "spot.go:25", after := #[{ on := 1, ground := Ground.data }, { on := 3, ground := Ground.data }], guard := none }) (by kernel_rfl) rfl rfl (fun K hK => ?_)
  go_simp
  refine (cmpC_any _ _ _).mono ?_
  rintro e w1 ⟨rfl, rfl⟩
  refine hK.out _ _ (fun _ => HS0) ?_
  clear hK
  refine wpAnyL_one' (i := 9) (o := { dst := some 14, op := Op.call { callee := Callee.value (Operand.func 58), args := #[Operand.tmp 11, Operand.tmp 13], argTypes := #[3, 3] }, type := 3, pos := "spot.go:25", after := #[{ on := 6, ground := Ground.data }, { on := 8, ground := Ground.data }, { on := 4, ground := Ground.chain }], guard := none }) (by kernel_rfl) rfl rfl (fun K hK => ?_)
  go_simp
  refine (cmpC_any _ _ _).mono ?_
  rintro e w2 ⟨rfl, rfl⟩
  refine hK.out _ _ (fun _ => HS0) ?_
  clear hK
  have HS1 : ((w0.alloc (Obj.cells #[.int .i64 (cmpI xp yp), .int .i64 (cmpI xs ys)] 3)).drew.cell? ⟨w.heap.size, 0, none⟩ = some (.int .i64 xp) ∧ (w0.alloc (Obj.cells #[.int .i64 (cmpI xp yp), .int .i64 (cmpI xs ys)] 3)).drew.cell? ⟨w.heap.size, 1, none⟩ = some (.int .i64 xs) ∧ (w0.alloc (Obj.cells #[.int .i64 (cmpI xp yp), .int .i64 (cmpI xs ys)] 3)).drew.cell? ⟨w.heap.size + 1, 0, none⟩ = some (.int .i64 yp) ∧ (w0.alloc (Obj.cells #[.int .i64 (cmpI xp yp), .int .i64 (cmpI xs ys)] 3)).drew.cell? ⟨w.heap.size + 1, 1, none⟩ = some (.int .i64 ys)) := ⟨cell_new c0, cell_new c1, cell_new c2, cell_new c3⟩
  have k0 : (w0.alloc (Obj.cells #[.int .i64 (cmpI xp yp), .int .i64 (cmpI xs ys)] 3)).drew.cell? ⟨w0.heap.size, 0, none⟩ = some (.int .i64 (cmpI xp yp)) := by simp
  have k1 : (w0.alloc (Obj.cells #[.int .i64 (cmpI xp yp), .int .i64 (cmpI xs ys)] 3)).drew.cell? ⟨w0.heap.size, 1, none⟩ = some (.int .i64 (cmpI xs ys)) := by simp
  have HE : Hid (Below w.heap.size w (w0.alloc (Obj.cells #[.int .i64 (cmpI xp yp), .int .i64 (cmpI xs ys)] 3)).drew ∧ w.drawn ≤ (w0.alloc (Obj.cells #[.int .i64 (cmpI xp yp), .int .i64 (cmpI xs ys)] 3)).drew.drawn) := ⟨below_drewN (B0.alloc B0.size _) 1, by rw [← hd]; exact Nat.le_succ _⟩
  refine wpAnyL_one' (i := 10) (o := { dst := some 15, op := Op.buildSlice 33 2 #[(0, Operand.tmp 9), (1, Operand.tmp 14)], type := 33, pos := "spot.go:25", after := #[{ on := 4, ground := Ground.data }, { on := 9, ground := Ground.data }], guard := none }) (by kernel_rfl) rfl rfl (fun K hK => ?_)
  go_simp
  refine hK.out _ _ (fun _ => HS1) ?_
  clear hK HS0 c0 c1 c2 c3 B0 hd
  generalize (w0.alloc (Obj.cells #[.int .i64 (cmpI xp yp), .int .i64 (cmpI xs ys)] 3)).drew = w3 at *
  refine wpAnyL_one' (i := 11) (o := { dst := some 16, op := Op.call { callee := Callee.value (Operand.func 57), args := #[Operand.tmp 15], argTypes := #[33] }, type := 3, pos := "spot.go:25", after := #[{ on := 10, ground := Ground.data }, { on := 9, ground := Ground.chain }], guard := none }) (by kernel_rfl) rfl rfl (fun K hK => ?_)
  go_simp
  refine (cmpOr_any _ _ _ _ k0 k1).mono ?_
  rintro e w4 ⟨rfl, rfl⟩
  refine hK.out _ _ (fun _ => HS1) ?_
  clear hK
  refine wpAnyL_take' (i := 12) (v := ?_) (oi := { dst := some 4, op := Op.assign (Operand.tmp 16), type := 3, pos := "spot.go:25", after := #[{ on := 11, ground := Ground.data }, { on := 11, ground := Ground.chain }, { on := 0, ground := Ground.phase }, { on := 1, ground := Ground.phase }, { on := 2, ground := Ground.phase }, { on := 3, ground := Ground.phase }, { on := 4, ground := Ground.phase }, { on := 5, ground := Ground.phase }, { on := 6, ground := Ground.phase }, { on := 7, ground := Ground.phase }, { on := 8, ground := Ground.phase }, { on := 9, ground := Ground.phase }, { on := 10, ground := Ground.phase }, { on := 11, ground := Ground.phase }], guard := none }) rfl (by kernel_rfl) (by kernel_rfl) (by kernel_rfl) (by kernel_rfl) rfl (fun _ _ _ h => h) (Or.inl ⟨by rfl, ?_⟩) HS1 ?_
  rotate_left
  · intro W hSW
    go_simp
    try with_reducible rfl
  simp only [Act.put, List.setIfInBounds_toArray, List.set_cons_zero, List.set_cons_succ]
  refine wpAnyL_done (by kernel_rfl) ?_ _
  go_wp2_with fail
  go_ret
  exact ⟨rfl, HE.out⟩
end Go.Proofs.Ytjpbfckdiojghaa
