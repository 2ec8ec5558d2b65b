/- Machines in one state: the law DfaSeen, walked. -/
import Derived.Test.YtjmakckepfpheaaLAwake
import Derived.Test.YtjmakckepfpheaaJRNext
import Derived.Test.YtjmakckepfpheaaJWhMath
import Derived.Test.YtjmakckepfpheaaDSmall
import Derived.Deep.Cut
namespace Go.Proofs.Ytjmakckepfpheaa
open Go.RowKit Go.Shelf

theorem bsZ_take (s : ByteArray) (k : Nat) : bsZ (s.extract 0 k) = (bsZ s).take k := by
  unfold bsZ
  rw [ByteArray.data_extract, Array.toList_extract, List.extract_eq_take_drop]
  simp [List.map_take]
theorem bsZ_app (s t : ByteArray) : bsZ (s ++ t) = bsZ s ++ bsZ t := by
  unfold bsZ
  rw [ByteArray.data_append, Array.toList_append, List.map_append]
theorem size_take (s : ByteArray) (k : Nat) (h : k ≤ s.size) : (s.extract 0 k).size = k := by
  rw [← bsZ_len, bsZ_take, List.length_take, bsZ_len]
  omega
theorem size_app (s t : ByteArray) : (s ++ t).size = s.size + t.size := by
  rw [← bsZ_len, bsZ_app, List.length_append, bsZ_len, bsZ_len]

set_option maxRecDepth 100000 in
set_option maxHeartbeats 8000000 in
theorem seen_law (a : List Ds) (u : Value) (s t : ByteArray) (w : World) (ha : SlD a u w) :
    Calls Try.prog 5 #[.agg #[u], .string s, .string t] w fun e w' => e = .returned (.bool true) ∧ Below w.heap.size w w' := by
  have HA : Hid (∀ W, Below w.heap.size w W → SlD a u W) := fun W h => ha.next h
  obtain ⟨aa, ac, rfl, _⟩ := ha
  obtain ⟨w0, hw0⟩ : ∃ w0, w0 = w.alloc (Obj.cells #[.slice aa a.length ac] 24) := ⟨_, rfl⟩
  have B0 : Below w.heap.size w w0 := by rw [hw0]; exact below_box _ _ _
  have k0 : w0.heap[w.heap.size]? = some (Obj.cells #[.slice aa a.length ac] 24) := by rw [hw0]; exact heap_alloc_new _ _
  have HBB : Hid (∀ W, Below w0.heap.size w0 W → Below w.heap.size w W) := fun W h => below_then B0 h B0.size
  have HCL : Hid (∀ W, Below w0.heap.size w0 W → W.cell? ⟨w.heap.size, 0, none⟩ = some (.slice aa a.length ac)) := fun W h => by rw [Lib.cell_of_heap ((h.block _ (blk_lt k0)).trans k0)]; rfl
  obtain ⟨S1, hS1⟩ : ∃ S, smallD a = S := ⟨_, rfl⟩
  obtain ⟨T1, hT1⟩ : ∃ T, fitB a = T := ⟨_, rfl⟩
  have HW : Hid (∀ W, Below w0.heap.size w0 W → (Calls Try.prog 7 #[.agg #[.slice aa a.length ac]] W fun e w' => e = .returned (.bool S1) ∧ Below W.heap.size W w') ∧ (Calls Try.prog 10 #[.agg #[.slice aa a.length ac]] W fun e w' => e = .returned (.bool T1) ∧ Below W.heap.size W w')) := fun W h => by
    have h1 := HA.out _ (HBB.out _ h)
    exact ⟨hS1 ▸ small_any a _ W h1, hT1 ▸ rfit_any a _ W h1⟩
  have HK : Hid (smallD a = S1 ∧ fitB a = T1) := ⟨hS1, hT1⟩
  clear hS1 hT1 k0
  go_enter Try.func5, Try.ntmps5
  go_upto_region 1 with fail
  rw [← hw0]
  clear hw0
  go_cut [29] from 12 (fun t29 wx => t29 = .bool (!(S1 && T1 && decide ((s.size : Int) ≤ 1000) && decide ((t.size : Int) ≤ 1000))) ∧ Below w0.heap.size w0 wx)
  case first =>
    have bz0 : Below w0.heap.size w0 w0 := Below.refl _ _
    have q0 := HCL.out _ bz0
    have HQ := (HW.out _ bz0).1
    go_wp2_with fail
    refine HQ.mono ?_
    clear HQ q0
    rintro e wz1 ⟨rfl, bb1⟩
    have bz1 := below_then bz0 bb1 bz0.size
    clear bb1
    cases S1
    · go_wp2_with fail
      go_meet
      exact ⟨by simp, bz1⟩
    have q0 := HCL.out _ bz1
    have HQ := (HW.out _ bz1).2
    go_wp2_with fail
    refine HQ.mono ?_
    clear HQ q0
    rintro e wz2 ⟨rfl, bb2⟩
    have bz2 := below_then bz1 bb2 bz1.size
    clear bb2
    cases T1
    · go_wp2_with fail
      go_meet
      exact ⟨by simp, bz2⟩
    by_cases h1 : (s.size : Int) ≤ 1000
    case neg =>
      have dd : decide ((s.size : Int) ≤ 1000) = false := decide_eq_false h1
      go_wp2_with fail
      go_meet
      exact ⟨by simp [dd], bz2⟩
    by_cases h2 : (t.size : Int) ≤ 1000
    case neg =>
      have dd : decide ((t.size : Int) ≤ 1000) = false := decide_eq_false h2
      go_wp2_with fail
      go_meet
      exact ⟨by simp [dd], bz2⟩
    go_wp2_with fail
    go_meet
    exact ⟨by rw [decide_eq_true h1, decide_eq_true h2, decide_eq_false (show ¬ (1000 < (t.size : Int)) by omega), decide_eq_false (show ¬ (1000 < (s.size : Int)) by omega)]; rfl, bz2⟩
  case rest =>
  obtain ⟨rfl, hbc⟩ := hcut
  have HG : Hid ((S1 && T1 && decide ((s.size : Int) ≤ 1000) && decide ((t.size : Int) ≤ 1000)) = true → smallD a = true ∧ fitB a = true ∧ s.size ≤ 1000 ∧ t.size ≤ 1000) := fun h => by
    simp only [Bool.and_eq_true, decide_eq_true_eq] at h
    obtain ⟨q1, q2⟩ := HK.out
    exact ⟨q1.trans h.1.1.1, q2.trans h.1.1.2, by omega, by omega⟩
  generalize (S1 && T1 && decide ((s.size : Int) ≤ 1000) && decide ((t.size : Int) ≤ 1000)) = G at *
  cases G
  case false =>
    have HE : Hid (Below w.heap.size w wc) := HBB.out _ hbc
    have CA := awake_any wc
    clear hbc HW HCL HA HBB HK HG B0
    go_wp2_with fail
    refine CA.mono ?_
    rintro e W1 ⟨rfl, hb1⟩
    have HE2 : Hid (Below w.heap.size w W1) := HE.out.trans (hb1.mono HE.out.size)
    clear CA hb1
    go_wp2_with fail
    go_ret
    exact ⟨rfl, HE2.out⟩
  obtain ⟨g1, g2, g3, g4⟩ := HG.out rfl
  have ff := (fitB_fit g2).1
  have HRN : Hid (∀ (W : World) (x : ByteArray), Below w0.heap.size w0 W → x.size ≤ 3000 → Calls Try.prog 13 #[.agg #[.slice aa a.length ac], .string x] W fun e w' => e = .returned (.tuple #[.int .i64 (runD a (bsZ x)).1, .int .i64 (runD a (bsZ x)).2]) ∧ Below W.heap.size W w') := fun W x h hx => run_any a _ x W (HA.out _ (HBB.out _ h)) (fit_up g2 g1) (by omega)
  have HSN : Hid (∀ (W : World) (x : ByteArray), Below w0.heap.size w0 W → x.size ≤ 3000 → Calls Try.prog 19 #[.agg #[.slice aa a.length ac], .string x] W fun e w' => e = .returned (.int .i64 (seenD a (bsZ x))) ∧ Below W.heap.size W w') := fun W x h hx => seen_any a _ x W (HA.out _ (HBB.out _ h)) (fit_up g2 g1) (by omega)
  obtain ⟨kk, hK, hKs⟩ : ∃ kk : Nat, seenD a (bsZ s) = (kk : Int) ∧ kk ≤ s.size := by
    have := seenD_le ff (bsZ s)
    rw [bsZ_len] at this
    exact ⟨(seenD a (bsZ s)).toNat, by omega, by omega⟩
  have HT1 : Hid (runD a (bsZ (s.extract 0 kk)) = runD a (bsZ s) ∧ (s.extract 0 kk).size ≤ 3000) := by
    have := runD_take ff (bsZ s)
    rw [hK, Int.toNat_natCast] at this
    exact ⟨by rw [bsZ_take, this], by rw [size_take s kk hKs]; omega⟩
  have HT2 : Hid ((∃ c, ∃ x : ByteArray, (x = ⟨#[0]⟩ ∨ x = ⟨#[255]⟩) ∧ bsZ x = [c] ∧ seenD a (bsZ (s ++ x)) ≤ kk) ∨ kk < s.size → runD a (bsZ (s.extract 0 kk ++ t)) = runD a (bsZ s)) := fun h => by
    have := runD_app ff (bsZ s) (bsZ t) (by
      rcases h with ⟨c, x, _, hx, h⟩ | h
      · refine .inr ⟨c, ?_⟩
        rw [← hx, ← bsZ_app, hK]; exact h
      · left; rw [hK, bsZ_len]; omega)
    rw [hK, Int.toNat_natCast, ← bsZ_take, ← bsZ_app] at this
    exact this
  have HSZ : Hid ((s.extract 0 kk ++ t).size ≤ 3000 ∧ (s ++ (⟨#[0]⟩ : ByteArray)).size ≤ 3000 ∧ (s ++ (⟨#[255]⟩ : ByteArray)).size ≤ 3000) := ⟨by rw [size_app, size_take s kk hKs]; omega, by rw [size_app]; show s.size + 1 ≤ 3000; omega, by rw [size_app]; show s.size + 1 ≤ 3000; omega⟩
  have C1 := HSN.out wc s hbc (by omega)
  have C2 := fun W h => HRN.out W s h (by omega)
  have HC2 : Hid (∀ W, Below w0.heap.size w0 W → Calls Try.prog 13 #[.agg #[.slice aa a.length ac], .string s] W fun e w' => e = .returned (.tuple #[.int .i64 (runD a (bsZ s)).1, .int .i64 (runD a (bsZ s)).2]) ∧ Below W.heap.size W w') := C2
  have HC3 : Hid (∀ W, Below w0.heap.size w0 W → Calls Try.prog 13 #[.agg #[.slice aa a.length ac], .string (s.extract 0 kk)] W fun e w' => e = .returned (.tuple #[.int .i64 (runD a (bsZ s)).1, .int .i64 (runD a (bsZ s)).2]) ∧ Below W.heap.size W w') := fun W h => by
    have := HRN.out W (s.extract 0 kk) h HT1.out.2
    rw [HT1.out.1] at this
    exact this
  have HC4 : Hid ((∃ c, ∃ x : ByteArray, (x = ⟨#[0]⟩ ∨ x = ⟨#[255]⟩) ∧ bsZ x = [c] ∧ seenD a (bsZ (s ++ x)) ≤ kk) ∨ kk < s.size → ∀ W, Below w0.heap.size w0 W → Calls Try.prog 13 #[.agg #[.slice aa a.length ac], .string (s.extract 0 kk ++ t)] W fun e w' => e = .returned (.tuple #[.int .i64 (runD a (bsZ s)).1, .int .i64 (runD a (bsZ s)).2]) ∧ Below W.heap.size W w') := fun hh W h => by
    have := HRN.out W (s.extract 0 kk ++ t) h HSZ.out.1
    rw [HT2.out hh] at this
    exact this
  have HC5 : Hid (∀ W, Below w0.heap.size w0 W → (Calls Try.prog 19 #[.agg #[.slice aa a.length ac], .string (s ++ (⟨#[0]⟩ : ByteArray))] W fun e w' => e = .returned (.int .i64 (seenD a (bsZ (s ++ (⟨#[0]⟩ : ByteArray))))) ∧ Below W.heap.size W w') ∧ (Calls Try.prog 19 #[.agg #[.slice aa a.length ac], .string (s ++ (⟨#[255]⟩ : ByteArray))] W fun e w' => e = .returned (.int .i64 (seenD a (bsZ (s ++ (⟨#[255]⟩ : ByteArray))))) ∧ Below W.heap.size W w')) := fun W h => ⟨HSN.out W _ h HSZ.out.2.1, HSN.out W _ h HSZ.out.2.2⟩
  rw [hK] at C1
  generalize runD a (bsZ s) = R at *
  obtain ⟨r1, r2⟩ := R
  simp only at HC2 HC3 HC4
  have HS4 : Hid (seenD a (bsZ (s ++ (⟨#[0]⟩ : ByteArray))) ≤ kk → (∃ c, ∃ x : ByteArray, (x = ⟨#[0]⟩ ∨ x = ⟨#[255]⟩) ∧ bsZ x = [c] ∧ seenD a (bsZ (s ++ x)) ≤ kk) ∨ kk < s.size) := fun h => .inl ⟨0, _, .inl rfl, by decide, h⟩
  have HP0 : Hid (kk < s.size → (∃ c, ∃ x : ByteArray, (x = ⟨#[0]⟩ ∨ x = ⟨#[255]⟩) ∧ bsZ x = [c] ∧ seenD a (bsZ (s ++ x)) ≤ kk) ∨ kk < s.size) := fun h => .inr h
  generalize ((∃ c, ∃ x : ByteArray, (x = ⟨#[0]⟩ ∨ x = ⟨#[255]⟩) ∧ bsZ x = [c] ∧ seenD a (bsZ (s ++ x)) ≤ kk) ∨ kk < s.size) = PP at *
  generalize seenD a (bsZ (s ++ (⟨#[0]⟩ : ByteArray))) = z0 at *
  generalize seenD a (bsZ (s ++ (⟨#[255]⟩ : ByteArray))) = z1 at *
  clear C2 HT1 HT2 HSZ HRN HSN HW HK HG g1 g2 ff hK HA B0
  have q0 := HCL.out _ hbc
  go_upto_region 3 with fail
  go_wp2_with fail
  refine C1.mono ?_
  rintro e W1 ⟨rfl, hb1⟩
  have b1 := below_then hbc hb1 hbc.size
  clear C1 q0 hb1 hbc
  have q0 := HCL.out _ b1
  have C1 := HC2.out _ b1
  have dk : decide ((kk : Int) < 0) = false := decide_eq_false (by omega)
  have dk2 : decide ((s.size : Int) < kk) = false := decide_eq_false (by omega)
  go_wp2_with fail
  refine C1.mono ?_
  rintro e W2 ⟨rfl, hb2⟩
  have b2 := below_then b1 hb2 b1.size
  clear C1 q0 hb2 b1
  go_upto_region 7 with fail
  have bd : Below w0.heap.size w0 W2.drew := below_drewN b2 1
  have HS0 := HCL.out _ bd
  have CR := HC3.out _ bd
  clear b2
  refine wp_region_L (fun W => W.cell? ⟨w.heap.size, 0, none⟩ = some (.slice aa a.length ac)) 10 (by kernel_rfl) 10 rfl ?_
  refine wpAnyL_take' (i := 0) (v := ?_) (oi := { dst := some 49, op := Op.load 24 (Operand.tmp 3), type := 24, pos := "law.go:104", after := #[], guard := none }) rfl (by kernel_rfl) (by kernel_rfl) (by kernel_rfl) (by kernel_rfl) rfl (fun _ _ _ h => h) (Or.inl ⟨by rfl, ?_⟩) HS0 ?_
  rotate_left
  · intro W hSW
    go_simp
    try with_reducible rfl
  simp only [Act.put, List.setIfInBounds_toArray, List.set_cons_zero, List.set_cons_succ]
  refine wpAnyL_take' (i := 1) (v := ?_) (oi := { dst := some 50, op := Op.move (Operand.tmp 1), type := 9, pos := "law.go:104", after := #[], guard := none }) rfl (by kernel_rfl) (by kernel_rfl) (by kernel_rfl) (by kernel_rfl) rfl (fun _ _ _ h => h) (Or.inl ⟨by rfl, ?_⟩) HS0 ?_
  rotate_left
  · intro W hSW
    go_simp
    try with_reducible rfl
  simp only [Act.put, List.setIfInBounds_toArray, List.set_cons_zero, List.set_cons_succ]
  refine wpAnyL_take' (i := 2) (v := ?_) (oi := { dst := some 51, op := Op.move (Operand.tmp 7), type := 3, pos := "law.go:104", after := #[], guard := none }) rfl (by kernel_rfl) (by kernel_rfl) (by kernel_rfl) (by kernel_rfl) rfl (fun _ _ _ h => h) (Or.inl ⟨by rfl, ?_⟩) HS0 ?_
  rotate_left
  · intro W hSW
    go_simp
    try with_reducible rfl
  simp only [Act.put, List.setIfInBounds_toArray, List.set_cons_zero, List.set_cons_succ]
  refine wpAnyL_take' (i := 3) (v := ?_) (oi := { dst := some 52, op := Op.slice 9 (Operand.tmp 50) none (some (Operand.tmp 51)) none, type := 9, pos := "law.go:104", after := #[{ on := 1, ground := Ground.data }, { on := 2, ground := Ground.data }], guard := none }) rfl (by kernel_rfl) (by kernel_rfl) (by kernel_rfl) (by kernel_rfl) rfl (fun _ _ _ h => h) (Or.inl ⟨by rfl, ?_⟩) HS0 ?_
  rotate_left
  · intro W hSW
    go_simp
    try with_reducible rfl
  simp only [Act.put, List.setIfInBounds_toArray, List.set_cons_zero, List.set_cons_succ]
  refine wpAnyL_one' (i := 4) (o := { dst := some 53, op := Op.call { callee := Callee.value (Operand.func 13), args := #[Operand.tmp 49, Operand.tmp 52], argTypes := #[24, 9] }, type := 28, pos := "law.go:104", after := #[{ on := 0, ground := Ground.data }, { on := 3, ground := Ground.data }], guard := none }) (by kernel_rfl) rfl rfl (fun K hK => ?_)
  go_simp
  refine (CR).mono ?_
  rintro e W3 ⟨rfl, hb3⟩
  refine hK.out _ _ (fun _ => HCL.out _ (below_then bd hb3 bd.size)) ?_
  clear hK
  have b3 := below_then bd hb3 bd.size
  have HS3 := HCL.out _ b3
  refine wpAnyL_take' (i := 5) (v := ?_) (oi := { dst := some 48, op := Op.move (Operand.tmp 53), type := 28, pos := "law.go:104", after := #[{ on := 4, ground := Ground.data }], guard := none }) rfl (by kernel_rfl) (by kernel_rfl) (by kernel_rfl) (by kernel_rfl) rfl (fun _ _ _ h => h) (Or.inl ⟨by rfl, ?_⟩) HS3 ?_
  rotate_left
  · intro W hSW
    go_simp
    try with_reducible rfl
  simp only [Act.put, List.setIfInBounds_toArray, List.set_cons_zero, List.set_cons_succ]
  refine wpAnyL_take' (i := 6) (v := ?_) (oi := { dst := some 54, op := Op.extract (Operand.tmp 48) 0, type := 3, pos := "law.go:104", after := #[{ on := 5, ground := Ground.data }], guard := none }) rfl (by kernel_rfl) (by kernel_rfl) (by kernel_rfl) (by kernel_rfl) rfl (fun _ _ _ h => h) (Or.inl ⟨by rfl, ?_⟩) HS3 ?_
  rotate_left
  · intro W hSW
    go_simp
    try with_reducible rfl
  simp only [Act.put, List.setIfInBounds_toArray, List.set_cons_zero, List.set_cons_succ]
  refine wpAnyL_take' (i := 7) (v := ?_) (oi := { dst := some 55, op := Op.extract (Operand.tmp 48) 1, type := 3, pos := "law.go:104", after := #[{ on := 5, ground := Ground.data }, { on := 8, ground := Ground.gcOnly Departure.lateStores }], guard := none }) rfl (by kernel_rfl) (by kernel_rfl) (by kernel_rfl) (by kernel_rfl) rfl (fun _ _ _ h => h) (Or.inl ⟨by rfl, ?_⟩) HS3 ?_
  rotate_left
  · intro W hSW
    go_simp
    try with_reducible rfl
  simp only [Act.put, List.setIfInBounds_toArray, List.set_cons_zero, List.set_cons_succ]
  refine wpAnyL_take' (i := 8) (v := ?_) (oi := { dst := some 10, op := Op.assign (Operand.tmp 54), type := 3, pos := "law.go:104", after := #[{ on := 6, ground := Ground.data }, { on := 4, ground := Ground.chain }, { on := 0, ground := Ground.phase }, { on := 1, ground := Ground.phase }, { on := 2, ground := Ground.phase }, { on := 3, ground := Ground.phase }, { on := 4, ground := Ground.phase }, { on := 5, ground := Ground.phase }, { on := 6, ground := Ground.phase }, { on := 7, ground := Ground.textOnly Departure.lateStores }], guard := none }) rfl (by kernel_rfl) (by kernel_rfl) (by kernel_rfl) (by kernel_rfl) rfl (fun _ _ _ h => h) (Or.inl ⟨by rfl, ?_⟩) HS3 ?_
  rotate_left
  · intro W hSW
    go_simp
    try with_reducible rfl
  simp only [Act.put, List.setIfInBounds_toArray, List.set_cons_zero, List.set_cons_succ]
  refine wpAnyL_take' (i := 9) (v := ?_) (oi := { dst := some 11, op := Op.assign (Operand.tmp 55), type := 3, pos := "law.go:104", after := #[{ on := 7, ground := Ground.data }, { on := 8, ground := Ground.chain }, { on := 0, ground := Ground.phase }, { on := 1, ground := Ground.phase }, { on := 2, ground := Ground.phase }, { on := 3, ground := Ground.phase }, { on := 4, ground := Ground.phase }, { on := 5, ground := Ground.phase }, { on := 6, ground := Ground.phase }, { on := 7, ground := Ground.phase }, { on := 8, ground := Ground.phase }], guard := none }) rfl (by kernel_rfl) (by kernel_rfl) (by kernel_rfl) (by kernel_rfl) rfl (fun _ _ _ h => h) (Or.inl ⟨by rfl, ?_⟩) HS3 ?_
  rotate_left
  · intro W hSW
    go_simp
    try with_reducible rfl
  simp only [Act.put, List.setIfInBounds_toArray, List.set_cons_zero, List.set_cons_succ]
  refine wpAnyL_done (by kernel_rfl) ?_ _
  clear CR hb3 bd HS0 HS3
  go_upto_region 10 with fail
  go_cut [87] from 64 (fun t87 wx => ∃ G, t87 = .bool G ∧ Hid (G = false → PP) ∧ Below w0.heap.size w0 wx)
  case first =>
    have q0 := HCL.out _ b3
    by_cases hks : kk = s.size
    case neg =>
      have d1 : ((kk : Int) == (s.size : Int)) = false := by simp; omega
      have HE : Hid PP := HP0.out (by omega)
      go_wp2_with fail
      go_meet
      exact ⟨_, rfl, fun _ => HE.out, b3⟩
    have d1 : ((kk : Int) == (s.size : Int)) = true := by simp; omega
    clear hks
    by_cases hk0 : kk = 0
    · have d2 : ((kk : Int) == 0) = true := by simp; omega
      clear hk0
      go_wp2_with fail
      go_meet
      exact ⟨_, rfl, fun e => (by cases e), b3⟩
    have d2 : ((kk : Int) == 0) = false := by simp; omega
    have C1 := (HC5.out _ b3).1
    clear hk0
    go_wp2_with fail
    refine C1.mono ?_
    rintro e W4 ⟨rfl, hb4⟩
    have b4 := below_then b3 hb4 b3.size
    clear C1 q0 hb4 b3
    by_cases h0 : (kk : Int) < z0
    · have d3 : decide ((kk : Int) < z0) = true := decide_eq_true h0
      go_wp2_with fail
      go_meet
      exact ⟨_, rfl, fun e => (by cases e), b4⟩
    have d3 : decide ((kk : Int) < z0) = false := decide_eq_false h0
    have q0 := HCL.out _ b4
    have C1 := (HC5.out _ b4).2
    have HE : Hid PP := HS4.out (by omega)
    clear h0
    go_wp2_with fail
    refine C1.mono ?_
    rintro e W5 ⟨rfl, hb5⟩
    have b5 := below_then b4 hb5 b4.size
    clear C1 q0 hb5 b4
    by_cases h1 : (kk : Int) < z1
    · have d4 : decide ((kk : Int) < z1) = true := decide_eq_true h1
      go_wp2_with fail
      go_meet
      exact ⟨_, rfl, fun e => (by cases e), b5⟩
    have d4 : decide ((kk : Int) < z1) = false := decide_eq_false h1
    go_wp2_with fail
    go_meet
    exact ⟨_, rfl, fun _ => HE.out, b5⟩
  case rest =>
  obtain ⟨G, rfl, HPP, b5⟩ := hcut
  generalize wc = W5 at *
  clear HP0 HS4 HC5 HC2 HC3 b3
  cases G
  case true =>
    have CA := awake_any W5
    go_wp2_with fail
    refine CA.mono ?_
    rintro e W6 ⟨rfl, hb6⟩
    have HE : Hid (Below w.heap.size w W6) := HBB.out _ (below_then b5 hb6 b5.size)
    clear CA hb6 b5
    go_wp2_with fail
    go_ret
    exact ⟨rfl, HE.out⟩
  have HC6 : Hid _ := HC4.out (HPP.out rfl)
  clear HC4 HPP
  have hov : ¬ 9223372036854775807 < kk + t.size := by omega
  go_upto_region 12 with fail
  have bd : Below w0.heap.size w0 W5.drew := below_drewN b5 1
  have HS0 := HCL.out _ bd
  have CR := HC6.out _ bd
  clear b5 HC6
  refine wp_region_L (fun W => W.cell? ⟨w.heap.size, 0, none⟩ = some (.slice aa a.length ac)) 12 (by kernel_rfl) 12 rfl ?_
  refine wpAnyL_take' (i := 0) (v := ?_) (oi := { dst := some 90, op := Op.load 24 (Operand.tmp 3), type := 24, pos := "law.go:111", after := #[], guard := none }) rfl (by kernel_rfl) (by kernel_rfl) (by kernel_rfl) (by kernel_rfl) rfl (fun _ _ _ h => h) (Or.inl ⟨by rfl, ?_⟩) HS0 ?_
  rotate_left
  · intro W hSW
    go_simp
    try with_reducible rfl
  simp only [Act.put, List.setIfInBounds_toArray, List.set_cons_zero, List.set_cons_succ]
  refine wpAnyL_take' (i := 1) (v := ?_) (oi := { dst := some 91, op := Op.move (Operand.tmp 1), type := 9, pos := "law.go:111", after := #[], guard := none }) rfl (by kernel_rfl) (by kernel_rfl) (by kernel_rfl) (by kernel_rfl) rfl (fun _ _ _ h => h) (Or.inl ⟨by rfl, ?_⟩) HS0 ?_
  rotate_left
  · intro W hSW
    go_simp
    try with_reducible rfl
  simp only [Act.put, List.setIfInBounds_toArray, List.set_cons_zero, List.set_cons_succ]
  refine wpAnyL_take' (i := 2) (v := ?_) (oi := { dst := some 92, op := Op.move (Operand.tmp 7), type := 3, pos := "law.go:111", after := #[], guard := none }) rfl (by kernel_rfl) (by kernel_rfl) (by kernel_rfl) (by kernel_rfl) rfl (fun _ _ _ h => h) (Or.inl ⟨by rfl, ?_⟩) HS0 ?_
  rotate_left
  · intro W hSW
    go_simp
    try with_reducible rfl
  simp only [Act.put, List.setIfInBounds_toArray, List.set_cons_zero, List.set_cons_succ]
  refine wpAnyL_take' (i := 3) (v := ?_) (oi := { dst := some 93, op := Op.slice 9 (Operand.tmp 91) none (some (Operand.tmp 92)) none, type := 9, pos := "law.go:111", after := #[{ on := 1, ground := Ground.data }, { on := 2, ground := Ground.data }], guard := none }) rfl (by kernel_rfl) (by kernel_rfl) (by kernel_rfl) (by kernel_rfl) rfl (fun _ _ _ h => h) (Or.inl ⟨by rfl, ?_⟩) HS0 ?_
  rotate_left
  · intro W hSW
    go_simp
    try with_reducible rfl
  simp only [Act.put, List.setIfInBounds_toArray, List.set_cons_zero, List.set_cons_succ]
  refine wpAnyL_take' (i := 4) (v := ?_) (oi := { dst := some 94, op := Op.move (Operand.tmp 2), type := 9, pos := "law.go:111", after := #[], guard := none }) rfl (by kernel_rfl) (by kernel_rfl) (by kernel_rfl) (by kernel_rfl) rfl (fun _ _ _ h => h) (Or.inl ⟨by rfl, ?_⟩) HS0 ?_
  rotate_left
  · intro W hSW
    go_simp
    try with_reducible rfl
  simp only [Act.put, List.setIfInBounds_toArray, List.set_cons_zero, List.set_cons_succ]
  refine wpAnyL_take' (i := 5) (v := ?_) (oi := { dst := some 95, op := Op.binOp BinOp.add 9 (Operand.tmp 93) (Operand.tmp 94) 9, type := 9, pos := "law.go:111", after := #[{ on := 3, ground := Ground.data }, { on := 4, ground := Ground.data }], guard := none }) rfl (by kernel_rfl) (by kernel_rfl) (by kernel_rfl) (by kernel_rfl) rfl (fun _ _ _ h => h) (Or.inl ⟨by rfl, ?_⟩) HS0 ?_
  rotate_left
  · intro W hSW
    go_simp
    try with_reducible rfl
  simp only [Act.put, List.setIfInBounds_toArray, List.set_cons_zero, List.set_cons_succ]
  refine wpAnyL_one' (i := 6) (o := { dst := some 96, op := Op.call { callee := Callee.value (Operand.func 13), args := #[Operand.tmp 90, Operand.tmp 95], argTypes := #[24, 9] }, type := 28, pos := "law.go:111", after := #[{ on := 0, ground := Ground.data }, { on := 5, ground := Ground.data }], guard := none }) (by kernel_rfl) rfl rfl (fun K hK => ?_)
  go_simp
  refine (CR).mono ?_
  rintro e W6 ⟨rfl, hb6⟩
  refine hK.out _ _ (fun _ => HCL.out _ (below_then bd hb6 bd.size)) ?_
  clear hK
  have b6 := below_then bd hb6 bd.size
  have HS6 := HCL.out _ b6
  refine wpAnyL_take' (i := 7) (v := ?_) (oi := { dst := some 89, op := Op.move (Operand.tmp 96), type := 28, pos := "law.go:111", after := #[{ on := 6, ground := Ground.data }], guard := none }) rfl (by kernel_rfl) (by kernel_rfl) (by kernel_rfl) (by kernel_rfl) rfl (fun _ _ _ h => h) (Or.inl ⟨by rfl, ?_⟩) HS6 ?_
  rotate_left
  · intro W hSW
    go_simp
    try with_reducible rfl
  simp only [Act.put, List.setIfInBounds_toArray, List.set_cons_zero, List.set_cons_succ]
  refine wpAnyL_take' (i := 8) (v := ?_) (oi := { dst := some 97, op := Op.extract (Operand.tmp 89) 0, type := 3, pos := "law.go:111", after := #[{ on := 7, ground := Ground.data }], guard := none }) rfl (by kernel_rfl) (by kernel_rfl) (by kernel_rfl) (by kernel_rfl) rfl (fun _ _ _ h => h) (Or.inl ⟨by rfl, ?_⟩) HS6 ?_
  rotate_left
  · intro W hSW
    go_simp
    try with_reducible rfl
  simp only [Act.put, List.setIfInBounds_toArray, List.set_cons_zero, List.set_cons_succ]
  refine wpAnyL_take' (i := 9) (v := ?_) (oi := { dst := some 98, op := Op.extract (Operand.tmp 89) 1, type := 3, pos := "law.go:111", after := #[{ on := 7, ground := Ground.data }, { on := 10, ground := Ground.gcOnly Departure.lateStores }], guard := none }) rfl (by kernel_rfl) (by kernel_rfl) (by kernel_rfl) (by kernel_rfl) rfl (fun _ _ _ h => h) (Or.inl ⟨by rfl, ?_⟩) HS6 ?_
  rotate_left
  · intro W hSW
    go_simp
    try with_reducible rfl
  simp only [Act.put, List.setIfInBounds_toArray, List.set_cons_zero, List.set_cons_succ]
  refine wpAnyL_take' (i := 10) (v := ?_) (oi := { dst := some 10, op := Op.assign (Operand.tmp 97), type := 3, pos := "law.go:111", after := #[{ on := 8, ground := Ground.data }, { on := 6, ground := Ground.chain }, { on := 0, ground := Ground.phase }, { on := 1, ground := Ground.phase }, { on := 2, ground := Ground.phase }, { on := 3, ground := Ground.phase }, { on := 4, ground := Ground.phase }, { on := 5, ground := Ground.phase }, { on := 6, ground := Ground.phase }, { on := 7, ground := Ground.phase }, { on := 8, ground := Ground.phase }, { on := 9, ground := Ground.textOnly Departure.lateStores }], guard := none }) rfl (by kernel_rfl) (by kernel_rfl) (by kernel_rfl) (by kernel_rfl) rfl (fun _ _ _ h => h) (Or.inl ⟨by rfl, ?_⟩) HS6 ?_
  rotate_left
  · intro W hSW
    go_simp
    try with_reducible rfl
  simp only [Act.put, List.setIfInBounds_toArray, List.set_cons_zero, List.set_cons_succ]
  refine wpAnyL_take' (i := 11) (v := ?_) (oi := { dst := some 11, op := Op.assign (Operand.tmp 98), type := 3, pos := "law.go:111", after := #[{ on := 9, ground := Ground.data }, { on := 10, ground := Ground.chain }, { on := 0, ground := Ground.phase }, { on := 1, ground := Ground.phase }, { on := 2, ground := Ground.phase }, { on := 3, ground := Ground.phase }, { on := 4, ground := Ground.phase }, { on := 5, ground := Ground.phase }, { on := 6, ground := Ground.phase }, { on := 7, ground := Ground.phase }, { on := 8, ground := Ground.phase }, { on := 9, ground := Ground.phase }, { on := 10, ground := Ground.phase }], guard := none }) rfl (by kernel_rfl) (by kernel_rfl) (by kernel_rfl) (by kernel_rfl) rfl (fun _ _ _ h => h) (Or.inl ⟨by rfl, ?_⟩) HS6 ?_
  rotate_left
  · intro W hSW
    go_simp
    try with_reducible rfl
  simp only [Act.put, List.setIfInBounds_toArray, List.set_cons_zero, List.set_cons_succ]
  refine wpAnyL_done (by kernel_rfl) ?_ _
  clear CR hb6 bd HS0 HS6
  have CA := awake_any W6
  go_wp2_with fail
  refine CA.mono ?_
  rintro e W7 ⟨rfl, hb7⟩
  have HE : Hid (Below w.heap.size w W7) := HBB.out _ (below_then b6 hb7 b6.size)
  clear CA hb7 b6
  go_wp2_with fail
  go_ret
  exact ⟨rfl, HE.out⟩
end Go.Proofs.Ytjmakckepfpheaa
