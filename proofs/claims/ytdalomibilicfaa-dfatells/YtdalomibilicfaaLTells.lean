/- Machines in one state: the law DfaTells, walked. -/
import Derived.Test.YtdalomibilicfaaLAwake
import Derived.Test.YtdalomibilicfaaJWhMath
import Derived.Test.YtdalomibilicfaaDSmall
import Derived.Test.YtdalomibilicfaaRLeast
import Derived.Test.YtdalomibilicfaaRDiffer
import Derived.Test.YtdalomibilicfaaJPSame
import Derived.Test.YtdalomibilicfaaJPFit
import Derived.Test.YtdalomibilicfaaRSame
import Derived.Test.YtdalomibilicfaaJRNext
import Derived.Test.YtdalomibilicfaaJDSeen
import Derived.Deep.Cut
namespace Go.Proofs.Ytdalomibilicfaa
open Go.RowKit Go.Shelf

set_option maxRecDepth 100000 in
set_option maxHeartbeats 8000000 in
theorem tells_any (a b : List Ds) (u v : Value) (s : ByteArray) (w : World) (ha : SlD a u w) (hb : SlD b v w) :
    Calls Try.prog 3 #[.agg #[u], .agg #[v], .string s] w fun e w' => e = .returned (.bool true) ∧ Below w.heap.size w w' := by
  have HA : Hid (∀ W, Below w.heap.size w W → SlD a u W) := fun W h => ha.next h
  have HB : Hid (∀ W, Below w.heap.size w W → SlD b v W) := fun W h => hb.next h
  obtain ⟨aa, ac, rfl, _⟩ := ha
  obtain ⟨ba, bc, rfl, _⟩ := hb
  obtain ⟨w0, hw0⟩ : ∃ w0, w0 = (w.alloc (Obj.cells #[.slice aa a.length ac] 24)).alloc (Obj.cells #[.slice ba b.length bc] 24) := ⟨_, rfl⟩
  have B0 : Below w.heap.size w w0 := by rw [hw0]; exact ((Below.refl _ _).alloc (Nat.le_refl _) _).alloc (by simp) _
  have k0 : w0.heap[w.heap.size]? = some (Obj.cells #[.slice aa a.length ac] 24) := by rw [hw0]; exact blk_new (heap_alloc_new _ _)
  have k1 : w0.heap[w.heap.size + 1]? = some (Obj.cells #[.slice ba b.length bc] 24) := by rw [hw0]; simpa using heap_alloc_new (w.alloc (Obj.cells #[.slice aa a.length ac] 24)) (Obj.cells #[.slice ba b.length bc] 24)
  have HBB : Hid (∀ W, Below w0.heap.size w0 W → Below w.heap.size w W) := fun W h => below_then B0 h B0.size
  have HCL : Hid (∀ W, Below w0.heap.size w0 W → W.cell? ⟨w.heap.size, 0, none⟩ = some (.slice aa a.length ac) ∧ W.cell? ⟨w.heap.size + 1, 0, none⟩ = some (.slice ba b.length bc)) := fun W h => ⟨by rw [Lib.cell_of_heap ((h.block _ (blk_lt k0)).trans k0)]; rfl, by rw [Lib.cell_of_heap ((h.block _ (blk_lt k1)).trans k1)]; rfl⟩
  obtain ⟨S1, hS1⟩ : ∃ S, smallD a = S := ⟨_, rfl⟩
  obtain ⟨S2, hS2⟩ : ∃ S, smallD b = S := ⟨_, rfl⟩
  obtain ⟨T1, hT1⟩ : ∃ T, fitB a = T := ⟨_, rfl⟩
  obtain ⟨T2, hT2⟩ : ∃ T, fitB b = T := ⟨_, rfl⟩
  obtain ⟨D, hD⟩ : ∃ T, decide (a = b) = T := ⟨_, rfl⟩
  have HW : Hid (∀ W, Below w0.heap.size w0 W → (Calls Try.prog 4 #[.agg #[.slice aa a.length ac]] W fun e w' => e = .returned (.bool S1) ∧ Below W.heap.size W w') ∧ (Calls Try.prog 4 #[.agg #[.slice ba b.length bc]] W fun e w' => e = .returned (.bool S2) ∧ Below W.heap.size W w') ∧ (Calls Try.prog 6 #[.agg #[.slice aa a.length ac]] W fun e w' => e = .returned (.bool T1) ∧ Below W.heap.size W w') ∧ (Calls Try.prog 7 #[.agg #[.slice aa a.length ac]] W fun e w' => e = .returned (.bool T1) ∧ Below W.heap.size W w') ∧ (Calls Try.prog 7 #[.agg #[.slice ba b.length bc]] W fun e w' => e = .returned (.bool T2) ∧ Below W.heap.size W w')) := fun W h => by
    have h1 := HA.out _ (HBB.out _ h)
    have h2 := HB.out _ (HBB.out _ h)
    exact ⟨hS1 ▸ small_any a _ W h1, hS2 ▸ small_any b _ W h2, hT1 ▸ fit_any a _ W h1, hT1 ▸ rfit_any a _ W h1, hT2 ▸ rfit_any b _ W h2⟩
  have HSM : Hid (∀ W, Below w0.heap.size w0 W → (Calls Try.prog 8 #[.agg #[.slice aa a.length ac], .agg #[.slice ba b.length bc]] W fun e w' => e = .returned (.bool D) ∧ Below W.heap.size W w') ∧ (Calls Try.prog 9 #[.agg #[.slice aa a.length ac], .agg #[.slice ba b.length bc]] W fun e w' => e = .returned (.bool D) ∧ Below W.heap.size W w') ∧ (Calls Try.prog 8 #[.agg #[.slice aa a.length ac], .agg #[.slice aa a.length ac]] W fun e w' => e = .returned (.bool true) ∧ Below W.heap.size W w')) := fun W h => by
    have h1 := HA.out _ (HBB.out _ h)
    have h2 := HB.out _ (HBB.out _ h)
    refine ⟨hD ▸ same_any a b _ _ W h1 h2, hD ▸ rsame_any a b _ _ W h1 h2, ?_⟩
    have h3 := same_any a a _ _ W h1 h1
    rw [decide_eq_true rfl] at h3
    exact h3
  have HK : Hid (smallD a = S1 ∧ smallD b = S2 ∧ fitB a = T1 ∧ fitB b = T2) := ⟨hS1, hS2, hT1, hT2⟩
  clear hS1 hS2 hT1 hT2 hD k0 k1
  go_enter Try.func3, Try.ntmps3
  go_upto_region 1 with fail
  rw [← hw0]
  clear hw0
  go_cut [27] from 119 (fun t27 wx => t27 = .bool (!(S1 && S2 && decide ((s.size : Int) ≤ 1000))) ∧ Below w0.heap.size w0 wx)
  case first =>
    have bz0 : Below w0.heap.size w0 w0 := Below.refl _ _
    obtain ⟨q0, q1⟩ := HCL.out _ bz0
    have HQ := (HW.out _ bz0).1
    go_wp2_with fail
    refine HQ.mono ?_
    clear HQ q0 q1
    rintro e wz1 ⟨rfl, bb1⟩
    have bz1 := below_then bz0 bb1 bz0.size
    clear bb1
    cases S1
    · go_wp2_with fail
      go_meet
      exact ⟨by simp, bz1⟩
    obtain ⟨q0, q1⟩ := HCL.out _ bz1
    have HQ := (HW.out _ bz1).2.1
    go_wp2_with fail
    refine HQ.mono ?_
    clear HQ q0 q1
    rintro e wz2 ⟨rfl, bb2⟩
    have bz2 := below_then bz1 bb2 bz1.size
    clear bb2
    cases S2
    · go_wp2_with fail
      go_meet
      exact ⟨by simp, bz2⟩
    by_cases hsz : (s.size : Int) ≤ 1000
    case neg =>
      have dd : decide ((s.size : Int) ≤ 1000) = false := decide_eq_false hsz
      go_wp2_with fail
      go_meet
      exact ⟨by simp [dd], bz2⟩
    go_wp2_with fail
    go_meet
    exact ⟨by rw [decide_eq_true hsz, decide_eq_false (show ¬ (1000 < (s.size : Int)) by omega)]; rfl, bz2⟩
  case rest =>
  obtain ⟨rfl, hbc⟩ := hcut
  have HG : Hid ((S1 && S2 && decide ((s.size : Int) ≤ 1000)) = true → smallD a = true ∧ smallD b = true ∧ s.size ≤ 1000) := fun h => by
    simp only [Bool.and_eq_true, decide_eq_true_eq] at h
    obtain ⟨q1, q2, _, _⟩ := HK.out
    exact ⟨q1.trans h.1.1, q2.trans h.1.2, by omega⟩
  generalize (S1 && S2 && decide ((s.size : Int) ≤ 1000)) = G at *
  cases G
  case false =>
    have HE : Hid (Below w.heap.size w wc) := HBB.out _ hbc
    have CA := awake_any wc
    clear hbc HW HSM HCL HA HB HBB HK HG B0
    go_wp2_with fail
    refine CA.mono ?_
    rintro e W1 ⟨rfl, hb1⟩
    have HE2 : Hid (Below w.heap.size w W1) := HE.out.trans (hb1.mono HE.out.size)
    clear CA hb1
    go_wp2_with fail
    go_ret
    exact ⟨rfl, HE2.out⟩
  have HGG := HG.out rfl
  have HG2 : Hid (smallD a = true ∧ smallD b = true ∧ s.size ≤ 1000) := HGG
  clear HG HGG
  go_upto_region 3 with fail
  have bd : Below w0.heap.size w0 wc.drew := below_drewN hbc 1
  have HT0 := HCL.out _ bd
  have eT : (T1 != T1) = false := by cases T1 <;> rfl
  have eD : (D != D) = false := by cases D <;> rfl
  refine wp_region_L (fun W => W.cell? ⟨w.heap.size, 0, none⟩ = some (.slice aa a.length ac) ∧ W.cell? ⟨w.heap.size + 1, 0, none⟩ = some (.slice ba b.length bc)) 20 (by kernel_rfl) 20 rfl ?_
  refine wpAnyL_take' (i := 0) (v := ?_) (oi := ⟨some 29, .load 24 (.tmp 3), 24, "law.go:38", #[], none⟩) rfl (by kernel_rfl) (by kernel_rfl) (by kernel_rfl) (by kernel_rfl) rfl (fun _ _ _ h => h) (Or.inl ⟨by rfl, ?_⟩) HT0 ?_
  rotate_left
  · intro W hSW
    go_simp
    try with_reducible rfl
  simp only [Act.put, List.setIfInBounds_toArray, List.set_cons_zero, List.set_cons_succ]
  refine wpAnyL_take' (i := 2) (v := ?_) (oi := ⟨some 31, .load 24 (.tmp 3), 24, "law.go:38", #[], none⟩) rfl (by kernel_rfl) (by kernel_rfl) (by kernel_rfl) (by kernel_rfl) rfl (fun _ _ _ h => h) (Or.inl ⟨by rfl, ?_⟩) HT0 ?_
  rotate_left
  · intro W hSW
    go_simp
    try with_reducible rfl
  simp only [Act.put, List.setIfInBounds_toArray, List.set_cons_zero, List.set_cons_succ]
  have CK := (HW.out _ bd).2.2.1
  refine wpAnyL_one' (i := 1) (o := ⟨some 30, .call ⟨.value (.func 6), #[.tmp 29], #[24]⟩, 4, "law.go:38", #[⟨0, .data⟩], none⟩) (by kernel_rfl) rfl rfl (fun K hK => ?_)
  go_simp
  refine (CK).mono ?_
  rintro e V1 ⟨rfl, hb1⟩
  refine hK.out _ _ (fun _ => (HCL.out _ (below_then bd hb1 bd.size))) ?_
  clear hK
  have b1 := below_then bd hb1 bd.size
  clear CK
  have HT1 := HCL.out _ b1
  have CK := (HW.out _ b1).2.2.2.1
  refine wpAnyL_one' (i := 3) (o := ⟨some 32, .call ⟨.value (.func 7), #[.tmp 31], #[24]⟩, 4, "law.go:38", #[⟨2, .data⟩, ⟨1, .chain⟩], none⟩) (by kernel_rfl) rfl rfl (fun K hK => ?_)
  go_simp
  refine (CK).mono ?_
  rintro e V2 ⟨rfl, hb2⟩
  refine hK.out _ _ (fun _ => (HCL.out _ (below_then b1 hb2 b1.size))) ?_
  clear hK
  have b2 := below_then b1 hb2 b1.size
  clear CK
  have HT2 := HCL.out _ b2
  refine wpAnyL_take' (i := 4) (v := ?_) (oi := ⟨some 33, .binOp .neq 4 (.tmp 30) (.tmp 32) 4, 4, "law.go:38", #[⟨1, .data⟩, ⟨3, .data⟩], none⟩) rfl (by kernel_rfl) (by kernel_rfl) (by kernel_rfl) (by kernel_rfl) rfl (fun _ _ _ h => h) (Or.inl ⟨by rfl, ?_⟩) HT2 ?_
  rotate_left
  · intro W hSW
    go_simp
    try with_reducible rfl
  simp only [Act.put, List.setIfInBounds_toArray, List.set_cons_zero, List.set_cons_succ]
  refine wpAnyL_take' (i := 5) (v := ?_) (oi := ⟨some 34, .move (.tmp 33), 4, "law.go:38", #[⟨4, .data⟩, ⟨3, .chain⟩], none⟩) rfl (by kernel_rfl) (by kernel_rfl) (by kernel_rfl) (by kernel_rfl) rfl (fun _ _ _ h => h) (Or.inl ⟨by rfl, ?_⟩) HT2 ?_
  rotate_left
  · intro W hSW
    go_simp
    try with_reducible rfl
  simp only [Act.put, List.setIfInBounds_toArray, List.set_cons_zero, List.set_cons_succ]
  refine wpAnyL_take' (i := 6) (v := ?_) (oi := ⟨some 35, .load 24 (.tmp 3), 24, "law.go:38", #[⟨5, .guard⟩], some (5, false)⟩) rfl (by kernel_rfl) (by kernel_rfl) (by kernel_rfl) (by kernel_rfl) rfl (fun _ _ _ h => h) (Or.inl ⟨by rfl, ?_⟩) HT2 ?_
  rotate_left
  · intro W hSW
    go_simp
    try with_reducible rfl
  simp only [Act.put, List.setIfInBounds_toArray, List.set_cons_zero, List.set_cons_succ]
  refine wpAnyL_take' (i := 7) (v := ?_) (oi := ⟨some 36, .load 24 (.tmp 4), 24, "law.go:38", #[⟨5, .guard⟩], some (5, false)⟩) rfl (by kernel_rfl) (by kernel_rfl) (by kernel_rfl) (by kernel_rfl) rfl (fun _ _ _ h => h) (Or.inl ⟨by rfl, ?_⟩) HT2 ?_
  rotate_left
  · intro W hSW
    go_simp
    try with_reducible rfl
  simp only [Act.put, List.setIfInBounds_toArray, List.set_cons_zero, List.set_cons_succ]
  refine wpAnyL_take' (i := 9) (v := ?_) (oi := ⟨some 38, .load 24 (.tmp 3), 24, "law.go:38", #[⟨5, .guard⟩], some (5, false)⟩) rfl (by kernel_rfl) (by kernel_rfl) (by kernel_rfl) (by kernel_rfl) rfl (fun _ _ _ h => h) (Or.inl ⟨by rfl, ?_⟩) HT2 ?_
  rotate_left
  · intro W hSW
    go_simp
    try with_reducible rfl
  simp only [Act.put, List.setIfInBounds_toArray, List.set_cons_zero, List.set_cons_succ]
  refine wpAnyL_take' (i := 10) (v := ?_) (oi := ⟨some 39, .load 24 (.tmp 4), 24, "law.go:38", #[⟨5, .guard⟩], some (5, false)⟩) rfl (by kernel_rfl) (by kernel_rfl) (by kernel_rfl) (by kernel_rfl) rfl (fun _ _ _ h => h) (Or.inl ⟨by rfl, ?_⟩) HT2 ?_
  rotate_left
  · intro W hSW
    go_simp
    try with_reducible rfl
  simp only [Act.put, List.setIfInBounds_toArray, List.set_cons_zero, List.set_cons_succ]
  have CK := (HSM.out _ b2).1
  refine wpAnyL_one' (i := 8) (o := ⟨some 37, .call ⟨.value (.func 8), #[.tmp 35, .tmp 36], #[24, 24]⟩, 4, "law.go:38", #[⟨6, .data⟩, ⟨7, .data⟩, ⟨5, .chain⟩, ⟨5, .guard⟩], some (5, false)⟩) (by kernel_rfl) rfl rfl (fun K hK => ?_)
  go_simp
  refine (CK).mono ?_
  rintro e V3 ⟨rfl, hb3⟩
  refine hK.out _ _ (fun _ => (HCL.out _ (below_then b2 hb3 b2.size))) ?_
  clear hK
  have b3 := below_then b2 hb3 b2.size
  clear CK
  have HT3 := HCL.out _ b3
  have CK := (HSM.out _ b3).2.1
  refine wpAnyL_one' (i := 11) (o := ⟨some 40, .call ⟨.value (.func 9), #[.tmp 38, .tmp 39], #[24, 24]⟩, 4, "law.go:38", #[⟨9, .data⟩, ⟨10, .data⟩, ⟨8, .chain⟩, ⟨5, .guard⟩], some (5, false)⟩) (by kernel_rfl) rfl rfl (fun K hK => ?_)
  go_simp
  refine (CK).mono ?_
  rintro e V4 ⟨rfl, hb4⟩
  refine hK.out _ _ (fun _ => (HCL.out _ (below_then b3 hb4 b3.size))) ?_
  clear hK
  have b4 := below_then b3 hb4 b3.size
  clear CK
  have HT4 := HCL.out _ b4
  refine wpAnyL_take' (i := 12) (v := ?_) (oi := ⟨some 41, .binOp .neq 4 (.tmp 37) (.tmp 40) 4, 4, "law.go:38", #[⟨8, .data⟩, ⟨11, .data⟩, ⟨5, .guard⟩], some (5, false)⟩) rfl (by kernel_rfl) (by kernel_rfl) (by kernel_rfl) (by kernel_rfl) rfl (fun _ _ _ h => h) (Or.inl ⟨by rfl, ?_⟩) HT4 ?_
  rotate_left
  · intro W hSW
    go_simp
    try with_reducible rfl
  simp only [Act.put, List.setIfInBounds_toArray, List.set_cons_zero, List.set_cons_succ]
  refine wpAnyL_take' (i := 13) (v := ?_) (oi := ⟨some 42, .pick (.tmp 34) (.const (.bool true)) (.tmp 41), 4, "law.go:38", #[⟨5, .data⟩, ⟨12, .data⟩], none⟩) rfl (by kernel_rfl) (by kernel_rfl) (by kernel_rfl) (by kernel_rfl) rfl (fun _ _ _ h => h) (Or.inl ⟨by rfl, ?_⟩) HT4 ?_
  rotate_left
  · intro W hSW
    go_simp
    try with_reducible rfl
  simp only [Act.put, List.setIfInBounds_toArray, List.set_cons_zero, List.set_cons_succ]
  refine wpAnyL_take' (i := 14) (v := ?_) (oi := ⟨some 43, .move (.tmp 42), 4, "law.go:38", #[⟨13, .data⟩, ⟨11, .chain⟩], none⟩) rfl (by kernel_rfl) (by kernel_rfl) (by kernel_rfl) (by kernel_rfl) rfl (fun _ _ _ h => h) (Or.inl ⟨by rfl, ?_⟩) HT4 ?_
  rotate_left
  · intro W hSW
    go_simp
    try with_reducible rfl
  simp only [Act.put, List.setIfInBounds_toArray, List.set_cons_zero, List.set_cons_succ]
  refine wpAnyL_take' (i := 15) (v := ?_) (oi := ⟨some 44, .load 24 (.tmp 3), 24, "law.go:38", #[⟨14, .guard⟩], some (14, false)⟩) rfl (by kernel_rfl) (by kernel_rfl) (by kernel_rfl) (by kernel_rfl) rfl (fun _ _ _ h => h) (Or.inl ⟨by rfl, ?_⟩) HT4 ?_
  rotate_left
  · intro W hSW
    go_simp
    try with_reducible rfl
  simp only [Act.put, List.setIfInBounds_toArray, List.set_cons_zero, List.set_cons_succ]
  refine wpAnyL_take' (i := 16) (v := ?_) (oi := ⟨some 45, .load 24 (.tmp 3), 24, "law.go:38", #[⟨14, .guard⟩], some (14, false)⟩) rfl (by kernel_rfl) (by kernel_rfl) (by kernel_rfl) (by kernel_rfl) rfl (fun _ _ _ h => h) (Or.inl ⟨by rfl, ?_⟩) HT4 ?_
  rotate_left
  · intro W hSW
    go_simp
    try with_reducible rfl
  simp only [Act.put, List.setIfInBounds_toArray, List.set_cons_zero, List.set_cons_succ]
  have CK := (HSM.out _ b4).2.2
  refine wpAnyL_one' (i := 17) (o := ⟨some 46, .call ⟨.value (.func 8), #[.tmp 44, .tmp 45], #[24, 24]⟩, 4, "law.go:38", #[⟨15, .data⟩, ⟨16, .data⟩, ⟨14, .chain⟩, ⟨14, .guard⟩], some (14, false)⟩) (by kernel_rfl) rfl rfl (fun K hK => ?_)
  go_simp
  refine (CK).mono ?_
  rintro e V5 ⟨rfl, hb5⟩
  refine hK.out _ _ (fun _ => (HCL.out _ (below_then b4 hb5 b4.size))) ?_
  clear hK
  have b5 := below_then b4 hb5 b4.size
  clear CK
  have HT5 := HCL.out _ b5
  refine wpAnyL_take' (i := 18) (v := ?_) (oi := ⟨some 47, .unOp .not 4 (.tmp 46), 4, "law.go:38", #[⟨17, .data⟩, ⟨14, .guard⟩], some (14, false)⟩) rfl (by kernel_rfl) (by kernel_rfl) (by kernel_rfl) (by kernel_rfl) rfl (fun _ _ _ h => h) (Or.inl ⟨by rfl, ?_⟩) HT5 ?_
  rotate_left
  · intro W hSW
    go_simp
    try with_reducible rfl
  simp only [Act.put, List.setIfInBounds_toArray, List.set_cons_zero, List.set_cons_succ]
  refine wpAnyL_take' (i := 19) (v := ?_) (oi := ⟨some 48, .pick (.tmp 43) (.const (.bool true)) (.tmp 47), 4, "law.go:38", #[⟨14, .data⟩, ⟨18, .data⟩], none⟩) rfl (by kernel_rfl) (by kernel_rfl) (by kernel_rfl) (by kernel_rfl) rfl (fun _ _ _ h => h) (Or.inl ⟨by rfl, ?_⟩) HT5 ?_
  rotate_left
  · intro W hSW
    go_simp
    try with_reducible rfl
  simp only [Act.put, List.setIfInBounds_toArray, List.set_cons_zero, List.set_cons_succ]
  refine wpAnyL_done (by kernel_rfl) ?_ _
  have HBV : Hid (Below w0.heap.size w0 V5) := b5
  clear HT0 HT1 HT2 HT3 HT4 HT5 hb1 hb2 hb3 hb4 hb5 b1 b2 b3 b4 b5 bd hbc eT eD
  go_upto_region 5 with fail
  go_cut [56] from 119 (fun t56 wx => t56 = .bool (!(T1 && T2)) ∧ Below w0.heap.size w0 wx)
  case first =>
    have bz0 := HBV.out
    obtain ⟨q0, q1⟩ := HCL.out _ bz0
    have HQ := (HW.out _ bz0).2.2.2.1
    go_wp2_with fail
    refine HQ.mono ?_
    clear HQ q0 q1
    rintro e wz1 ⟨rfl, bb1⟩
    have bz1 := below_then bz0 bb1 bz0.size
    clear bb1
    cases T1
    · go_wp2_with fail
      go_meet
      exact ⟨by simp, bz1⟩
    obtain ⟨q0, q1⟩ := HCL.out _ bz1
    have HQ := (HW.out _ bz1).2.2.2.2
    go_wp2_with fail
    refine HQ.mono ?_
    clear HQ q0 q1
    rintro e wz2 ⟨rfl, bb2⟩
    have bz2 := below_then bz1 bb2 bz1.size
    clear bb2
    cases T2
    all_goals
      go_wp2_with fail
      go_meet
      exact ⟨by simp, bz2⟩
  case rest =>
  obtain ⟨rfl, hbc⟩ := hcut
  have HF2 : Hid ((T1 && T2) = true → fitB a = true ∧ fitB b = true) := fun h => by
    simp only [Bool.and_eq_true] at h
    exact ⟨HK.out.2.2.1.trans h.1, HK.out.2.2.2.trans h.2⟩
  clear HBV
  generalize (T1 && T2) = G at *
  cases G
  case false =>
    have HE : Hid (Below w.heap.size w wc) := HBB.out _ hbc
    have CA := awake_any wc
    clear hbc HW HSM HCL HA HB HBB HK HG2 HF2 B0
    go_wp2_with fail
    refine CA.mono ?_
    rintro e W1 ⟨rfl, hb1⟩
    have HE2 : Hid (Below w.heap.size w W1) := HE.out.trans (hb1.mono HE.out.size)
    clear CA hb1
    go_wp2_with fail
    go_ret
    exact ⟨rfl, HE2.out⟩
  obtain ⟨g1, g2, g5⟩ := HG2.out
  obtain ⟨g3, g4⟩ := HF2.out rfl
  have ffa := (fitB_fit g3).1
  have ffb := (fitB_fit g4).1
  have hal : a.length ≤ 60 := (small_bounds g1).1
  have hbl : b.length ≤ 60 := (small_bounds g2).1
  have HD1 : Hid (∀ W, Below w0.heap.size w0 W → Calls Try.prog 12 #[.agg #[.slice aa a.length ac], .agg #[.slice ba b.length bc]] W fun e w' => e = .returned (.tuple #[.string (difT (resD a 0) (resD b 0)).1, .bool (difT (resD a 0) (resD b 0)).2]) ∧ Below W.heap.size W w') := fun W h => (differ_val a b _ _ W (HA.out _ (HBB.out _ h)) (HB.out _ (HBB.out _ h)) g3 g4 g1 g2).mono (by
    rintro e w' ⟨h1, _, h2⟩; exact ⟨h1, h2⟩)
  have HD2 : Hid (∀ W, Below w0.heap.size w0 W → Calls Try.prog 13 #[.agg #[.slice aa a.length ac], .agg #[.slice ba b.length bc]] W fun e w' => e = .returned (.tuple #[.string (difT (resD a 0) (resD b 0)).1, .bool (difT (resD a 0) (resD b 0)).2]) ∧ Below W.heap.size W w') := fun W h => (rdiffer_any a b _ _ W (HA.out _ (HBB.out _ h)) (HB.out _ (HBB.out _ h)) ffa ffb hal hbl).mono (by
    rintro e w' ⟨hb, ⟨rfl, h⟩ | ⟨P, rfl, h0, h1⟩⟩
    · rw [difT_none h]; exact ⟨rfl, hb⟩
    · rw [difT_some h0 h1]; exact ⟨rfl, hb⟩)
  have HR1 : Hid (∀ W, Below w0.heap.size w0 W → (Calls Try.prog 10 #[.agg #[.slice aa a.length ac], .string s] W fun e w' => e = .returned (.tuple #[.int .i64 (runD a (bsZ s)).1, .int .i64 (runD a (bsZ s)).2]) ∧ Below W.heap.size W w') ∧ (Calls Try.prog 11 #[.agg #[.slice aa a.length ac], .string s] W fun e w' => e = .returned (.tuple #[.int .i64 (runD a (bsZ s)).1, .int .i64 (runD a (bsZ s)).2]) ∧ Below W.heap.size W w')) := fun W h => ⟨run_any a _ s W (HA.out _ (HBB.out _ h)) (fit_up g3 g1) (by omega), rrun_any a _ s W (HA.out _ (HBB.out _ h)) ffa (by omega)⟩
  have HSE : Hid (∀ W, Below w0.heap.size w0 W → (Calls Try.prog 16 #[.agg #[.slice aa a.length ac], .string s] W fun e w' => e = .returned (.int .i64 (seenD a (bsZ s))) ∧ Below W.heap.size W w') ∧ (Calls Try.prog 17 #[.agg #[.slice aa a.length ac], .string s] W fun e w' => e = .returned (.int .i64 (seenD a (bsZ s))) ∧ Below W.heap.size W w')) := fun W h => ⟨seen_any a _ s W (HA.out _ (HBB.out _ h)) (fit_up g3 g1) (by omega), rseen_any a _ s W (HA.out _ (HBB.out _ h)) ffa (by omega)⟩
  have HL1 : Hid (∀ W, Below w0.heap.size w0 W → Calls Try.prog 14 #[.agg #[.slice aa a.length ac]] W fun e w' => ∃ dv d, e = .returned (.agg #[dv]) ∧ SlD d dv w' ∧ Below W.heap.size W w' ∧ (NF d ∧ resD d 0 = resD a 0)) := fun W h => (least_any a _ W (HA.out _ (HBB.out _ h)) g3 (by omega) ffa (small_bounds g1).2).mono (by
    rintro e w' ⟨dv, d, rfl, h1, h2, h3, h4⟩
    exact ⟨dv, d, rfl, h1, h4, h2, h3.1⟩)
  have HL2 : Hid (∀ W, Below w0.heap.size w0 W → Calls Try.prog 15 #[.agg #[.slice aa a.length ac]] W fun e w' => ∃ dv d, e = .returned (.agg #[dv]) ∧ SlD d dv w' ∧ Below W.heap.size W w' ∧ (NF d ∧ resD d 0 = resD a 0)) := fun W h => (rleast_any a _ W (HA.out _ (HBB.out _ h)) ffa hal).mono (by
    rintro e w' ⟨dv, d, rfl, h1, h2, h3, h4⟩
    exact ⟨dv, d, rfl, h1, h4, h2, h3⟩)
  generalize difT (resD a 0) (resD b 0) = DT at *
  obtain ⟨dt, db⟩ := DT
  simp only at HD1 HD2
  generalize runD a (bsZ s) = R at *
  obtain ⟨r1, r2⟩ := R
  simp only at HR1
  generalize seenD a (bsZ s) = se at *
  clear g1 g2 g3 g4 g5 ffa ffb hal hbl HW HSM HK HG2 HF2 B0
  obtain ⟨q0, q1⟩ := HCL.out _ hbc
  have C1 := (HR1.out _ hbc).1
  go_wp2_with fail
  refine C1.mono ?_
  rintro e W1 ⟨rfl, hb1⟩
  have b1 := below_then hbc hb1 hbc.size
  clear C1 q0 q1 hb1 hbc
  obtain ⟨q0, q1⟩ := HCL.out _ b1
  have C1 := (HR1.out _ b1).2
  go_wp2_with fail
  refine C1.mono ?_
  rintro e W2 ⟨rfl, hb2⟩
  have b2 := below_then b1 hb2 b1.size
  clear C1 q0 q1 hb2 b1
  obtain ⟨q0, q1⟩ := HCL.out _ b2
  have C1 := HD1.out _ b2
  go_wp2_with fail
  refine C1.mono ?_
  rintro e W3 ⟨rfl, hb3⟩
  have b3 := below_then b2 hb3 b2.size
  clear C1 q0 q1 hb3 b2
  obtain ⟨q0, q1⟩ := HCL.out _ b3
  have C1 := HD2.out _ b3
  go_wp2_with fail
  refine C1.mono ?_
  rintro e W4 ⟨rfl, hb4⟩
  have b4 := below_then b3 hb4 b3.size
  clear C1 q0 q1 hb4 b3
  go_upto_region 11 with fail
  have bd : Below w0.heap.size w0 W4.drew := below_drewN b4 1
  have HT0 := HCL.out _ bd
  clear b4
  refine wp_region_L (fun W => W.cell? ⟨w.heap.size, 0, none⟩ = some (.slice aa a.length ac) ∧ W.cell? ⟨w.heap.size + 1, 0, none⟩ = some (.slice ba b.length bc)) 38 (by kernel_rfl) 38 rfl ?_
  refine wpAnyL_take' (i := 0) (v := ?_) (oi := ⟨some 82, .load 24 (.tmp 3), 24, "law.go:48", #[], none⟩) rfl (by kernel_rfl) (by kernel_rfl) (by kernel_rfl) (by kernel_rfl) rfl (fun _ _ _ h => h) (Or.inl ⟨by rfl, ?_⟩) HT0 ?_
  rotate_left
  · intro W hSW
    go_simp
    try with_reducible rfl
  simp only [Act.put, List.setIfInBounds_toArray, List.set_cons_zero, List.set_cons_succ]
  refine wpAnyL_take' (i := 2) (v := ?_) (oi := ⟨some 84, .load 24 (.tmp 3), 24, "law.go:48", #[], none⟩) rfl (by kernel_rfl) (by kernel_rfl) (by kernel_rfl) (by kernel_rfl) rfl (fun _ _ _ h => h) (Or.inl ⟨by rfl, ?_⟩) HT0 ?_
  rotate_left
  · intro W hSW
    go_simp
    try with_reducible rfl
  simp only [Act.put, List.setIfInBounds_toArray, List.set_cons_zero, List.set_cons_succ]
  have CK := HL1.out _ bd
  refine wpAnyL_one' (i := 1) (o := ⟨some 83, .call ⟨.value (.func 14), #[.tmp 82], #[24]⟩, 24, "law.go:48", #[⟨0, .data⟩], none⟩) (by kernel_rfl) rfl rfl (fun K hK => ?_)
  go_simp
  refine (CK).mono ?_
  rintro e V1 ⟨dv1, d1, rfl, hd1, hb1, hnf1⟩
  refine hK.out _ _ (fun _ => (HCL.out _ (below_then bd hb1 bd.size))) ?_
  clear hK
  have b1 := below_then bd hb1 bd.size
  clear CK
  have HT1 := HCL.out _ b1
  have CK := HL2.out _ b1
  refine wpAnyL_one' (i := 3) (o := ⟨some 85, .call ⟨.value (.func 15), #[.tmp 84], #[24]⟩, 24, "law.go:48", #[⟨2, .data⟩, ⟨1, .chain⟩], none⟩) (by kernel_rfl) rfl rfl (fun K hK => ?_)
  go_simp
  refine (CK).mono ?_
  rintro e V2 ⟨dv2, d2, rfl, hd2, hb2, hnf2⟩
  refine hK.out _ _ (fun _ => (HCL.out _ (below_then b1 hb2 b1.size))) ?_
  clear hK
  have b2 := below_then b1 hb2 b1.size
  clear CK
  have HT2 := HCL.out _ b2
  have hde : d1 = d2 := NF.one hnf1.1 hnf2.1 (hnf1.2.trans hnf2.2.symm)
  have hsv := rsame_any d1 d2 dv1 dv2 V2 (hd1.next hb2) hd2
  rw [decide_eq_true hde] at hsv
  refine wpAnyL_one' (i := 4) (o := ⟨some 86, .call ⟨.value (.func 9), #[.tmp 83, .tmp 85], #[24, 24]⟩, 4, "law.go:48", #[⟨1, .data⟩, ⟨3, .data⟩, ⟨3, .chain⟩], none⟩) (by kernel_rfl) rfl rfl (fun K hK => ?_)
  go_simp
  refine (hsv).mono ?_
  rintro e V3 ⟨rfl, hb3⟩
  refine hK.out _ _ (fun _ => (HCL.out _ (below_then b2 hb3 b2.size))) ?_
  clear hK
  have b3 := below_then b2 hb3 b2.size
  clear hsv hde hd1 hd2 hnf1 hnf2
  have HT3 := HCL.out _ b3
  refine wpAnyL_take' (i := 5) (v := ?_) (oi := ⟨some 87, .move (.tmp 86), 4, "law.go:48", #[⟨4, .data⟩, ⟨4, .chain⟩], none⟩) rfl (by kernel_rfl) (by kernel_rfl) (by kernel_rfl) (by kernel_rfl) rfl (fun _ _ _ h => h) (Or.inl ⟨by rfl, ?_⟩) HT3 ?_
  rotate_left
  · intro W hSW
    go_simp
    try with_reducible rfl
  simp only [Act.put, List.setIfInBounds_toArray, List.set_cons_zero, List.set_cons_succ]
  refine wpAnyL_take' (i := 6) (v := ?_) (oi := ⟨some 88, .move (.tmp 7), 3, "law.go:48", #[⟨5, .guard⟩], some (5, true)⟩) rfl (by kernel_rfl) (by kernel_rfl) (by kernel_rfl) (by kernel_rfl) rfl (fun _ _ _ h => h) (Or.inl ⟨by rfl, ?_⟩) HT3 ?_
  rotate_left
  · intro W hSW
    go_simp
    try with_reducible rfl
  simp only [Act.put, List.setIfInBounds_toArray, List.set_cons_zero, List.set_cons_succ]
  refine wpAnyL_take' (i := 7) (v := ?_) (oi := ⟨some 89, .move (.tmp 9), 3, "law.go:48", #[⟨5, .guard⟩], some (5, true)⟩) rfl (by kernel_rfl) (by kernel_rfl) (by kernel_rfl) (by kernel_rfl) rfl (fun _ _ _ h => h) (Or.inl ⟨by rfl, ?_⟩) HT3 ?_
  rotate_left
  · intro W hSW
    go_simp
    try with_reducible rfl
  simp only [Act.put, List.setIfInBounds_toArray, List.set_cons_zero, List.set_cons_succ]
  refine wpAnyL_take' (i := 8) (v := ?_) (oi := ⟨some 90, .binOp .eql 3 (.tmp 88) (.tmp 89) 3, 4, "law.go:48", #[⟨6, .data⟩, ⟨7, .data⟩, ⟨5, .guard⟩], some (5, true)⟩) rfl (by kernel_rfl) (by kernel_rfl) (by kernel_rfl) (by kernel_rfl) rfl (fun _ _ _ h => h) (Or.inl ⟨by rfl, ?_⟩) HT3 ?_
  rotate_left
  · intro W hSW
    go_simp
    try with_reducible rfl
  simp only [Act.put, List.setIfInBounds_toArray, List.set_cons_zero, List.set_cons_succ]
  refine wpAnyL_take' (i := 9) (v := ?_) (oi := ⟨some 91, .pick (.tmp 87) (.tmp 90) (.const (.bool false)), 4, "law.go:48", #[⟨5, .data⟩, ⟨8, .data⟩], none⟩) rfl (by kernel_rfl) (by kernel_rfl) (by kernel_rfl) (by kernel_rfl) rfl (fun _ _ _ h => h) (Or.inl ⟨by rfl, ?_⟩) HT3 ?_
  rotate_left
  · intro W hSW
    go_simp
    try with_reducible rfl
  simp only [Act.put, List.setIfInBounds_toArray, List.set_cons_zero, List.set_cons_succ]
  refine wpAnyL_take' (i := 10) (v := ?_) (oi := ⟨some 92, .move (.tmp 91), 4, "law.go:48", #[⟨9, .data⟩, ⟨5, .chain⟩], none⟩) rfl (by kernel_rfl) (by kernel_rfl) (by kernel_rfl) (by kernel_rfl) rfl (fun _ _ _ h => h) (Or.inl ⟨by rfl, ?_⟩) HT3 ?_
  rotate_left
  · intro W hSW
    go_simp
    try with_reducible rfl
  simp only [Act.put, List.setIfInBounds_toArray, List.set_cons_zero, List.set_cons_succ]
  refine wpAnyL_take' (i := 11) (v := ?_) (oi := ⟨some 93, .move (.tmp 8), 3, "law.go:48", #[⟨10, .guard⟩], some (10, true)⟩) rfl (by kernel_rfl) (by kernel_rfl) (by kernel_rfl) (by kernel_rfl) rfl (fun _ _ _ h => h) (Or.inl ⟨by rfl, ?_⟩) HT3 ?_
  rotate_left
  · intro W hSW
    go_simp
    try with_reducible rfl
  simp only [Act.put, List.setIfInBounds_toArray, List.set_cons_zero, List.set_cons_succ]
  refine wpAnyL_take' (i := 12) (v := ?_) (oi := ⟨some 94, .move (.tmp 10), 3, "law.go:48", #[⟨10, .guard⟩], some (10, true)⟩) rfl (by kernel_rfl) (by kernel_rfl) (by kernel_rfl) (by kernel_rfl) rfl (fun _ _ _ h => h) (Or.inl ⟨by rfl, ?_⟩) HT3 ?_
  rotate_left
  · intro W hSW
    go_simp
    try with_reducible rfl
  simp only [Act.put, List.setIfInBounds_toArray, List.set_cons_zero, List.set_cons_succ]
  refine wpAnyL_take' (i := 13) (v := ?_) (oi := ⟨some 95, .binOp .eql 3 (.tmp 93) (.tmp 94) 3, 4, "law.go:48", #[⟨11, .data⟩, ⟨12, .data⟩, ⟨10, .guard⟩], some (10, true)⟩) rfl (by kernel_rfl) (by kernel_rfl) (by kernel_rfl) (by kernel_rfl) rfl (fun _ _ _ h => h) (Or.inl ⟨by rfl, ?_⟩) HT3 ?_
  rotate_left
  · intro W hSW
    go_simp
    try with_reducible rfl
  simp only [Act.put, List.setIfInBounds_toArray, List.set_cons_zero, List.set_cons_succ]
  refine wpAnyL_take' (i := 14) (v := ?_) (oi := ⟨some 96, .pick (.tmp 92) (.tmp 95) (.const (.bool false)), 4, "law.go:48", #[⟨10, .data⟩, ⟨13, .data⟩], none⟩) rfl (by kernel_rfl) (by kernel_rfl) (by kernel_rfl) (by kernel_rfl) rfl (fun _ _ _ h => h) (Or.inl ⟨by rfl, ?_⟩) HT3 ?_
  rotate_left
  · intro W hSW
    go_simp
    try with_reducible rfl
  simp only [Act.put, List.setIfInBounds_toArray, List.set_cons_zero, List.set_cons_succ]
  refine wpAnyL_take' (i := 15) (v := ?_) (oi := ⟨some 97, .move (.tmp 96), 4, "law.go:48", #[⟨14, .data⟩, ⟨10, .chain⟩], none⟩) rfl (by kernel_rfl) (by kernel_rfl) (by kernel_rfl) (by kernel_rfl) rfl (fun _ _ _ h => h) (Or.inl ⟨by rfl, ?_⟩) HT3 ?_
  rotate_left
  · intro W hSW
    go_simp
    try with_reducible rfl
  simp only [Act.put, List.setIfInBounds_toArray, List.set_cons_zero, List.set_cons_succ]
  refine wpAnyL_take' (i := 16) (v := ?_) (oi := ⟨some 98, .load 24 (.tmp 3), 24, "law.go:48", #[⟨15, .guard⟩], some (15, true)⟩) rfl (by kernel_rfl) (by kernel_rfl) (by kernel_rfl) (by kernel_rfl) rfl (fun _ _ _ h => h) (Or.inl ⟨by rfl, ?_⟩) HT3 ?_
  rotate_left
  · intro W hSW
    go_simp
    try with_reducible rfl
  simp only [Act.put, List.setIfInBounds_toArray, List.set_cons_zero, List.set_cons_succ]
  refine wpAnyL_take' (i := 17) (v := ?_) (oi := ⟨some 99, .move (.tmp 2), 9, "law.go:48", #[⟨15, .guard⟩], some (15, true)⟩) rfl (by kernel_rfl) (by kernel_rfl) (by kernel_rfl) (by kernel_rfl) rfl (fun _ _ _ h => h) (Or.inl ⟨by rfl, ?_⟩) HT3 ?_
  rotate_left
  · intro W hSW
    go_simp
    try with_reducible rfl
  simp only [Act.put, List.setIfInBounds_toArray, List.set_cons_zero, List.set_cons_succ]
  refine wpAnyL_take' (i := 19) (v := ?_) (oi := ⟨some 101, .load 24 (.tmp 3), 24, "law.go:48", #[⟨15, .guard⟩], some (15, true)⟩) rfl (by kernel_rfl) (by kernel_rfl) (by kernel_rfl) (by kernel_rfl) rfl (fun _ _ _ h => h) (Or.inl ⟨by rfl, ?_⟩) HT3 ?_
  rotate_left
  · intro W hSW
    go_simp
    try with_reducible rfl
  simp only [Act.put, List.setIfInBounds_toArray, List.set_cons_zero, List.set_cons_succ]
  refine wpAnyL_take' (i := 20) (v := ?_) (oi := ⟨some 102, .move (.tmp 2), 9, "law.go:48", #[⟨15, .guard⟩], some (15, true)⟩) rfl (by kernel_rfl) (by kernel_rfl) (by kernel_rfl) (by kernel_rfl) rfl (fun _ _ _ h => h) (Or.inl ⟨by rfl, ?_⟩) HT3 ?_
  rotate_left
  · intro W hSW
    go_simp
    try with_reducible rfl
  simp only [Act.put, List.setIfInBounds_toArray, List.set_cons_zero, List.set_cons_succ]
  have CK := (HSE.out _ b3).1
  refine wpAnyL_one' (i := 18) (o := ⟨some 100, .call ⟨.value (.func 16), #[.tmp 98, .tmp 99], #[24, 9]⟩, 3, "law.go:48", #[⟨16, .data⟩, ⟨17, .data⟩, ⟨15, .chain⟩, ⟨15, .guard⟩], some (15, true)⟩) (by kernel_rfl) rfl rfl (fun K hK => ?_)
  go_simp
  refine (CK).mono ?_
  rintro e V4 ⟨rfl, hb4⟩
  refine hK.out _ _ (fun _ => (HCL.out _ (below_then b3 hb4 b3.size))) ?_
  clear hK
  have b4 := below_then b3 hb4 b3.size
  clear CK
  have HT4 := HCL.out _ b4
  have CK := (HSE.out _ b4).2
  refine wpAnyL_one' (i := 21) (o := ⟨some 103, .call ⟨.value (.func 17), #[.tmp 101, .tmp 102], #[24, 9]⟩, 3, "law.go:48", #[⟨19, .data⟩, ⟨20, .data⟩, ⟨18, .chain⟩, ⟨15, .guard⟩], some (15, true)⟩) (by kernel_rfl) rfl rfl (fun K hK => ?_)
  go_simp
  refine (CK).mono ?_
  rintro e V5 ⟨rfl, hb5⟩
  refine hK.out _ _ (fun _ => (HCL.out _ (below_then b4 hb5 b4.size))) ?_
  clear hK
  have b5 := below_then b4 hb5 b4.size
  clear CK
  have HT5 := HCL.out _ b5
  refine wpAnyL_take' (i := 22) (v := ?_) (oi := ⟨some 104, .binOp .eql 3 (.tmp 100) (.tmp 103) 3, 4, "law.go:48", #[⟨18, .data⟩, ⟨21, .data⟩, ⟨15, .guard⟩], some (15, true)⟩) rfl (by kernel_rfl) (by kernel_rfl) (by kernel_rfl) (by kernel_rfl) rfl (fun _ _ _ h => h) (Or.inl ⟨by rfl, ?_⟩) HT5 ?_
  rotate_left
  · intro W hSW
    go_simp
    try with_reducible rfl
  simp only [Act.put, List.setIfInBounds_toArray, List.set_cons_zero, List.set_cons_succ]
  refine wpAnyL_take' (i := 23) (v := ?_) (oi := ⟨some 105, .pick (.tmp 97) (.tmp 104) (.const (.bool false)), 4, "law.go:48", #[⟨15, .data⟩, ⟨22, .data⟩], none⟩) rfl (by kernel_rfl) (by kernel_rfl) (by kernel_rfl) (by kernel_rfl) rfl (fun _ _ _ h => h) (Or.inl ⟨by rfl, ?_⟩) HT5 ?_
  rotate_left
  · intro W hSW
    go_simp
    try with_reducible rfl
  simp only [Act.put, List.setIfInBounds_toArray, List.set_cons_zero, List.set_cons_succ]
  refine wpAnyL_take' (i := 24) (v := ?_) (oi := ⟨some 106, .move (.tmp 105), 4, "law.go:48", #[⟨23, .data⟩, ⟨21, .chain⟩], none⟩) rfl (by kernel_rfl) (by kernel_rfl) (by kernel_rfl) (by kernel_rfl) rfl (fun _ _ _ h => h) (Or.inl ⟨by rfl, ?_⟩) HT5 ?_
  rotate_left
  · intro W hSW
    go_simp
    try with_reducible rfl
  simp only [Act.put, List.setIfInBounds_toArray, List.set_cons_zero, List.set_cons_succ]
  refine wpAnyL_take' (i := 25) (v := ?_) (oi := ⟨some 107, .move (.tmp 11), 9, "law.go:48", #[⟨24, .guard⟩], some (24, true)⟩) rfl (by kernel_rfl) (by kernel_rfl) (by kernel_rfl) (by kernel_rfl) rfl (fun _ _ _ h => h) (Or.inl ⟨by rfl, ?_⟩) HT5 ?_
  rotate_left
  · intro W hSW
    go_simp
    try with_reducible rfl
  simp only [Act.put, List.setIfInBounds_toArray, List.set_cons_zero, List.set_cons_succ]
  refine wpAnyL_take' (i := 26) (v := ?_) (oi := ⟨some 108, .move (.tmp 13), 9, "law.go:48", #[⟨24, .guard⟩], some (24, true)⟩) rfl (by kernel_rfl) (by kernel_rfl) (by kernel_rfl) (by kernel_rfl) rfl (fun _ _ _ h => h) (Or.inl ⟨by rfl, ?_⟩) HT5 ?_
  rotate_left
  · intro W hSW
    go_simp
    try with_reducible rfl
  simp only [Act.put, List.setIfInBounds_toArray, List.set_cons_zero, List.set_cons_succ]
  refine wpAnyL_take' (i := 27) (v := ?_) (oi := ⟨some 109, .binOp .eql 9 (.tmp 107) (.tmp 108) 9, 4, "law.go:48", #[⟨25, .data⟩, ⟨26, .data⟩, ⟨24, .guard⟩], some (24, true)⟩) rfl (by kernel_rfl) (by kernel_rfl) (by kernel_rfl) (by kernel_rfl) rfl (fun _ _ _ h => h) (Or.inl ⟨by rfl, ?_⟩) HT5 ?_
  rotate_left
  · intro W hSW
    go_simp
    try with_reducible rfl
  simp only [Act.put, List.setIfInBounds_toArray, List.set_cons_zero, List.set_cons_succ]
  refine wpAnyL_take' (i := 28) (v := ?_) (oi := ⟨some 110, .pick (.tmp 106) (.tmp 109) (.const (.bool false)), 4, "law.go:48", #[⟨24, .data⟩, ⟨27, .data⟩], none⟩) rfl (by kernel_rfl) (by kernel_rfl) (by kernel_rfl) (by kernel_rfl) rfl (fun _ _ _ h => h) (Or.inl ⟨by rfl, ?_⟩) HT5 ?_
  rotate_left
  · intro W hSW
    go_simp
    try with_reducible rfl
  simp only [Act.put, List.setIfInBounds_toArray, List.set_cons_zero, List.set_cons_succ]
  refine wpAnyL_take' (i := 29) (v := ?_) (oi := ⟨some 111, .move (.tmp 110), 4, "law.go:48", #[⟨28, .data⟩, ⟨24, .chain⟩], none⟩) rfl (by kernel_rfl) (by kernel_rfl) (by kernel_rfl) (by kernel_rfl) rfl (fun _ _ _ h => h) (Or.inl ⟨by rfl, ?_⟩) HT5 ?_
  rotate_left
  · intro W hSW
    go_simp
    try with_reducible rfl
  simp only [Act.put, List.setIfInBounds_toArray, List.set_cons_zero, List.set_cons_succ]
  refine wpAnyL_take' (i := 30) (v := ?_) (oi := ⟨some 112, .move (.tmp 12), 4, "law.go:48", #[⟨29, .guard⟩], some (29, true)⟩) rfl (by kernel_rfl) (by kernel_rfl) (by kernel_rfl) (by kernel_rfl) rfl (fun _ _ _ h => h) (Or.inl ⟨by rfl, ?_⟩) HT5 ?_
  rotate_left
  · intro W hSW
    go_simp
    try with_reducible rfl
  simp only [Act.put, List.setIfInBounds_toArray, List.set_cons_zero, List.set_cons_succ]
  refine wpAnyL_take' (i := 31) (v := ?_) (oi := ⟨some 113, .move (.tmp 14), 4, "law.go:48", #[⟨29, .guard⟩], some (29, true)⟩) rfl (by kernel_rfl) (by kernel_rfl) (by kernel_rfl) (by kernel_rfl) rfl (fun _ _ _ h => h) (Or.inl ⟨by rfl, ?_⟩) HT5 ?_
  rotate_left
  · intro W hSW
    go_simp
    try with_reducible rfl
  simp only [Act.put, List.setIfInBounds_toArray, List.set_cons_zero, List.set_cons_succ]
  refine wpAnyL_take' (i := 32) (v := ?_) (oi := ⟨some 114, .binOp .eql 4 (.tmp 112) (.tmp 113) 4, 4, "law.go:48", #[⟨30, .data⟩, ⟨31, .data⟩, ⟨29, .guard⟩], some (29, true)⟩) rfl (by kernel_rfl) (by kernel_rfl) (by kernel_rfl) (by kernel_rfl) rfl (fun _ _ _ h => h) (Or.inl ⟨by rfl, ?_⟩) HT5 ?_
  rotate_left
  · intro W hSW
    go_simp
    try with_reducible rfl
  simp only [Act.put, List.setIfInBounds_toArray, List.set_cons_zero, List.set_cons_succ]
  refine wpAnyL_take' (i := 33) (v := ?_) (oi := ⟨some 115, .pick (.tmp 111) (.tmp 114) (.const (.bool false)), 4, "law.go:48", #[⟨29, .data⟩, ⟨32, .data⟩], none⟩) rfl (by kernel_rfl) (by kernel_rfl) (by kernel_rfl) (by kernel_rfl) rfl (fun _ _ _ h => h) (Or.inl ⟨by rfl, ?_⟩) HT5 ?_
  rotate_left
  · intro W hSW
    go_simp
    try with_reducible rfl
  simp only [Act.put, List.setIfInBounds_toArray, List.set_cons_zero, List.set_cons_succ]
  refine wpAnyL_take' (i := 34) (v := ?_) (oi := ⟨some 116, .move (.tmp 115), 4, "law.go:48", #[⟨33, .data⟩, ⟨29, .chain⟩], none⟩) rfl (by kernel_rfl) (by kernel_rfl) (by kernel_rfl) (by kernel_rfl) rfl (fun _ _ _ h => h) (Or.inl ⟨by rfl, ?_⟩) HT5 ?_
  rotate_left
  · intro W hSW
    go_simp
    try with_reducible rfl
  simp only [Act.put, List.setIfInBounds_toArray, List.set_cons_zero, List.set_cons_succ]
  have CK := awake_any V5
  refine wpAnyL_one' (i := 35) (o := ⟨some 117, .call ⟨.value (.func 5), #[], #[]⟩, 4, "law.go:48", #[⟨34, .chain⟩, ⟨34, .guard⟩], some (34, true)⟩) (by kernel_rfl) rfl rfl (fun K hK => ?_)
  go_simp
  refine (CK).mono ?_
  rintro e V6 ⟨rfl, hb6⟩
  refine hK.out _ _ (fun _ => (HCL.out _ (below_then b5 hb6 b5.size))) ?_
  clear hK
  have b6 := below_then b5 hb6 b5.size
  clear CK
  have HT6 := HCL.out _ b6
  refine wpAnyL_take' (i := 36) (v := ?_) (oi := ⟨some 118, .pick (.tmp 116) (.tmp 117) (.const (.bool false)), 4, "law.go:48", #[⟨34, .data⟩, ⟨35, .data⟩], none⟩) rfl (by kernel_rfl) (by kernel_rfl) (by kernel_rfl) (by kernel_rfl) rfl (fun _ _ _ h => h) (Or.inl ⟨by rfl, ?_⟩) HT6 ?_
  rotate_left
  · intro W hSW
    go_simp
    try with_reducible rfl
  simp only [Act.put, List.setIfInBounds_toArray, List.set_cons_zero, List.set_cons_succ]
  refine wpAnyL_take' (i := 37) (v := ?_) (oi := ⟨some 6, .assign (.tmp 118), 4, "law.go:48", #[⟨36, .data⟩, ⟨35, .chain⟩, ⟨0, .phase⟩, ⟨1, .phase⟩, ⟨2, .phase⟩, ⟨3, .phase⟩, ⟨4, .phase⟩, ⟨5, .phase⟩, ⟨6, .phase⟩, ⟨7, .phase⟩, ⟨8, .phase⟩, ⟨9, .phase⟩, ⟨10, .phase⟩, ⟨11, .phase⟩, ⟨12, .phase⟩, ⟨13, .phase⟩, ⟨14, .phase⟩, ⟨15, .phase⟩, ⟨16, .phase⟩, ⟨17, .phase⟩, ⟨18, .phase⟩, ⟨19, .phase⟩, ⟨20, .phase⟩, ⟨21, .phase⟩, ⟨22, .phase⟩, ⟨23, .phase⟩, ⟨24, .phase⟩, ⟨25, .phase⟩, ⟨26, .phase⟩, ⟨27, .phase⟩, ⟨28, .phase⟩, ⟨29, .phase⟩, ⟨30, .phase⟩, ⟨31, .phase⟩, ⟨32, .phase⟩, ⟨33, .phase⟩, ⟨34, .phase⟩, ⟨35, .phase⟩, ⟨36, .phase⟩], none⟩) rfl (by kernel_rfl) (by kernel_rfl) (by kernel_rfl) (by kernel_rfl) rfl (fun _ _ _ h => h) (Or.inl ⟨by rfl, ?_⟩) HT6 ?_
  rotate_left
  · intro W hSW
    go_simp
    try with_reducible rfl
  simp only [Act.put, List.setIfInBounds_toArray, List.set_cons_zero, List.set_cons_succ]
  refine wpAnyL_done (by kernel_rfl) ?_ _
  have HE : Hid (Below w.heap.size w V6) := HBB.out _ b6
  clear HT0 HT1 HT2 HT3 HT4 HT5 HT6 hb1 hb2 hb3 hb4 hb5 hb6 b1 b2 b3 b4 b5 b6 bd HD1 HD2 HR1 HSE HL1 HL2 HCL HA HB HBB
  go_wp2_with fail
  go_ret
  exact ⟨rfl, HE.out⟩
end Go.Proofs.Ytdalomibilicfaa
