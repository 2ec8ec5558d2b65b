/- release. -/
import Derived.Test.YtoocafcagelbgaaBRel
namespace Go.Proofs.Ytoocafcagelbgaa
open Go.RowKit
attribute [local go_sem] Oper.semAt_some

/-- What a release leaves. -/
def RelR (B bb mb : Nat) (r : Nat → Nat) (sv rv : Value) (L : List Sv) (w : World) (n : Nat) (S' : St) (w' : World) : Prop :=
  ∃ L', Bld B bb mb S' sv rv L' w' ∧ But (fun k => BldD bb mb sv k) w w' ∧ Wr r S' ∧ S'.sl.length = n ∧ ∀ k, KB L' k → KB L k
set_option maxRecDepth 100000 in
set_option maxHeartbeats 16000000 in
theorem release_any (B bb mb : Nat) (r : Nat → Nat) (sv rv : Value) : ∀ (f i : Nat) (S : St) (L : List Sv) (w : World), Bld B bb mb S sv rv L w → Wr r S → i < S.sl.length → r i < f → B ≤ w.heap.size →
    Calls Try.prog 52 #[.pointer (some ⟨bb, 0, none⟩), .int .i64 (i : Int)] w fun e w' => e = .returned (.tuple #[]) ∧ RelR B bb mb r sv rv L w S.sl.length (relS f S i) w'
  | 0, _, _, _, _, _, _, _, h, _ => absurd h (Nat.not_lt_zero _)
  | f + 1, i, S, L, w, hbl, hwr, hi, hrk, hBw => by
    have HIH : Hid _ := release_any B bb mb r sv rv f
    obtain ⟨s, hs⟩ : ∃ s, S.sl[i]? = some s := ⟨_, List.getElem?_eq_getElem hi⟩
    obtain ⟨g, cap, u, hsv, hu, hg1, hg2, hku, hcell, hfz, _⟩ := hbl.at hs
    subst hsv
    obtain ⟨⟨sk, sn, sf, sfr, sto, sbd⟩, ks, rf, nx⟩ := s
    have hmem := List.mem_of_getElem? hs
    have hkin : ∀ k ∈ ks, k < S.sl.length := hwr.kin _ hmem
    have hkl : ks.length ≤ 1000000 := hwr.kl _ hmem
    have hkr : ∀ k ∈ ks, r k < r i := hwr.rk _ _ hs
    have hku : OwnI B (intL ks) u w := hku
    have hok := hbl.own.ok _ (List.mem_of_getElem? hu)
    have hrf : (rf : Int) ≤ 9223372036854775807 := hok.ok.refs.2
    have hki : ∀ y ∈ intL ks, i64B y := hok.ki
    have hnx : i64B nx := hok.ok.next
    obtain ⟨ua, uc, rfl⟩ := slice_of_ownK hku
    obtain ⟨rI, hrI⟩ : ∃ rI : Int, (rf : Int) = rI := ⟨_, rfl⟩
    have x0 : w.cell? ⟨g, i * 10, none⟩ = some (.string sk) := hcell 0 _ (by omega) rfl
    have x1 : w.cell? ⟨g, i * 10 + 1, none⟩ = some (.bool sn) := hcell 1 _ (by omega) rfl
    have x2 : w.cell? ⟨g, i * 10 + 2, none⟩ = some (.string sf) := hcell 2 _ (by omega) rfl
    have x3 : w.cell? ⟨g, i * 10 + 3, none⟩ = some (.int .i64 sfr) := hcell 3 _ (by omega) rfl
    have x4 : w.cell? ⟨g, i * 10 + 4, none⟩ = some (.int .i64 sto) := hcell 4 _ (by omega) rfl
    have x5 : w.cell? ⟨g, i * 10 + 5, none⟩ = some (.int .i64 sbd) := hcell 5 _ (by omega) rfl
    have x6 : w.cell? ⟨g, i * 10 + 6, none⟩ = some (.slice none 0 0) := hcell 6 _ (by omega) rfl
    have x7 : w.cell? ⟨g, i * 10 + 7, none⟩ = some (.slice ua (intL ks).length uc) := hcell 7 _ (by omega) rfl
    have x8 : w.cell? ⟨g, i * 10 + 8, none⟩ = some (.int .i64 rI) := by rw [← hrI]; exact hcell 8 _ (by omega) rfl
    have x9 : w.cell? ⟨g, i * 10 + 9, none⟩ = some (.int .i64 nx) := hcell 9 _ (by omega) rfl
    have cb : w.cell? ⟨bb, 0, none⟩ = some (.slice (some ⟨g, 0, none⟩) S.sl.length cap) := by rw [Lib.cell_of_heap hbl.box]; rfl
    have hbbl : bb < w.heap.size := blk_lt hbl.box
    have HJ : Hid (RelK B bb mb (.slice (some ⟨g, 0, none⟩) S.sl.length cap) rv L w w.heap.size B #[.string sk, .bool sn, .string sf, .int .i64 sfr, .int .i64 sto, .int .i64 sbd, .slice none 0 0, .slice ua (intL ks).length uc, .int .i64 rI, .int .i64 nx] (intL ks) (.slice ua (intL ks).length uc) S L (w.alloc (Obj.cells #[.string sk, .bool sn, .string sf, .int .i64 sfr, .int .i64 sto, .int .i64 sbd, .slice none 0 0, .slice ua (intL ks).length uc, .int .i64 rI, .int .i64 nx] 60))) := by
      have hb : Below w.heap.size w (w.alloc (Obj.cells #[.string sk, .bool sn, .string sf, .int .i64 sfr, .int .i64 sto, .int .i64 sbd, .slice none 0 0, .slice ua (intL ks).length uc, .int .i64 rI, .int .i64 nx] 60)) := (Below.refl _ _).alloc (Nat.le_refl _) _
      exact ⟨hbl.next hb, ownsRow_below4 hku hb, heap_alloc_new _ _, But.of_next hb, fun k h => h, fun k h => (hbl.low h).2, Nat.le_refl _⟩
    have hl4 := hwr.len
    have HBL : Hid (Bld B bb mb S (.slice (some ⟨g, 0, none⟩) S.sl.length cap) rv L w) := hbl
    have HWR : Hid (Wr r S ∧ S.sl[i]? = some ⟨⟨sk, sn, sf, sfr, sto, sbd⟩, ks, rf, nx⟩ ∧ i < S.sl.length ∧ r i < f + 1) := ⟨hwr, hs, hi, hrk⟩
    have HKS : Hid ((∀ k ∈ ks, k < S.sl.length) ∧ ks.length ≤ 1000000 ∧ (∀ k ∈ ks, r k < r i) ∧ (∀ y ∈ intL ks, i64B y) ∧ i64B nx) := ⟨hkin, hkl, hkr, hki, hnx⟩
    obtain ⟨LR, HLR⟩ : ∃ LR : Ending → World → Prop, Hid (LR = fun e w' => e = .returned (.tuple #[]) ∧ RelR B bb mb r (.slice (some ⟨g, 0, none⟩) S.sl.length cap) rv L w S.sl.length (relS (f + 1) S i) w') := ⟨_, rfl⟩
    have hgoal : (fun e w' => e = .returned (.tuple #[]) ∧ RelR B bb mb r (.slice (some ⟨g, 0, none⟩) S.sl.length cap) rv L w S.sl.length (relS (f + 1) S i) w') = LR := HLR.out.symm
    rw [hgoal]
    clear hgoal
    obtain ⟨n2, HN2⟩ : ∃ n2, Hid (S.sl.length = n2) := ⟨_, rfl⟩
    rw [HN2.out] at cb hi hl4
    have hiI : (i : Int) < (n2 : Int) := by omega
    have hiI0 : (0 : Int) ≤ (i : Int) := by omega
    clear hbl hwr hs hrk hu hku hcell hok hmem hkin hkl hkr hki hnx
    by_cases hm : 1 < rf
    · have d1 : decide (rI > 1) = true := decide_eq_true (by omega)
      obtain ⟨rJ, hrJ⟩ : ∃ rJ : Int, ((rf - 1 : Nat) : Int) = rJ := ⟨_, rfl⟩
      have hw1 : IntKind.i64.wrap (rI - 1) = rJ := by rw [IntWalk.i64_in _ (by omega)]; omega
      have HE : Hid (LR (.returned (.tuple #[])) ((w.setCell ⟨g, i * 10 + 8, none⟩ (.int .i64 rJ)).alloc (Obj.cells #[.string sk, .bool sn, .string sf, .int .i64 sfr, .int .i64 sto, .int .i64 sbd, .slice none 0 0, .slice ua (intL ks).length uc, .int .i64 rI, .int .i64 nx] 60))) := by
        rw [HLR.out]
        refine ⟨rfl, ?_⟩
        rw [relS_more HWR.out.2.1 hm]
        obtain ⟨L8, hB8, hkb8⟩ := HBL.out.refs HWR.out.2.1 (rf - 1) (by omega)
        rw [hrJ] at hB8
        have hb : Below (w.setCell ⟨g, i * 10 + 8, none⟩ (.int .i64 rJ)).heap.size (w.setCell ⟨g, i * 10 + 8, none⟩ (.int .i64 rJ)) ((w.setCell ⟨g, i * 10 + 8, none⟩ (.int .i64 rJ)).alloc (Obj.cells #[.string sk, .bool sn, .string sf, .int .i64 sfr, .int .i64 sto, .int .i64 sbd, .slice none 0 0, .slice ua (intL ks).length uc, .int .i64 rI, .int .i64 nx] 60)) := (Below.refl _ _).alloc (Nat.le_refl _) _
        have h8 : But (fun k => BldD bb mb (.slice (some ⟨g, 0, none⟩) S.sl.length cap) k) w (w.setCell ⟨g, i * 10 + 8, none⟩ (.int .i64 rJ)) := (But.refl _ w).setCell ⟨g, i * 10 + 8, none⟩ (.int .i64 rJ) (.inr (.inr (.inr rfl)))
        exact ⟨L8, hB8.next hb, h8.trans (But.of_next hb), HWR.out.1.set (i := i) (s0 := ⟨⟨sk, sn, sf, sfr, sto, sbd⟩, ks, rf, nx⟩) (s := ⟨⟨sk, sn, sf, sfr, sto, sbd⟩, ks, rf - 1, nx⟩) HWR.out.2.1 (fun k h => h) (HWR.out.1.hd ⟨⟨sk, sn, sf, sfr, sto, sbd⟩, ks, rf, nx⟩ (List.mem_of_getElem? HWR.out.2.1)) HKS.out.2.1 HWR.out.1.fl S.F, by simp [St.setSl], hkb8⟩
      clear HJ hrI hrJ hm
      go_enter Try.func52, Try.ntmps52
      go_wp2_with fail
      refine bodyPost_ret (results_none rfl _ _ _) rfl ?_
      exact HE.out
    · have d1 : decide (rI > 1) = false := decide_eq_false (by omega)
      clear hrI
      go_enter Try.func52, Try.ntmps52
      obtain ⟨Pb, HPB⟩ : ∃ Pb, Hid (Pb = w.heap.size) := ⟨_, rfl⟩
      obtain ⟨kn, HKN⟩ : ∃ kn, Hid ((intL ks).length = kn) := ⟨_, rfl⟩
      obtain ⟨fv, HFV⟩ : ∃ fv, Hid (S.free = fv) := ⟨_, rfl⟩
      obtain ⟨K, hK⟩ : ∃ K, keyH ⟨sk, sn, sf, sfr, sto, sbd⟩ (intL ks) = K := ⟨_, rfl⟩
      have HKE : Hid (keyH ⟨sk, sn, sf, sfr, sto, sbd⟩ (intL ks) = K) := hK
      rw [HN2.out] at HJ
      have HS3 : Hid (∀ S2 L2 W, RelK B bb mb (.slice (some ⟨g, 0, none⟩) n2 cap) rv L w w.heap.size B #[.string sk, .bool sn, .string sf, .int .i64 sfr, .int .i64 sto, .int .i64 sbd, .slice none 0 0, .slice ua (intL ks).length uc, .int .i64 rI, .int .i64 nx] (intL ks) (.slice ua (intL ks).length uc) S2 L2 W → W.cell? ⟨bb, 3, none⟩ = some (.map (some mb)) ∧ W.cell? ⟨Pb, 0, none⟩ = some (.string sk) ∧ W.cell? ⟨Pb, 1, none⟩ = some (.bool sn) ∧ W.cell? ⟨Pb, 2, none⟩ = some (.string sf) ∧ W.cell? ⟨Pb, 3, none⟩ = some (.int .i64 sfr) ∧ W.cell? ⟨Pb, 4, none⟩ = some (.int .i64 sto) ∧ W.cell? ⟨Pb, 5, none⟩ = some (.int .i64 sbd) ∧ W.cell? ⟨Pb, 6, none⟩ = some (.slice none 0 0) ∧ W.cell? ⟨Pb, 7, none⟩ = some (.slice ua kn uc)) := fun S2 L2 W h => by
        have c := h.box
        rw [← HPB.out, HKN.out] at c
        exact ⟨by rw [Lib.cell_of_heap h.bld.box]; rfl, by rw [Lib.cell_of_heap c]; rfl, by rw [Lib.cell_of_heap c]; rfl, by rw [Lib.cell_of_heap c]; rfl, by rw [Lib.cell_of_heap c]; rfl, by rw [Lib.cell_of_heap c]; rfl, by rw [Lib.cell_of_heap c]; rfl, by rw [Lib.cell_of_heap c]; rfl, by rw [Lib.cell_of_heap c]; rfl⟩
      have HKOK : Hid (okK K) := by
        rw [← HKE.out]
        have hz0 : i64B 0 := ⟨by decide, by decide⟩
        have hk1 := HKS.out.2.1
        have hk2 := intL_size ks
        exact okK_of (s := ⟨.mk ⟨sk, sn, sf, sfr, sto, sbd⟩ [], intL ks, 0, 0⟩) ⟨HWR.out.1.hd _ (List.mem_of_getElem? HWR.out.2.1), hz0, hz0, by show (intL ks).length ≤ _; omega⟩ (by show (intL ks).length ≤ _; omega)
      have HHOL : Hid (∀ S2 L2 W, RelK B bb mb (.slice (some ⟨g, 0, none⟩) n2 cap) rv L w w.heap.size B #[.string sk, .bool sn, .string sf, .int .i64 sfr, .int .i64 sto, .int .i64 sbd, .slice none 0 0, .slice ua (intL ks).length uc, .int .i64 rI, .int .i64 nx] (intL ks) (.slice ua (intL ks).length uc) S2 L2 W → Calls Try.prog 54 #[.agg #[.string sk, .bool sn, .string sf, .int .i64 sfr, .int .i64 sto, .int .i64 sbd, .slice none 0 0], .slice ua kn uc] W fun e w' => e = .returned (hkV K) ∧ Below W.heap.size W w') := fun S2 L2 W h => by
        have := heldOf_any ⟨sk, sn, sf, sfr, sto, sbd⟩ (.slice none 0 0) (intL ks) (.slice ua (intL ks).length uc) W (sli_own h.kids HKS.out.2.2.2.1) (by rw [intL_size]; exact HKS.out.2.1)
        rw [HKE.out, HKN.out] at this
        exact this
      clear hK
      go_upto_region 3 with fail
      rw [← HPB.out]
      generalize w.alloc (Obj.cells #[.string sk, .bool sn, .string sf, .int .i64 sfr, .int .i64 sto, .int .i64 sbd, .slice none 0 0, .slice ua (intL ks).length uc, .int .i64 rI, .int .i64 nx] 60) = w1 at *
      try simp only [HKN.out]
      have hS3 : (fun W : World => W.cell? ⟨bb, 3, none⟩ = some (.map (some mb)) ∧ W.cell? ⟨Pb, 0, none⟩ = some (.string sk) ∧ W.cell? ⟨Pb, 1, none⟩ = some (.bool sn) ∧ W.cell? ⟨Pb, 2, none⟩ = some (.string sf) ∧ W.cell? ⟨Pb, 3, none⟩ = some (.int .i64 sfr) ∧ W.cell? ⟨Pb, 4, none⟩ = some (.int .i64 sto) ∧ W.cell? ⟨Pb, 5, none⟩ = some (.int .i64 sbd) ∧ W.cell? ⟨Pb, 6, none⟩ = some (.slice none 0 0) ∧ W.cell? ⟨Pb, 7, none⟩ = some (.slice ua kn uc)) w1.drew := HS3.out _ _ _ (HJ.out.next (Below.refl _ _).drew)
      refine wp_region_L (fun W => W.cell? ⟨bb, 3, none⟩ = some (.map (some mb)) ∧ W.cell? ⟨Pb, 0, none⟩ = some (.string sk) ∧ W.cell? ⟨Pb, 1, none⟩ = some (.bool sn) ∧ W.cell? ⟨Pb, 2, none⟩ = some (.string sf) ∧ W.cell? ⟨Pb, 3, none⟩ = some (.int .i64 sfr) ∧ W.cell? ⟨Pb, 4, none⟩ = some (.int .i64 sto) ∧ W.cell? ⟨Pb, 5, none⟩ = some (.int .i64 sbd) ∧ W.cell? ⟨Pb, 6, none⟩ = some (.slice none 0 0) ∧ W.cell? ⟨Pb, 7, none⟩ = some (.slice ua kn uc)) 10 (by kernel_rfl) 10 rfl ?_
      refine wpAnyL_take' (i := 0) (v := ?_) (oi := { dst := some 30, op := Op.move (Operand.tmp 0), type := 91, pos := "build.go:102", after := #[], guard := none }) rfl (by kernel_rfl) (by kernel_rfl) (by kernel_rfl) (by kernel_rfl) rfl (fun _ _ _ h => h) (Or.inl ⟨by rfl, ?_⟩) hS3 ?_
      rotate_left
      · intro W hSW
        go_simp
        try with_reducible rfl
      simp only [Act.put, List.setIfInBounds_toArray, List.set_cons_zero, List.set_cons_succ]
      refine wpAnyL_take' (i := 1) (v := ?_) (oi := { dst := some 31, op := Op.nilCheck (Operand.tmp 30), type := 0, pos := "build.go:102", after := #[{ on := 0, ground := Ground.data }], guard := none }) rfl (by kernel_rfl) (by kernel_rfl) (by kernel_rfl) (by kernel_rfl) rfl (fun _ _ _ h => h) (Or.inl ⟨by rfl, ?_⟩) hS3 ?_
      rotate_left
      · intro W hSW
        go_simp
        try with_reducible rfl
      simp only [Act.put, List.setIfInBounds_toArray, List.set_cons_zero, List.set_cons_succ]
      refine wpAnyL_take' (i := 2) (v := ?_) (oi := { dst := some 32, op := Op.fieldAddr 77 (Operand.tmp 31) 1, type := 0, pos := "build.go:102", after := #[{ on := 1, ground := Ground.data }], guard := none }) rfl (by kernel_rfl) (by kernel_rfl) (by kernel_rfl) (by kernel_rfl) rfl (fun _ _ _ h => h) (Or.inl ⟨by rfl, ?_⟩) hS3 ?_
      rotate_left
      · intro W hSW
        go_simp
        try with_reducible rfl
      simp only [Act.put, List.setIfInBounds_toArray, List.set_cons_zero, List.set_cons_succ]
      refine wpAnyL_take' (i := 3) (v := ?_) (oi := { dst := some 33, op := Op.load 61 (Operand.tmp 32), type := 61, pos := "build.go:102", after := #[{ on := 2, ground := Ground.data }], guard := none }) rfl (by kernel_rfl) (by kernel_rfl) (by kernel_rfl) (by kernel_rfl) rfl (fun _ _ _ h => h) (Or.inl ⟨by rfl, ?_⟩) hS3 ?_
      rotate_left
      · intro W hSW
        go_simp
        try with_reducible rfl
      simp only [Act.put, List.setIfInBounds_toArray, List.set_cons_zero, List.set_cons_succ]
      refine wpAnyL_take' (i := 4) (v := ?_) (oi := { dst := some 34, op := Op.fieldAddr 60 (Operand.tmp 4) 0, type := 0, pos := "build.go:102", after := #[], guard := none }) rfl (by kernel_rfl) (by kernel_rfl) (by kernel_rfl) (by kernel_rfl) rfl (fun _ _ _ h => h) (Or.inl ⟨by rfl, ?_⟩) hS3 ?_
      rotate_left
      · intro W hSW
        go_simp
        try with_reducible rfl
      simp only [Act.put, List.setIfInBounds_toArray, List.set_cons_zero, List.set_cons_succ]
      refine wpAnyL_take' (i := 5) (v := ?_) (oi := { dst := some 35, op := Op.load 32 (Operand.tmp 34), type := 32, pos := "build.go:102", after := #[{ on := 4, ground := Ground.data }], guard := none }) rfl (by kernel_rfl) (by kernel_rfl) (by kernel_rfl) (by kernel_rfl) rfl (fun _ _ _ h => h) (Or.inl ⟨by rfl, ?_⟩) hS3 ?_
      rotate_left
      · intro W hSW
        go_simp
        try with_reducible rfl
      simp only [Act.put, List.setIfInBounds_toArray, List.set_cons_zero, List.set_cons_succ]
      refine wpAnyL_take' (i := 6) (v := ?_) (oi := { dst := some 36, op := Op.fieldAddr 60 (Operand.tmp 4) 1, type := 0, pos := "build.go:102", after := #[], guard := none }) rfl (by kernel_rfl) (by kernel_rfl) (by kernel_rfl) (by kernel_rfl) rfl (fun _ _ _ h => h) (Or.inl ⟨by rfl, ?_⟩) hS3 ?_
      rotate_left
      · intro W hSW
        go_simp
        try with_reducible rfl
      simp only [Act.put, List.setIfInBounds_toArray, List.set_cons_zero, List.set_cons_succ]
      refine wpAnyL_take' (i := 7) (v := ?_) (oi := { dst := some 37, op := Op.load 23 (Operand.tmp 36), type := 23, pos := "build.go:102", after := #[{ on := 6, ground := Ground.data }], guard := none }) rfl (by kernel_rfl) (by kernel_rfl) (by kernel_rfl) (by kernel_rfl) rfl (fun _ _ _ h => h) (Or.inl ⟨by rfl, ?_⟩) hS3 ?_
      rotate_left
      · intro W hSW
        go_simp
        try with_reducible rfl
      simp only [Act.put, List.setIfInBounds_toArray, List.set_cons_zero, List.set_cons_succ]
      refine wpAnyL_one' (i := 8) (o := { dst := some 38, op := Op.call { callee := Callee.value (Operand.func 54), args := #[Operand.tmp 35, Operand.tmp 37], argTypes := #[32, 23] }, type := 87, pos := "build.go:102", after := #[{ on := 5, ground := Ground.data }, { on := 7, ground := Ground.data }], guard := none }) (by kernel_rfl) rfl rfl (fun KQ hKQ => ?_)
      go_simp
      refine (HHOL.out _ _ _ (HJ.out.next (Below.refl _ _).drew)).mono ?_
      rintro e w4 ⟨rfl, hb4⟩
      have HJ4 : Hid (RelK B bb mb (.slice (some ⟨g, 0, none⟩) n2 cap) rv L w w.heap.size B #[.string sk, .bool sn, .string sf, .int .i64 sfr, .int .i64 sto, .int .i64 sbd, .slice none 0 0, .slice ua (intL ks).length uc, .int .i64 rI, .int .i64 nx] (intL ks) (.slice ua (intL ks).length uc) S L w4) := (HJ.out.next (Below.refl _ _).drew).next hb4
      have hS3b : w4.cell? ⟨bb, 3, none⟩ = some (.map (some mb)) ∧ w4.cell? ⟨Pb, 0, none⟩ = some (.string sk) ∧ w4.cell? ⟨Pb, 1, none⟩ = some (.bool sn) ∧ w4.cell? ⟨Pb, 2, none⟩ = some (.string sf) ∧ w4.cell? ⟨Pb, 3, none⟩ = some (.int .i64 sfr) ∧ w4.cell? ⟨Pb, 4, none⟩ = some (.int .i64 sto) ∧ w4.cell? ⟨Pb, 5, none⟩ = some (.int .i64 sbd) ∧ w4.cell? ⟨Pb, 6, none⟩ = some (.slice none 0 0) ∧ w4.cell? ⟨Pb, 7, none⟩ = some (.slice ua kn uc) := HS3.out _ _ _ HJ4.out
      obtain ⟨w5, hst, HJ5⟩ : ∃ w5, (Builtin.delete_ #[61, 87] 0 #[.map (some mb), hkV K]).run Try.prog w4 = .ok (.tuple #[]) w5 ∧ Hid (RelK B bb mb (.slice (some ⟨g, 0, none⟩) n2 cap) rv L w w.heap.size B #[.string sk, .bool sn, .string sf, .int .i64 sfr, .int .i64 sto, .int .i64 sbd, .slice none 0 0, .slice ua (intL ks).length uc, .int .i64 rI, .int .i64 nx] (intL ks) (.slice ua (intL ks).length uc) { S with F := updF S.F K none } L w5) := by
        obtain ⟨n, hnn, hm⟩ := HJ4.out.bld.map
        obtain ⟨w5, hst, hm5, hb5, hz5⟩ := hm.drop HKOK.out 0
        have h5 := HJ4.out.step (S2 := { S with F := updF S.F K none, cnt := S.cnt }) hb5 (fun k e => .inr (.inl e)) (HJ4.out.bld.mapped (by have : n ≤ S.cnt := hnn; split <;> omega) hm5 hb5) (fun k h => h)
        exact ⟨w5, hst, h5⟩
      refine hKQ.out _ _ (fun _ => hS3b) ?_
      clear hKQ KQ
      refine wpAnyL_one' (i := 9) (o := { dst := none, op := Op.call { callee := Callee.builtin Builtin.delete, args := #[Operand.tmp 33, Operand.tmp 38], argTypes := #[61, 87] }, type := 0, pos := "build.go:102", after := #[{ on := 3, ground := Ground.data }, { on := 8, ground := Ground.data }, { on := 8, ground := Ground.chain }], guard := none }) (by kernel_rfl) rfl rfl (fun K hK => ?_)
      go_simp
      refine hK.out _ _ (fun _ => HS3.out _ _ _ HJ5.out) ?_
      clear hK K
      refine wpAnyL_done (by kernel_rfl) ?_ _
      clear hst hS3 hS3b hb4 x0 x1 x2 x3 x4 x5 x6 x7 x8 x9 cb
      have hs5 : (St.mk S.sl S.fl S.roots (updF S.F K none) S.cnt).sl[i]? = some ⟨⟨sk, sn, sf, sfr, sto, sbd⟩, ks, rf, nx⟩ := HWR.out.2.1
      obtain ⟨g', cap', u5, e5, _, _, _, _, hcell5, hfz5, _⟩ := HJ5.out.bld.at hs5
      simp only [Value.slice.injEq, Option.some.injEq, Addr.mk.injEq, and_true] at e5
      obtain ⟨rfl, e5n, rfl⟩ := e5
      clear e5n
      have x0 : w5.cell? ⟨g, i * 10, none⟩ = _ := hcell5 0 _ (by omega) rfl
      have x1 : w5.cell? ⟨g, i * 10 + 1, none⟩ = _ := hcell5 1 _ (by omega) rfl
      have x2 : w5.cell? ⟨g, i * 10 + 2, none⟩ = _ := hcell5 2 _ (by omega) rfl
      have x3 : w5.cell? ⟨g, i * 10 + 3, none⟩ = _ := hcell5 3 _ (by omega) rfl
      have x4 : w5.cell? ⟨g, i * 10 + 4, none⟩ = _ := hcell5 4 _ (by omega) rfl
      have x5 : w5.cell? ⟨g, i * 10 + 5, none⟩ = _ := hcell5 5 _ (by omega) rfl
      have x6 : w5.cell? ⟨g, i * 10 + 6, none⟩ = _ := hcell5 6 _ (by omega) rfl
      have x7 : w5.cell? ⟨g, i * 10 + 7, none⟩ = _ := hcell5 7 _ (by omega) rfl
      have x8 : w5.cell? ⟨g, i * 10 + 8, none⟩ = _ := hcell5 8 _ (by omega) rfl
      have x9 : w5.cell? ⟨g, i * 10 + 9, none⟩ = _ := hcell5 9 _ (by omega) rfl
      have hS4 : (fun W : World => W.cell? ⟨bb, 0, none⟩ = some (.slice (some ⟨g, 0, none⟩) n2 cap) ∧ W.cell? ⟨bb, 1, none⟩ = some (.int .i64 fv)) w5.drew := by
        have h5 := HJ5.out.next (Below.refl _ _).drew
        have hfv : (St.mk S.sl S.fl S.roots (updF S.F K none) S.cnt).free = fv := HFV.out
        exact ⟨by rw [Lib.cell_of_heap h5.bld.box]; rfl, by rw [Lib.cell_of_heap h5.bld.box, ← hfv]; rfl⟩
      clear hfz hcell5
      go_upto_region 4 with fail
      refine wp_region_L (fun W => W.cell? ⟨bb, 0, none⟩ = some (.slice (some ⟨g, 0, none⟩) n2 cap) ∧ W.cell? ⟨bb, 1, none⟩ = some (.int .i64 fv)) 13 (by kernel_rfl) 14 rfl ?_
      refine wpAnyL_take' (i := 0) (v := ?_) (oi := { dst := some 39, op := Op.move (Operand.tmp 0), type := 91, pos := "build.go:103", after := #[], guard := none }) rfl (by kernel_rfl) (by kernel_rfl) (by kernel_rfl) (by kernel_rfl) rfl (fun _ _ _ h => h) (Or.inl ⟨by rfl, ?_⟩) hS4 ?_
      rotate_left
      · intro W hSW
        go_simp
        try with_reducible rfl
      simp only [Act.put, List.setIfInBounds_toArray, List.set_cons_zero, List.set_cons_succ]
      refine wpAnyL_take' (i := 1) (v := ?_) (oi := { dst := some 40, op := Op.nilCheck (Operand.tmp 39), type := 0, pos := "build.go:103", after := #[{ on := 0, ground := Ground.data }], guard := none }) rfl (by kernel_rfl) (by kernel_rfl) (by kernel_rfl) (by kernel_rfl) rfl (fun _ _ _ h => h) (Or.inl ⟨by rfl, ?_⟩) hS4 ?_
      rotate_left
      · intro W hSW
        go_simp
        try with_reducible rfl
      simp only [Act.put, List.setIfInBounds_toArray, List.set_cons_zero, List.set_cons_succ]
      refine wpAnyL_take' (i := 2) (v := ?_) (oi := { dst := some 41, op := Op.fieldAddr 77 (Operand.tmp 40) 0, type := 0, pos := "build.go:103", after := #[{ on := 1, ground := Ground.data }], guard := none }) rfl (by kernel_rfl) (by kernel_rfl) (by kernel_rfl) (by kernel_rfl) rfl (fun _ _ _ h => h) (Or.inl ⟨by rfl, ?_⟩) hS4 ?_
      rotate_left
      · intro W hSW
        go_simp
        try with_reducible rfl
      simp only [Act.put, List.setIfInBounds_toArray, List.set_cons_zero, List.set_cons_succ]
      refine wpAnyL_take' (i := 3) (v := ?_) (oi := { dst := some 42, op := Op.fieldAddr 25 (Operand.tmp 41) 0, type := 0, pos := "build.go:103", after := #[{ on := 2, ground := Ground.data }], guard := none }) rfl (by kernel_rfl) (by kernel_rfl) (by kernel_rfl) (by kernel_rfl) rfl (fun _ _ _ h => h) (Or.inl ⟨by rfl, ?_⟩) hS4 ?_
      rotate_left
      · intro W hSW
        go_simp
        try with_reducible rfl
      simp only [Act.put, List.setIfInBounds_toArray, List.set_cons_zero, List.set_cons_succ]
      refine wpAnyL_take' (i := 4) (v := ?_) (oi := { dst := some 43, op := Op.load 22 (Operand.tmp 42), type := 22, pos := "build.go:103", after := #[{ on := 3, ground := Ground.data }], guard := none }) rfl (by kernel_rfl) (by kernel_rfl) (by kernel_rfl) (by kernel_rfl) rfl (fun _ _ _ h => h) (Or.inl ⟨by rfl, ?_⟩) hS4 ?_
      rotate_left
      · intro W hSW
        go_simp
        try with_reducible rfl
      simp only [Act.put, List.setIfInBounds_toArray, List.set_cons_zero, List.set_cons_succ]
      refine wpAnyL_take' (i := 5) (v := ?_) (oi := { dst := some 44, op := Op.move (Operand.tmp 1), type := 3, pos := "build.go:103", after := #[], guard := none }) rfl (by kernel_rfl) (by kernel_rfl) (by kernel_rfl) (by kernel_rfl) rfl (fun _ _ _ h => h) (Or.inl ⟨by rfl, ?_⟩) hS4 ?_
      rotate_left
      · intro W hSW
        go_simp
        try with_reducible rfl
      simp only [Act.put, List.setIfInBounds_toArray, List.set_cons_zero, List.set_cons_succ]
      refine wpAnyL_take' (i := 6) (v := ?_) (oi := { dst := some 45, op := Op.move (Operand.tmp 0), type := 91, pos := "build.go:103", after := #[], guard := none }) rfl (by kernel_rfl) (by kernel_rfl) (by kernel_rfl) (by kernel_rfl) rfl (fun _ _ _ h => h) (Or.inl ⟨by rfl, ?_⟩) hS4 ?_
      rotate_left
      · intro W hSW
        go_simp
        try with_reducible rfl
      simp only [Act.put, List.setIfInBounds_toArray, List.set_cons_zero, List.set_cons_succ]
      refine wpAnyL_take' (i := 7) (v := ?_) (oi := { dst := some 46, op := Op.nilCheck (Operand.tmp 45), type := 0, pos := "build.go:103", after := #[{ on := 6, ground := Ground.data }], guard := none }) rfl (by kernel_rfl) (by kernel_rfl) (by kernel_rfl) (by kernel_rfl) rfl (fun _ _ _ h => h) (Or.inl ⟨by rfl, ?_⟩) hS4 ?_
      rotate_left
      · intro W hSW
        go_simp
        try with_reducible rfl
      simp only [Act.put, List.setIfInBounds_toArray, List.set_cons_zero, List.set_cons_succ]
      refine wpAnyL_take' (i := 8) (v := ?_) (oi := { dst := some 47, op := Op.fieldAddr 77 (Operand.tmp 46) 0, type := 0, pos := "build.go:103", after := #[{ on := 7, ground := Ground.data }], guard := none }) rfl (by kernel_rfl) (by kernel_rfl) (by kernel_rfl) (by kernel_rfl) rfl (fun _ _ _ h => h) (Or.inl ⟨by rfl, ?_⟩) hS4 ?_
      rotate_left
      · intro W hSW
        go_simp
        try with_reducible rfl
      simp only [Act.put, List.setIfInBounds_toArray, List.set_cons_zero, List.set_cons_succ]
      refine wpAnyL_take' (i := 9) (v := ?_) (oi := { dst := some 48, op := Op.fieldAddr 25 (Operand.tmp 47) 1, type := 0, pos := "build.go:103", after := #[{ on := 8, ground := Ground.data }], guard := none }) rfl (by kernel_rfl) (by kernel_rfl) (by kernel_rfl) (by kernel_rfl) rfl (fun _ _ _ h => h) (Or.inl ⟨by rfl, ?_⟩) hS4 ?_
      rotate_left
      · intro W hSW
        go_simp
        try with_reducible rfl
      simp only [Act.put, List.setIfInBounds_toArray, List.set_cons_zero, List.set_cons_succ]
      refine wpAnyL_take' (i := 10) (v := ?_) (oi := { dst := some 49, op := Op.load 3 (Operand.tmp 48), type := 3, pos := "build.go:103", after := #[{ on := 9, ground := Ground.data }], guard := none }) rfl (by kernel_rfl) (by kernel_rfl) (by kernel_rfl) (by kernel_rfl) rfl (fun _ _ _ h => h) (Or.inl ⟨by rfl, ?_⟩) hS4 ?_
      rotate_left
      · intro W hSW
        go_simp
        try with_reducible rfl
      simp only [Act.put, List.setIfInBounds_toArray, List.set_cons_zero, List.set_cons_succ]
      refine wpAnyL_take' (i := 11) (v := ?_) (oi := { dst := some 50, op := Op.build 60 #[(3, Operand.tmp 49)], type := 60, pos := "build.go:103", after := #[{ on := 10, ground := Ground.data }], guard := none }) rfl (by kernel_rfl) (by kernel_rfl) (by kernel_rfl) (by kernel_rfl) rfl (fun _ _ _ h => h) (Or.inl ⟨by rfl, ?_⟩) hS4 ?_
      rotate_left
      · intro W hSW
        go_simp
        try with_reducible rfl
      simp only [Act.put, List.setIfInBounds_toArray, List.set_cons_zero, List.set_cons_succ]
      refine wpAnyL_take' (i := 12) (v := ?_) (oi := { dst := some 51, op := Op.indexAddr 22 (Operand.tmp 43) (Operand.tmp 44), type := 0, pos := "build.go:103", after := #[{ on := 4, ground := Ground.data }, { on := 5, ground := Ground.data }, { on := 0, ground := Ground.phase }, { on := 1, ground := Ground.phase }, { on := 2, ground := Ground.phase }, { on := 3, ground := Ground.phase }, { on := 4, ground := Ground.phase }, { on := 5, ground := Ground.phase }, { on := 6, ground := Ground.phase }, { on := 7, ground := Ground.phase }, { on := 8, ground := Ground.phase }, { on := 9, ground := Ground.phase }, { on := 10, ground := Ground.phase }, { on := 11, ground := Ground.phase }], guard := none }) rfl (by kernel_rfl) (by kernel_rfl) (by kernel_rfl) (by kernel_rfl) rfl (fun _ _ _ h => h) (Or.inl ⟨by rfl, ?_⟩) hS4 ?_
      rotate_left
      · intro W hSW
        go_simp
        try with_reducible rfl
      simp only [Act.put, List.setIfInBounds_toArray, List.set_cons_zero, List.set_cons_succ]
      refine wpAnyL_one' (i := 13) (o := { dst := none, op := Op.store 60 (Operand.tmp 51) (Operand.tmp 50), type := 0, pos := "build.go:103", after := #[{ on := 12, ground := Ground.data }, { on := 11, ground := Ground.data }, { on := 0, ground := Ground.phase }, { on := 1, ground := Ground.phase }, { on := 2, ground := Ground.phase }, { on := 3, ground := Ground.phase }, { on := 4, ground := Ground.phase }, { on := 5, ground := Ground.phase }, { on := 6, ground := Ground.phase }, { on := 7, ground := Ground.phase }, { on := 8, ground := Ground.phase }, { on := 9, ground := Ground.phase }, { on := 10, ground := Ground.phase }, { on := 11, ground := Ground.phase }], guard := none }) (by kernel_rfl) rfl rfl (fun K hK => ?_)
      go_simp
      refine hK.out _ _ (fun h => absurd h (by decide)) ?_
      clear hK K
      refine wpAnyL_done (by kernel_rfl) ?_ _
      have HJ6 : Hid (∃ L6, RelK B bb mb (.slice (some ⟨g, 0, none⟩) n2 cap) rv L w w.heap.size B #[.string sk, .bool sn, .string sf, .int .i64 sfr, .int .i64 sto, .int .i64 sbd, .slice none 0 0, .slice ua (intL ks).length uc, .int .i64 rI, .int .i64 nx] (intL ks) (.slice ua (intL ks).length uc) ((St.mk S.sl S.fl S.roots (updF S.F K none) S.cnt).setSl i (zeroN fv)) L6 ((((((((((w5.setCell ⟨g, i * 10, none⟩ (.string ⟨#[]⟩)).setCell ⟨g, i * 10 + 1, none⟩ (.bool false)).setCell ⟨g, i * 10 + 2, none⟩ (.string ⟨#[]⟩)).setCell ⟨g, i * 10 + 3, none⟩ (.int .i64 0)).setCell ⟨g, i * 10 + 4, none⟩ (.int .i64 0)).setCell ⟨g, i * 10 + 5, none⟩ (.int .i64 0)).setCell ⟨g, i * 10 + 6, none⟩ (.slice none 0 0)).setCell ⟨g, i * 10 + 7, none⟩ (.slice none 0 0)).setCell ⟨g, i * 10 + 8, none⟩ (.int .i64 0)).setCell ⟨g, i * 10 + 9, none⟩ (.int .i64 fv)).drew) := by
        have h5 := HJ5.out
        have hz0 : i64B 0 := ⟨by decide, by decide⟩
        have hfv : i64B fv := by
          rw [← HFV.out]
          unfold St.free freeI
          have := HWR.out.1.fl
          cases hf : S.fl with
          | nil => exact ⟨by decide, by decide⟩
          | cons q l => have := this q (by rw [hf]; simp); simp only; exact ⟨by omega, by omega⟩
        have hB6 := h5.bld.put10 (s := zeroN fv) (i := i) (u := .slice none 0 0) HWR.out.2.2.1 (World.ownsRow_nil _ _ _ _) (fun k _ e => by cases e) (okS_zero fv hfv)
        exact ⟨_, (h5.step (but_set10 _ _ _ (zeroN fv).sl (.slice none 0 0)) (fun k e => .inr (.inr (by rw [e]; rfl))) hB6 (fun k hk => by
          rcases KB.set hk with h | h
          · exact h
          · cases h)).next (Below.refl _ _).drew⟩
      generalize ((((((((((w5.setCell ⟨g, i * 10, none⟩ (.string ⟨#[]⟩)).setCell ⟨g, i * 10 + 1, none⟩ (.bool false)).setCell ⟨g, i * 10 + 2, none⟩ (.string ⟨#[]⟩)).setCell ⟨g, i * 10 + 3, none⟩ (.int .i64 0)).setCell ⟨g, i * 10 + 4, none⟩ (.int .i64 0)).setCell ⟨g, i * 10 + 5, none⟩ (.int .i64 0)).setCell ⟨g, i * 10 + 6, none⟩ (.slice none 0 0)).setCell ⟨g, i * 10 + 7, none⟩ (.slice none 0 0)).setCell ⟨g, i * 10 + 8, none⟩ (.int .i64 0)).setCell ⟨g, i * 10 + 9, none⟩ (.int .i64 fv)).drew = w6 at *
      obtain ⟨L6, hj6⟩ := HJ6.out
      have HJ6 : Hid _ := hj6
      have k6 := hj6.bld.box
      have e6 : w6.cell? ⟨bb, 1, none⟩ = some (.int .i64 fv) := by
        have hfv : (St.mk S.sl S.fl S.roots (updF S.F K none) S.cnt).free = fv := HFV.out
        rw [Lib.cell_of_heap k6, ← hfv]; rfl
      have f6 : ∀ o, w6.frozen? ⟨bb, o, none⟩ = false := fun o => Lib.frozen_of_heap k6 _
      clear x0 x1 x2 x3 x4 x5 x6 x7 x8 x9 hS4 hfz5 hj6 k6
      have HJ7 : Hid (RelK B bb mb (.slice (some ⟨g, 0, none⟩) n2 cap) rv L w w.heap.size B #[.string sk, .bool sn, .string sf, .int .i64 sfr, .int .i64 sto, .int .i64 sbd, .slice none 0 0, .slice ua (intL ks).length uc, .int .i64 rI, .int .i64 nx] (intL ks) (.slice ua (intL ks).length uc) (relJ S i ⟨⟨sk, sn, sf, sfr, sto, sbd⟩, ks, rf, nx⟩) L6 (w6.setCell ⟨bb, 1, none⟩ (.int .i64 (i : Int)))) := by
        have h6 := HJ6.out
        have hB7 := h6.bld.freed (i :: S.fl)
        have hst : (relJ S i ⟨⟨sk, sn, sf, sfr, sto, sbd⟩, ks, rf, nx⟩) = { ((St.mk S.sl S.fl S.roots (updF S.F K none) S.cnt).setSl i (zeroN fv)) with fl := i :: S.fl } := by
          unfold relJ St.setSl
          rw [HFV.out]
          have hk : keyN ⟨⟨sk, sn, sf, sfr, sto, sbd⟩, ks, rf, nx⟩ = K := HKE.out
          rw [hk]
        rw [hst]
        exact h6.step (D := fun k => k = bb) ((But.refl (fun k => k = bb) _).setCell _ _ (.inr rfl)) (fun k e => .inl e) hB7 (fun k h => h)
      have HW7 : Hid (Wr r (relJ S i ⟨⟨sk, sn, sf, sfr, sto, sbd⟩, ks, rf, nx⟩) ∧ (relJ S i ⟨⟨sk, sn, sf, sfr, sto, sbd⟩, ks, rf, nx⟩).sl.length = n2) := by
        refine ⟨HWR.out.1.set (i := i) (s0 := ⟨⟨sk, sn, sf, sfr, sto, sbd⟩, ks, rf, nx⟩) (s := zeroN S.free) HWR.out.2.1 (fun k h => by simp [zeroN] at h) hdok_zero (by simp [zeroN]) (fun q hq => ?_) _, ?_⟩
        · rcases List.mem_cons.1 hq with rfl | hq
          · have := HN2.out; omega
          · exact HWR.out.1.fl q hq
        · rw [← HN2.out]; simp [relJ]
      go_upto_region 6 with fail
      generalize w6.setCell ⟨bb, 1, none⟩ (.int .i64 (i : Int)) = w7 at *
      clear HJ6 HJ5 HJ4 HJ HS3 HHOL e6 f6
      have p7 : w7.cell? ⟨Pb, 7, none⟩ = some (.slice ua kn uc) := by
        have c := HJ7.out.box
        rw [← HPB.out, HKN.out] at c
        rw [Lib.cell_of_heap c]; rfl
      have hkn6 : kn ≤ 1000000 := by rw [← HKN.out, intL_size]; exact HKS.out.2.1
      have HKN3 : Hid (ks.length = kn) := by show _ = _; rw [← HKN.out, intL_size]
      rw [HN2.out] at HIH HLR
      go_wp2_with fail
      clear p7
      go_loopw [60] (fun iv wr => ∃ j : Nat, iv = .int .i64 (j : Int) ∧ j ≤ kn ∧ Hid (∃ L7, RelK B bb mb (.slice (some ⟨g, 0, none⟩) n2 cap) rv L w w.heap.size B #[.string sk, .bool sn, .string sf, .int .i64 sfr, .int .i64 sto, .int .i64 sbd, .slice none 0 0, .slice ua (intL ks).length uc, .int .i64 rI, .int .i64 nx] (intL ks) (.slice ua (intL ks).length uc) ((ks.take j).foldl (relS f) (relJ S i ⟨⟨sk, sn, sf, sfr, sto, sbd⟩, ks, rf, nx⟩)) L7 wr ∧ Wr r ((ks.take j).foldl (relS f) (relJ S i ⟨⟨sk, sn, sf, sfr, sto, sbd⟩, ks, rf, nx⟩)) ∧ ((ks.take j).foldl (relS f) (relJ S i ⟨⟨sk, sn, sf, sfr, sto, sbd⟩, ks, rf, nx⟩)).sl.length = n2)) (fun iv _ => kn - (intOf iv).toNat)
      case atStart => exact ⟨0, rfl, Nat.zero_le _, L6, HJ7.out, HW7.out.1, HW7.out.2⟩
      case round =>
      obtain ⟨j, rfl, hj, HQ7⟩ := hrel
      clear HJ7
      obtain ⟨L7, hq7, hw7, hl7⟩ := HQ7.out
      by_cases hlt : j < kn
      · have hjk : j < ks.length := by rw [HKN3.out]; exact hlt
        have hfold := foldl_take (relS f) (relJ S i ⟨⟨sk, sn, sf, sfr, sto, sbd⟩, ks, rf, nx⟩) ks j hjk
        have hsl := sli_own hq7.kids HKS.out.2.2.2.1
        obtain ⟨ao, cp, e0, hr, _⟩ := hsl
        simp only [Value.slice.injEq] at e0
        obtain ⟨rfl, e0n, rfl⟩ := e0
        have hji : (intL ks)[j]? = some ((ks[j] : Nat) : Int) := by unfold intL; rw [List.getElem?_map, List.getElem?_eq_getElem hjk]; rfl
        obtain ⟨b, off, rfl, hbl, c0⟩ := hr j _ hji
        have hkin := HKS.out.1 ks[j] (List.getElem_mem hjk)
        have hkr := HKS.out.2.2.1 ks[j] (List.getElem_mem hjk)
        have hrec := HIH.out ks[j] _ L7 wr hq7.bld hw7 (by rw [hl7, ← HN2.out]; exact hkin) (by have := HWR.out.2.2.2; omega) (by have := hq7.but.size; omega)
        have c1 : wr.cell? ⟨b, off + j, none⟩ = some (.int .i64 ((ks[j] : Nat) : Int)) := c0
        have hjI : (j : Int) < (kn : Int) := by omega
        have HE : Hid (∀ W, RelR B bb mb r (.slice (some ⟨g, 0, none⟩) n2 cap) rv L7 wr n2 (relS f ((ks.take j).foldl (relS f) (relJ S i ⟨⟨sk, sn, sf, sfr, sto, sbd⟩, ks, rf, nx⟩)) ks[j]) W → ∃ L7, RelK B bb mb (.slice (some ⟨g, 0, none⟩) n2 cap) rv L w w.heap.size B #[.string sk, .bool sn, .string sf, .int .i64 sfr, .int .i64 sto, .int .i64 sbd, .slice none 0 0, .slice (some ⟨b, off, none⟩) (intL ks).length uc, .int .i64 rI, .int .i64 nx] (intL ks) (.slice (some ⟨b, off, none⟩) (intL ks).length uc) ((ks.take (j + 1)).foldl (relS f) (relJ S i ⟨⟨sk, sn, sf, sfr, sto, sbd⟩, ks, rf, nx⟩)) L7 W ∧ Wr r ((ks.take (j + 1)).foldl (relS f) (relJ S i ⟨⟨sk, sn, sf, sfr, sto, sbd⟩, ks, rf, nx⟩)) ∧ ((ks.take (j + 1)).foldl (relS f) (relJ S i ⟨⟨sk, sn, sf, sfr, sto, sbd⟩, ks, rf, nx⟩)).sl.length = n2) := fun W ⟨L8, b8, t8, w8, l8, k8⟩ => by
          rw [hfold]
          exact ⟨L8, hq7.step t8 (fun k h => h) b8 k8, w8, l8⟩
        rw [hl7] at hrec
        clear hq7 hw7 hl7 HQ7 hr c0 hji hfold e0n hkin hkr
        generalize (relS f ((ks.take j).foldl (relS f) (relJ S i ⟨⟨sk, sn, sf, sfr, sto, sbd⟩, ks, rf, nx⟩)) ks[j]) = SR at *
        generalize ks[j] = kj at *
        go_wp2_with fail
        refine hrec.mono ?_
        rintro e w8 ⟨rfl, h8⟩
        have HE2 : Hid _ := HE.out w8 h8
        clear hrec h8 HE c1
        go_wp2_with fail
        exact ⟨⟨j + 1, by go_num, by omega, HE2.out⟩, by simp [intOf]; omega⟩
      · obtain rfl : j = kn := by omega
        have HE : Hid (LR (.returned (.tuple #[])) wr) := by
          rw [HLR.out]
          refine ⟨rfl, ?_⟩
          rw [relS_last HWR.out.2.1 hm]
          rw [List.take_of_length_le (by rw [HKN3.out]; exact Nat.le_refl _)] at hq7 hw7 hl7
          exact ⟨L7, hq7.bld, hq7.but, hw7, hl7, hq7.kb⟩
        clear hq7 hw7 hl7 HQ7
        go_wp2_with fail
        refine bodyPost_ret (results_none rfl _ _ _) rfl ?_
        exact HE.out
end Go.Proofs.Ytoocafcagelbgaa
