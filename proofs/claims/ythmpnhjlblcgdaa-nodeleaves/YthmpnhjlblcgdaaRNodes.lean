/- The document's Nodes, Fit. -/
import Derived.Test.YthmpnhjlblcgdaaRFit
import Derived.Test.YthmpnhjlblcgdaaRSame
namespace Go.Proofs.Ythmpnhjlblcgdaa
open Go.RowKit

open Classical in
noncomputable def eqNL (a b : List Nd) : Bool := decide (a = b)
theorem eqNL_true {a b : List Nd} : eqNL a b = true ↔ a = b := by unfold eqNL; simp
theorem eqNL_false {a b : List Nd} : eqNL a b = false ↔ a ≠ b := by unfold eqNL; simp
set_option maxRecDepth 100000 in
set_option maxHeartbeats 4000000 in
theorem rnodes_any {A A' : Nat → Prop} (n n' : Nat) (l l' : List Nd) (ba ba' : Option Addr) (c c' : Nat) (w : World) (h : KidsAt A n l ba w) (h' : KidsAt A' n' l' ba' w) (hl : l.length ≤ 140737488351232) :
    Calls Try.prog 19 #[.slice ba l.length c, .slice ba' l'.length c'] w fun e w' => e = .returned (.bool (eqNL l l')) ∧ Below w.heap.size w w' := by
  by_cases hlen : l.length = l'.length
  case neg =>
    have HT : Hid (eqNL l l' = false) := eqNL_false.2 (fun e => hlen (by rw [e]))
    have k1 : ¬ (l.length : Int) = l'.length := by omega
    generalize eqNL l l' = FV at *
    clear h h' hlen
    generalize l.length = m at *
    generalize l'.length = m' at *
    go_enter Try.func19, Try.ntmps19
    go_wp2
    go_ret
    exact ⟨by rw [HT.out]; rfl, Below.refl _ _⟩
  have HV : Hid (∀ fb, (fb = true ↔ l = l') → fb = eqNL l l') := fun fb hf => by
    rw [Bool.eq_iff_iff, hf, eqNL_true]
  generalize eqNL l l' = FV at *
  obtain ⟨m, hm⟩ : ∃ m, l.length = m := ⟨_, rfl⟩
  have HM : Hid (l.length = m ∧ l'.length = m) := ⟨hm, hlen.symm.trans hm⟩
  rw [← hlen, hm]
  rw [hm] at hl
  have HK : Hid (KidsAt A n l ba w) := h
  have HK' : Hid (KidsAt A' n' l' ba' w) := h'
  clear h h' hlen hm
  go_enter Try.func19, Try.ntmps19
  go_wp2
  go_loopw [5] (fun q wr => ∃ j : Nat, q = .int .i64 j ∧ j ≤ m ∧ Below w.heap.size w wr ∧ Hid (∀ i, i < j → l[i]? = l'[i]?)) (fun q _ => m - (intOf q).toNat)
  case atStart => exact ⟨0, rfl, Nat.zero_le _, Below.refl _ _, fun i h => by omega⟩
  case round =>
    obtain ⟨j, rfl, hj, hB, HF⟩ := hrel
    by_cases hlt : j < m
    case neg =>
      have k1 : ¬ (j : Int) < m := by omega
      have HX : Hid (true = FV) := HV.out true (by
        simp only [true_iff]
        refine List.ext_getElem? fun i => ?_
        by_cases hi : i < j
        · exact HF.out i hi
        · rw [List.getElem?_eq_none (by have := HM.out.1; omega), List.getElem?_eq_none (by have := HM.out.2; omega)])
      clear HF HV HK HK' HM
      go_wp2
      go_ret
      exact ⟨by rw [← HX.out]; rfl, hB⟩
    have k1 : (j : Int) < m := by omega
    have hj1 : j < l.length := by have := HM.out.1; omega
    have hj2 : j < l'.length := by have := HM.out.2; omega
    obtain ⟨b, off, ka, kc, rfl, _, hb, hr7, hT⟩ := HK.out.at hB hj1
    obtain ⟨b2, off2, ka2, kc2, rfl, _, hb', hr7', hT'⟩ := HK'.out.at hB hj2
    have hrec := rsame_any n n' _ _ _ _ wr.drew (hT.next (Below.refl _ _).drew) (hT'.next (Below.refl _ _).drew)
    have HF2 : Hid (eqN l[j] l'[j] = true → ∀ i, i < j + 1 → l[i]? = l'[i]?) := fun h i hi => by
      by_cases e : i = j
      · subst e; rw [List.getElem?_eq_getElem hj1, List.getElem?_eq_getElem hj2, eqN_true.1 h]
      · exact HF.out i (by omega)
    have HF3 : Hid (eqN l[j] l'[j] = false → false = FV) := fun h => HV.out false (by
      simp only [Bool.false_eq_true, false_iff]
      intro e
      subst e
      exact eqN_false.1 h rfl)
    have HSK0 : ∀ W, Below wr.drew.heap.size wr.drew W → (Row7 b (off + j * 7) l[j].h (.slice ka l[j].kids.length kc) W) ∧ Row7 b2 (off2 + j * 7) l'[j].h (.slice ka2 l'[j].kids.length kc2) W := fun W hbW =>
      ⟨hr7.but (D := fun _ => False) (But.of_next ((Below.refl wr.heap.size wr).drew.trans hbW)) hb (fun h => h), hr7'.but (D := fun _ => False) (But.of_next ((Below.refl wr.heap.size wr).drew.trans hbW)) hb' (fun h => h)⟩
    have HSK : Hid _ := HSK0
    clear HSK0 hr7 hr7' hT hT' HF HK HK' HV HM
    generalize eqN l[j] l'[j] = fb at *
    generalize l[j].h = sh at *
    generalize l[j].kids.length = sk at *
    generalize l'[j].h = sh' at *
    generalize l'[j].kids.length = sk2 at *
    obtain ⟨xk, xn, xf, xr, xt, xb⟩ := sh
    obtain ⟨uk, un, uf, ur, ut, ub⟩ := sh'
    unfold ndV at hrec
    unfold Row7 at HSK
    simp only at hrec HSK
    go_wp2_with fail
    refine wp_region_L (fun W => (W.cell? ⟨b, off + j * 7, none⟩ = some (.string xk) ∧ W.cell? ⟨b, off + j * 7 + 1, none⟩ = some (.bool xn) ∧ W.cell? ⟨b, off + j * 7 + 2, none⟩ = some (.string xf) ∧ W.cell? ⟨b, off + j * 7 + 3, none⟩ = some (.int .i64 xr) ∧ W.cell? ⟨b, off + j * 7 + 4, none⟩ = some (.int .i64 xt) ∧ W.cell? ⟨b, off + j * 7 + 5, none⟩ = some (.int .i64 xb) ∧ W.cell? ⟨b, off + j * 7 + 6, none⟩ = some (.slice ka sk kc)) ∧ W.cell? ⟨b2, off2 + j * 7, none⟩ = some (.string uk) ∧ W.cell? ⟨b2, off2 + j * 7 + 1, none⟩ = some (.bool un) ∧ W.cell? ⟨b2, off2 + j * 7 + 2, none⟩ = some (.string uf) ∧ W.cell? ⟨b2, off2 + j * 7 + 3, none⟩ = some (.int .i64 ur) ∧ W.cell? ⟨b2, off2 + j * 7 + 4, none⟩ = some (.int .i64 ut) ∧ W.cell? ⟨b2, off2 + j * 7 + 5, none⟩ = some (.int .i64 ub) ∧ W.cell? ⟨b2, off2 + j * 7 + 6, none⟩ = some (.slice ka2 sk2 kc2)) 10 (by kernel_rfl) 10 rfl ?_
    refine wpAnyL_take' (i := 0) (v := ?_) (oi := { dst := some 17, op := Op.move (Operand.tmp 0), type := 22, pos := "ref.go:169", after := #[], guard := none }) rfl (by kernel_rfl) (by kernel_rfl) (by kernel_rfl) (by kernel_rfl) rfl (fun _ _ _ h => h) (Or.inl ⟨by rfl, ?_⟩) (HSK.out _ (Below.refl _ _)) ?_
    rotate_left
    · intro W hSW
      go_simp
      try with_reducible rfl
    simp only [Act.put, List.setIfInBounds_toArray, List.set_cons_zero, List.set_cons_succ]
    refine wpAnyL_take' (i := 1) (v := ?_) (oi := { dst := some 18, op := Op.move (Operand.tmp 5), type := 3, pos := "ref.go:169", after := #[], guard := none }) rfl (by kernel_rfl) (by kernel_rfl) (by kernel_rfl) (by kernel_rfl) rfl (fun _ _ _ h => h) (Or.inl ⟨by rfl, ?_⟩) (HSK.out _ (Below.refl _ _)) ?_
    rotate_left
    · intro W hSW
      go_simp
      try with_reducible rfl
    simp only [Act.put, List.setIfInBounds_toArray, List.set_cons_zero, List.set_cons_succ]
    refine wpAnyL_take' (i := 2) (v := ?_) (oi := { dst := some 19, op := Op.indexAddr 22 (Operand.tmp 17) (Operand.tmp 18), type := 0, pos := "ref.go:169", after := #[{ on := 0, ground := Ground.data }, { on := 1, ground := Ground.data }], guard := none }) rfl (by kernel_rfl) (by kernel_rfl) (by kernel_rfl) (by kernel_rfl) rfl (fun _ _ _ h => h) (Or.inl ⟨by rfl, ?_⟩) (HSK.out _ (Below.refl _ _)) ?_
    rotate_left
    · intro W hSW
      go_simp
      try with_reducible rfl
    simp only [Act.put, List.setIfInBounds_toArray, List.set_cons_zero, List.set_cons_succ]
    refine wpAnyL_take' (i := 3) (v := ?_) (oi := { dst := some 20, op := Op.load 24 (Operand.tmp 19), type := 24, pos := "ref.go:169", after := #[{ on := 2, ground := Ground.data }], guard := none }) rfl (by kernel_rfl) (by kernel_rfl) (by kernel_rfl) (by kernel_rfl) rfl (fun _ _ _ h => h) (Or.inl ⟨by rfl, ?_⟩) (HSK.out _ (Below.refl _ _)) ?_
    rotate_left
    · intro W hSW
      go_simp
      try with_reducible rfl
    simp only [Act.put, List.setIfInBounds_toArray, List.set_cons_zero, List.set_cons_succ]
    refine wpAnyL_take' (i := 4) (v := ?_) (oi := { dst := some 21, op := Op.move (Operand.tmp 1), type := 22, pos := "ref.go:169", after := #[], guard := none }) rfl (by kernel_rfl) (by kernel_rfl) (by kernel_rfl) (by kernel_rfl) rfl (fun _ _ _ h => h) (Or.inl ⟨by rfl, ?_⟩) (HSK.out _ (Below.refl _ _)) ?_
    rotate_left
    · intro W hSW
      go_simp
      try with_reducible rfl
    simp only [Act.put, List.setIfInBounds_toArray, List.set_cons_zero, List.set_cons_succ]
    refine wpAnyL_take' (i := 5) (v := ?_) (oi := { dst := some 22, op := Op.move (Operand.tmp 5), type := 3, pos := "ref.go:169", after := #[], guard := none }) rfl (by kernel_rfl) (by kernel_rfl) (by kernel_rfl) (by kernel_rfl) rfl (fun _ _ _ h => h) (Or.inl ⟨by rfl, ?_⟩) (HSK.out _ (Below.refl _ _)) ?_
    rotate_left
    · intro W hSW
      go_simp
      try with_reducible rfl
    simp only [Act.put, List.setIfInBounds_toArray, List.set_cons_zero, List.set_cons_succ]
    refine wpAnyL_take' (i := 6) (v := ?_) (oi := { dst := some 23, op := Op.indexAddr 22 (Operand.tmp 21) (Operand.tmp 22), type := 0, pos := "ref.go:169", after := #[{ on := 4, ground := Ground.data }, { on := 5, ground := Ground.data }], guard := none }) rfl (by kernel_rfl) (by kernel_rfl) (by kernel_rfl) (by kernel_rfl) rfl (fun _ _ _ h => h) (Or.inl ⟨by rfl, ?_⟩) (HSK.out _ (Below.refl _ _)) ?_
    rotate_left
    · intro W hSW
      go_simp
      try with_reducible rfl
    simp only [Act.put, List.setIfInBounds_toArray, List.set_cons_zero, List.set_cons_succ]
    refine wpAnyL_take' (i := 7) (v := ?_) (oi := { dst := some 24, op := Op.load 24 (Operand.tmp 23), type := 24, pos := "ref.go:169", after := #[{ on := 6, ground := Ground.data }], guard := none }) rfl (by kernel_rfl) (by kernel_rfl) (by kernel_rfl) (by kernel_rfl) rfl (fun _ _ _ h => h) (Or.inl ⟨by rfl, ?_⟩) (HSK.out _ (Below.refl _ _)) ?_
    rotate_left
    · intro W hSW
      go_simp
      try with_reducible rfl
    simp only [Act.put, List.setIfInBounds_toArray, List.set_cons_zero, List.set_cons_succ]
    refine wpAnyL_one' (i := 8) (o := { dst := some 25, op := Op.call { callee := Callee.value (Operand.func 16), args := #[Operand.tmp 20, Operand.tmp 24], argTypes := #[24, 24] }, type := 4, pos := "ref.go:169", after := #[{ on := 3, ground := Ground.data }, { on := 7, ground := Ground.data }], guard := none }) (by kernel_rfl) rfl rfl (fun K hK => ?_)
    go_simp
    refine (hrec).mono ?_
    rintro e w3 ⟨rfl, hb3⟩
    refine hK.out _ _ (fun _ => (HSK.out _ hb3)) ?_
    clear hK
    refine wpAnyL_take' (i := 9) (v := ?_) (oi := { dst := some 26, op := Op.unOp UnOp.not 4 (Operand.tmp 25), type := 4, pos := "ref.go:169", after := #[{ on := 8, ground := Ground.data }], guard := none }) rfl (by kernel_rfl) (by kernel_rfl) (by kernel_rfl) (by kernel_rfl) rfl (fun _ _ _ h => h) (Or.inl ⟨by rfl, ?_⟩) (HSK.out _ hb3) ?_
    rotate_left
    · intro W hSW
      go_simp
      try with_reducible rfl
    simp only [Act.put, List.setIfInBounds_toArray, List.set_cons_zero, List.set_cons_succ]
    refine wpAnyL_done (by kernel_rfl) ?_ _
    have hb4 : Below wr.heap.size wr w3 := (Below.refl wr.heap.size wr).drew.trans hb3
    clear hrec HSK
    cases fb with
    | false =>
      go_wp2
      go_ret
      exact ⟨by rw [← HF3.out trivial]; rfl, below_next hB hb4⟩
    | true =>
      go_wp2
      exact ⟨⟨j + 1, by go_num, by omega, below_next hB hb4, HF2.out rfl⟩, by simp [intOf]; omega⟩
set_option maxRecDepth 100000 in
set_option maxHeartbeats 1000000 in
theorem rFit_any {A : Nat → Prop} (n : Nat) (t : Nd) (v : Value) (size : Int) (w : World) (h : TAt A n t v w) :
    Calls Try.prog 14 #[v, .int .i64 size] w fun e w' => e = .returned (.bool (lightB t && fitB t size)) ∧ Below w.heap.size w w' := by
  have HL : Hid (∀ W, Below w.heap.size w W → Calls Try.prog 9 #[v] W fun e w' => e = .returned (.bool (lightB t)) ∧ Below W.heap.size W w') := fun W hb => light_any n t v W (h.next hb)
  have HF : Hid (∀ W, Below w.heap.size w W → Calls Try.prog 35 #[v, .int .i64 0, .int .i64 size, .int .i64 1] W fun e w' => e = .returned (.bool (fitB t size)) ∧ Below W.heap.size W w') := fun W hb => by
    rw [fitB_fitR]
    exact rfit_any n t v 0 size 1 W (h.next hb) (by omega) (by omega)
  obtain ⟨ba, bc, rfl, _⟩ := h.val
  clear h
  generalize lightB t = LB at *
  generalize fitB t size = FB at *
  generalize t.kids.length = kl at *
  generalize t.h = hd at *
  obtain ⟨hk, hn, hf, hfr, hto, hbd⟩ := hd
  unfold ndV at *
  simp only at *
  have hB0 : Below w.heap.size w (w.alloc (Obj.cells #[Value.string hk, Value.bool hn, Value.string hf, Value.int IntKind.i64 hfr, Value.int IntKind.i64 hto, Value.int IntKind.i64 hbd, Value.slice ba kl bc] 24)) := (Below.refl _ _).alloc (Nat.le_refl _) _
  have r7 : Row7 w.heap.size 0 ⟨hk, hn, hf, hfr, hto, hbd⟩ (.slice ba kl bc) (w.alloc (Obj.cells #[Value.string hk, Value.bool hn, Value.string hf, Value.int IntKind.i64 hfr, Value.int IntKind.i64 hto, Value.int IntKind.i64 hbd, Value.slice ba kl bc] 24)) := by refine ⟨?_, ?_, ?_, ?_, ?_, ?_, ?_⟩ <;> simp
  have hz : w.heap.size < (w.alloc (Obj.cells #[Value.string hk, Value.bool hn, Value.string hf, Value.int IntKind.i64 hfr, Value.int IntKind.i64 hto, Value.int IntKind.i64 hbd, Value.slice ba kl bc] 24)).heap.size := by simp
  have hl1 := HL.out _ hB0
  go_enter Try.func14, Try.ntmps14
  go_wp2_with fail
  refine hl1.mono ?_
  rintro e w1 ⟨rfl, hb1⟩
  obtain ⟨r0, r1, r2, r3, r4, r5, r6⟩ := r7.but (D := fun _ => False) (But.of_next hb1) hz (fun h => h)
  simp only [Nat.zero_add] at r1 r2 r3 r4 r5 r6
  have hB1 := below_next hB0 hb1
  cases LB with
  | false =>
    go_wp2_with fail
    go_ret
    exact ⟨rfl, hB1⟩
  | true =>
    have hf1 := HF.out _ hB1
    clear HL HF hl1
    go_wp2_with fail
    refine hf1.mono ?_
    rintro e w2 ⟨rfl, hb2⟩
    clear hf1 r0 r1 r2 r3 r4 r5 r6
    go_wp2_with fail
    go_ret
    exact ⟨by simp, below_next hB1 hb2⟩
end Go.Proofs.Ythmpnhjlblcgdaa
