/- The document's fit. -/
import Derived.Test.YthmpnhjlblcgdaaFitMath
import Derived.Test.YthmpnhjlblcgdaaHeldTwo
import Derived.Test.YthmpnhjlblcgdaaPWrite
namespace Go.Proofs.Ythmpnhjlblcgdaa
open Go.RowKit

theorem size_pos {b : ByteArray} (h : ¬ b = ⟨#[]⟩) : 0 < b.size := by
  rcases Nat.eq_zero_or_pos b.size with h0 | h0
  · exfalso
    apply h
    cases b with
    | mk d => simp [ByteArray.size] at h0; rw [h0]
  · exact h0
set_option maxRecDepth 100000 in
set_option maxHeartbeats 4000000 in
theorem rfit_any {A : Nat → Prop} : ∀ (n : Nat) (t : Nd) (v : Value) (f tt d : Int) (w : World), TAt A n t v w → 0 ≤ d → d ≤ 33 →
    Calls Try.prog 35 #[v, .int .i64 f, .int .i64 tt, .int .i64 d] w fun e w' => e = .returned (.bool (fitR t f tt d)) ∧ Below w.heap.size w w'
  | 0, _, _, _, _, _, _, h, _, _ => h.elim
  | n + 1, t, v, f, tt, d, w, h, hd0, hd1 => by
    obtain ⟨ba, bc, rfl, hok, _, _, hlb, hsubs0⟩ := h
    have hsubs : KidsAt A n t.kids ba w := hsubs0
    clear hsubs0
    have HIH : Hid _ := rfit_any (A := A) n
    have HV : Hid (fitR t f tt d = _) := fitR_mk t f tt d
    generalize fitR t f tt d = FV at *
    generalize t.kids = subs at *
    generalize t.h = hd at *
    obtain ⟨hk, hn, hf, hfr, hto, hbd⟩ := hd
    simp only at HV
    have hkb := hok.kind
    have hfb := hok.field
    unfold ndV
    have hB0 : Below w.heap.size w (w.alloc (Obj.cells #[Value.string hk, Value.bool hn, Value.string hf, Value.int IntKind.i64 hfr, Value.int IntKind.i64 hto, Value.int IntKind.i64 hbd, Value.slice ba subs.length bc] 24)) := (Below.refl _ _).alloc (Nat.le_refl _) _
    go_enter Try.func35, Try.ntmps35
    by_cases c1 : 32 < d
    case pos =>
      have HT : Hid (FV = false) := by
        show _ = _
        rw [HV.out]
        simp; omega
      clear HIH hsubs HV
      go_wp2
      all_goals
        go_ret
        exact ⟨by rw [HT.out]; rfl, hB0⟩
    by_cases c2 : hfr < f
    case pos =>
      have HT : Hid (FV = false) := by
        show _ = _
        rw [HV.out]
        simp; omega
      clear HIH hsubs HV
      go_wp2
      all_goals
        go_ret
        exact ⟨by rw [HT.out]; rfl, hB0⟩
    by_cases c3 : hto < hfr
    case pos =>
      have HT : Hid (FV = false) := by
        show _ = _
        rw [HV.out]
        simp; omega
      clear HIH hsubs HV
      go_wp2
      all_goals
        go_ret
        exact ⟨by rw [HT.out]; rfl, hB0⟩
    by_cases c4 : tt < hto
    case pos =>
      have HT : Hid (FV = false) := by
        show _ = _
        rw [HV.out]
        simp; omega
      clear HIH hsubs HV
      go_wp2
      all_goals
        go_ret
        exact ⟨by rw [HT.out]; rfl, hB0⟩
    by_cases c5 : hk = ⟨#[]⟩
    case pos =>
      subst c5
      have HT : Hid (FV = false) := by
        show _ = _
        rw [HV.out]
        rw [show decide (0 < (⟨#[]⟩ : ByteArray).size) = false from rfl]; simp
      clear HIH hsubs HV
      go_wp2
      all_goals
        go_ret
        exact ⟨by rw [HT.out]; rfl, hB0⟩
    have c5z := size_pos c5
    have c5l : ¬ hk.toList = [] := by
      rw [ByteArray.toList_eq]
      intro e
      have := congrArg List.length e
      rw [toList_len] at this
      have h3 : hk.size = 0 := this
      omega
    have c5b : hk.toList.isEmpty = false := by simpa using c5l
    by_cases c6 : 80 < hk.size
    case pos =>
      have HT : Hid (FV = false) := by
        show _ = _
        rw [HV.out]
        simp; omega
      have c6i : (80 : Int) < hk.size := by omega
      clear HIH hsubs HV
      go_wp2
      all_goals
        go_ret
        exact ⟨by rw [HT.out]; rfl, hB0⟩
    have c6i : ¬ (80 : Int) < hk.size := by omega
    by_cases c7 : 32 < hf.size
    case pos =>
      have HT : Hid (FV = false) := by
        show _ = _
        rw [HV.out]
        simp; omega
      have c7i : (32 : Int) < hf.size := by omega
      clear HIH hsubs HV
      go_wp2
      all_goals
        go_ret
        exact ⟨by rw [HT.out]; rfl, hB0⟩
    have c7i : ¬ (32 : Int) < hf.size := by omega
    by_cases c8 : hbd < 0
    case pos =>
      have HT : Hid (FV = false) := by
        show _ = _
        rw [HV.out]
        unfold badB; simp [show ¬ hbd = 2 by omega, show ¬ hbd = 0 by omega, show ¬ hbd = 1 by omega]
      clear HIH hsubs HV
      go_wp2
      all_goals
        go_ret
        exact ⟨by rw [HT.out]; rfl, hB0⟩
    by_cases c9 : 3 ≤ hbd
    case pos =>
      have HT : Hid (FV = false) := by
        show _ = _
        rw [HV.out]
        unfold badB; simp [show ¬ hbd = 2 by omega, show ¬ hbd = 0 by omega, show ¬ hbd = 1 by omega]
      clear HIH hsubs HV
      go_wp2
      all_goals
        go_ret
        exact ⟨by rw [HT.out]; rfl, hB0⟩
    have hkp := size_pos c5
    by_cases cm : hbd = 2 ∧ (0 < subs.length ∨ hfr ≠ hto)
    case pos =>
      obtain ⟨m1, m2⟩ := cm
      have HT : Hid (FV = false) := by
        show _ = _
        rw [HV.out]
        unfold badB
        simp only [m1, if_true]
        rcases m2 with m2 | m2
        · simp [show ¬ subs.length = 0 by omega]
        · simp [m2]
      clear HIH hsubs HV
      subst m1
      by_cases m3 : 0 < subs.length
      · have m4 : (0 : Int) < subs.length := by omega
        go_wp2
        go_ret
        exact ⟨by rw [HT.out]; rfl, hB0⟩
      · have m4 : ¬ (0 : Int) < subs.length := by omega
        have m5 : ¬ hfr = hto := by rcases m2 with h | h; exact absurd h m3; exact h
        go_wp2
        go_ret
        exact ⟨by rw [HT.out]; rfl, hB0⟩
    have HV2 : Hid (FV = fitRL subs hfr hto (d + 1)) := by
      show _ = _
      rw [HV.out]
      have hb : badB ⟨hk, hn, hf, hfr, hto, hbd⟩ subs.length = true := by
        unfold badB
        simp only
        by_cases m1 : hbd = 2
        · have m2 : subs.length = 0 := by
            rcases Nat.eq_zero_or_pos subs.length with h | h
            · exact h
            · exact absurd ⟨m1, .inl h⟩ cm
          have m3 : hfr = hto := by
            rcases Int.lt_trichotomy hfr hto with h | h | h
            · exact absurd ⟨m1, .inr (by omega)⟩ cm
            · exact h
            · exact absurd ⟨m1, .inr (by omega)⟩ cm
          simp [m1, m2, m3]
        · have : hbd = 0 ∨ hbd = 1 := by omega
          rcases this with h | h <;> simp [h]
      rw [hb]
      simp [show d ≤ 32 by omega, show f ≤ hfr by omega, show hfr ≤ hto by omega, show hto ≤ tt by omega, hkp, show hk.size ≤ 80 by omega, show hf.size ≤ 32 by omega]
    have hx : IntKind.i64.wrap (d + 1) = d + 1 := IntWalk.i64_in _ (by omega)
    clear HV
    have hc2 : (w.alloc (Obj.cells #[Value.string hk, Value.bool hn, Value.string hf, Value.int IntKind.i64 hfr, Value.int IntKind.i64 hto, Value.int IntKind.i64 hbd, Value.slice ba subs.length bc] 24)).cell? ⟨w.heap.size, 6, none⟩ = some (.slice ba subs.length bc) := by simp
    have hc4 : (w.alloc (Obj.cells #[Value.string hk, Value.bool hn, Value.string hf, Value.int IntKind.i64 hfr, Value.int IntKind.i64 hto, Value.int IntKind.i64 hbd, Value.slice ba subs.length bc] 24)).cell? ⟨w.heap.size, 4, none⟩ = some (.int .i64 hto) := by simp
    have hz : (w.alloc (Obj.cells #[Value.string hk, Value.bool hn, Value.string hf, Value.int IntKind.i64 hfr, Value.int IntKind.i64 hto, Value.int IntKind.i64 hbd, Value.slice ba subs.length bc] 24)).heap.size = w.heap.size + 1 := by simp
    have HS0 : Hid (KidsAt A n subs ba (w.alloc (Obj.cells #[Value.string hk, Value.bool hn, Value.string hf, Value.int IntKind.i64 hfr, Value.int IntKind.i64 hto, Value.int IntKind.i64 hbd, Value.slice ba subs.length bc] 24))) := hsubs.next hB0
    clear hsubs
    have hgo : ∃ g : Bool, g = decide (hbd = 2) := ⟨_, rfl⟩
    by_cases m1 : hbd = 2
    · have m2 : ¬ (0 : Int) < subs.length := by
        intro h; exact cm ⟨m1, .inl (by omega)⟩
      have m3 : hfr = hto := by
        rcases Int.lt_trichotomy hfr hto with h | h | h
        · exact absurd ⟨m1, .inr (by omega)⟩ cm
        · exact h
        · exact absurd ⟨m1, .inr (by omega)⟩ cm
      have hl0 : subs = [] := by
        cases subs with
        | nil => rfl
        | cons a l => exfalso; simp at m2
      subst hl0 m1 m3
      have HT : Hid (FV = true) := by show _ = _; rw [HV2.out]; rfl
      clear HV2 HS0 HIH
      go_wp2
      go_loopw [10] (fun c wr => c = .int .i64 0 ∧ wr = w.alloc (Obj.cells #[Value.string hk, Value.bool hn, Value.string hf, Value.int IntKind.i64 hfr, Value.int IntKind.i64 hfr, Value.int IntKind.i64 2, Value.slice ba 0 bc] 24)) (fun c _ => 0)
      case atStart => exact ⟨rfl, rfl⟩
      case round =>
        obtain ⟨rfl, rfl⟩ := hrel
        go_wp2
        go_ret
        exact ⟨by rw [HT.out]; rfl, hB0⟩
    · clear cm hgo
      go_wp2
      generalize w.alloc (Obj.cells #[Value.string hk, Value.bool hn, Value.string hf, Value.int IntKind.i64 hfr, Value.int IntKind.i64 hto, Value.int IntKind.i64 hbd, Value.slice ba subs.length bc] 24) = W0 at *
      go_loopw [9, 10] (fun l c wr => ∃ (j : Nat) (at0 : Int), c = .int .i64 j ∧ l = .int .i64 at0 ∧ j ≤ subs.length ∧ Below W0.heap.size W0 wr ∧ Hid (FV = fitRL (subs.drop j) at0 hto (d + 1))) (fun _ c _ => subs.length - (intOf c).toNat)
      case atStart => exact ⟨0, hfr, rfl, rfl, Nat.zero_le _, Below.refl _ _, by show _ = _; rw [HV2.out]; rfl⟩
      case round =>
        obtain ⟨j, at0, rfl, rfl, hj, hB, HF⟩ := hrel
        clear HV2
        have d2 := (hB.cell (p := ⟨w.heap.size, 6, none⟩) (by rw [hz]; exact Nat.lt_succ_self _)).trans hc2
        have d4 := (hB.cell (p := ⟨w.heap.size, 4, none⟩) (by rw [hz]; exact Nat.lt_succ_self _)).trans hc4
        have hBw : Below w.heap.size w wr := hB0.trans (hB.mono (by rw [hz]; exact Nat.le_succ _))
        have hwz : w.heap.size < wr.heap.size := by have := hB.size; omega
        by_cases hlt : j < subs.length
        case neg =>
          have HX : Hid (FV = true) := by show _ = _; rw [HF.out, List.drop_eq_nil_of_le (by omega)]; rfl
          have k1 : ¬ (j : Int) < subs.length := by omega
          clear HF HS0 HIH
          go_wp2
          go_ret
          exact ⟨by rw [HX.out]; rfl, hBw⟩
        have k1 : (j : Int) < subs.length := by omega
        obtain ⟨b, off, ka, kc, rfl, _, hb, hr7, hT⟩ := HS0.out.at hB hlt
        have hrec := HIH.out _ _ at0 hto (d + 1) wr.drew (hT.next ((Below.refl _ _).drew)) (by omega) (by omega)
        have HF1 : Hid (FV = (fitR subs[j] at0 hto (d + 1) && fitRL (subs.drop (j + 1)) subs[j].h.to hto (d + 1))) := by
          show _ = _
          rw [HF.out, List.drop_eq_getElem_cons hlt, fitRL]
        have HR7 : Hid (∀ W, Below wr.heap.size wr W → Row7 b (off + j * 7) subs[j].h (.slice ka subs[j].kids.length kc) W) := fun W hb' => hr7.but (D := fun _ => False) (But.of_next hb') hb (fun h => h)
        generalize fitR subs[j] at0 hto (d + 1) = fb at *
        generalize subs[j].h = sh at *
        generalize subs[j].kids.length = skl at *
        obtain ⟨gk, gn, gf, gfr, gto, gbd⟩ := sh
        unfold ndV at hrec
        unfold Row7 at *
        simp only at *
        clear HF HS0 hT HIH
        go_wp2_with fail
        have hdr : Below wr.heap.size wr wr.drew := (Below.refl _ _).drew
        have HS1 : (wr.drew.cell? ⟨w.heap.size, 6, none⟩ = some (.slice (some ⟨b, off, none⟩) subs.length bc)) ∧ wr.drew.cell? ⟨w.heap.size, 4, none⟩ = some (.int .i64 hto) ∧ wr.drew.cell? ⟨b, off + j * 7, none⟩ = some (.string gk) ∧ wr.drew.cell? ⟨b, off + j * 7 + 1, none⟩ = some (.bool gn) ∧ wr.drew.cell? ⟨b, off + j * 7 + 2, none⟩ = some (.string gf) ∧ wr.drew.cell? ⟨b, off + j * 7 + 3, none⟩ = some (.int .i64 gfr) ∧ wr.drew.cell? ⟨b, off + j * 7 + 4, none⟩ = some (.int .i64 gto) ∧ wr.drew.cell? ⟨b, off + j * 7 + 5, none⟩ = some (.int .i64 gbd) ∧ wr.drew.cell? ⟨b, off + j * 7 + 6, none⟩ = some (.slice ka skl kc) := ⟨d2, d4, hr7⟩
        have HS2 : ∀ {W : World}, Below wr.drew.heap.size wr.drew W → ((W.cell? ⟨w.heap.size, 6, none⟩ = some (.slice (some ⟨b, off, none⟩) subs.length bc)) ∧ W.cell? ⟨w.heap.size, 4, none⟩ = some (.int .i64 hto) ∧ W.cell? ⟨b, off + j * 7, none⟩ = some (.string gk) ∧ W.cell? ⟨b, off + j * 7 + 1, none⟩ = some (.bool gn) ∧ W.cell? ⟨b, off + j * 7 + 2, none⟩ = some (.string gf) ∧ W.cell? ⟨b, off + j * 7 + 3, none⟩ = some (.int .i64 gfr) ∧ W.cell? ⟨b, off + j * 7 + 4, none⟩ = some (.int .i64 gto) ∧ W.cell? ⟨b, off + j * 7 + 5, none⟩ = some (.int .i64 gbd) ∧ W.cell? ⟨b, off + j * 7 + 6, none⟩ = some (.slice ka skl kc)) := fun {W} hbW => by
          have hbx : Below wr.heap.size wr W := hdr.trans hbW
          exact ⟨(hbx.cell (p := ⟨w.heap.size, 6, none⟩) hwz).trans d2, (hbx.cell (p := ⟨w.heap.size, 4, none⟩) hwz).trans d4, HR7.out W hbx⟩
        clear HR7
        refine wp_region_L (fun W => (W.cell? ⟨w.heap.size, 6, none⟩ = some (.slice (some ⟨b, off, none⟩) subs.length bc)) ∧ W.cell? ⟨w.heap.size, 4, none⟩ = some (.int .i64 hto) ∧ W.cell? ⟨b, off + j * 7, none⟩ = some (.string gk) ∧ W.cell? ⟨b, off + j * 7 + 1, none⟩ = some (.bool gn) ∧ W.cell? ⟨b, off + j * 7 + 2, none⟩ = some (.string gf) ∧ W.cell? ⟨b, off + j * 7 + 3, none⟩ = some (.int .i64 gfr) ∧ W.cell? ⟨b, off + j * 7 + 4, none⟩ = some (.int .i64 gto) ∧ W.cell? ⟨b, off + j * 7 + 5, none⟩ = some (.int .i64 gbd) ∧ W.cell? ⟨b, off + j * 7 + 6, none⟩ = some (.slice ka skl kc)) 12 (by kernel_rfl) 12 rfl ?_
        refine wpAnyL_take' (i := 0) (v := ?_) (oi := { dst := some 84, op := Op.fieldAddr 24 (Operand.tmp 4) 6, type := 0, pos := "ref.go:36", after := #[], guard := none }) rfl (by kernel_rfl) (by kernel_rfl) (by kernel_rfl) (by kernel_rfl) rfl (fun _ _ _ h => h) (Or.inl ⟨by rfl, ?_⟩) HS1 ?_
        rotate_left
        · intro W hSW
          go_simp
          try with_reducible rfl
        simp only [Act.put, List.setIfInBounds_toArray, List.set_cons_zero, List.set_cons_succ]
        refine wpAnyL_take' (i := 1) (v := ?_) (oi := { dst := some 85, op := Op.load 22 (Operand.tmp 84), type := 22, pos := "ref.go:36", after := #[{ on := 0, ground := Ground.data }], guard := none }) rfl (by kernel_rfl) (by kernel_rfl) (by kernel_rfl) (by kernel_rfl) rfl (fun _ _ _ h => h) (Or.inl ⟨by rfl, ?_⟩) HS1 ?_
        rotate_left
        · intro W hSW
          go_simp
          try with_reducible rfl
        simp only [Act.put, List.setIfInBounds_toArray, List.set_cons_zero, List.set_cons_succ]
        refine wpAnyL_take' (i := 2) (v := ?_) (oi := { dst := some 86, op := Op.move (Operand.tmp 10), type := 3, pos := "ref.go:36", after := #[], guard := none }) rfl (by kernel_rfl) (by kernel_rfl) (by kernel_rfl) (by kernel_rfl) rfl (fun _ _ _ h => h) (Or.inl ⟨by rfl, ?_⟩) HS1 ?_
        rotate_left
        · intro W hSW
          go_simp
          try with_reducible rfl
        simp only [Act.put, List.setIfInBounds_toArray, List.set_cons_zero, List.set_cons_succ]
        refine wpAnyL_take' (i := 3) (v := ?_) (oi := { dst := some 87, op := Op.indexAddr 22 (Operand.tmp 85) (Operand.tmp 86), type := 0, pos := "ref.go:36", after := #[{ on := 1, ground := Ground.data }, { on := 2, ground := Ground.data }], guard := none }) rfl (by kernel_rfl) (by kernel_rfl) (by kernel_rfl) (by kernel_rfl) rfl (fun _ _ _ h => h) (Or.inl ⟨by rfl, ?_⟩) HS1 ?_
        rotate_left
        · intro W hSW
          go_simp
          try with_reducible rfl
        simp only [Act.put, List.setIfInBounds_toArray, List.set_cons_zero, List.set_cons_succ]
        refine wpAnyL_take' (i := 4) (v := ?_) (oi := { dst := some 88, op := Op.load 24 (Operand.tmp 87), type := 24, pos := "ref.go:36", after := #[{ on := 3, ground := Ground.data }], guard := none }) rfl (by kernel_rfl) (by kernel_rfl) (by kernel_rfl) (by kernel_rfl) rfl (fun _ _ _ h => h) (Or.inl ⟨by rfl, ?_⟩) HS1 ?_
        rotate_left
        · intro W hSW
          go_simp
          try with_reducible rfl
        simp only [Act.put, List.setIfInBounds_toArray, List.set_cons_zero, List.set_cons_succ]
        refine wpAnyL_take' (i := 5) (v := ?_) (oi := { dst := some 89, op := Op.move (Operand.tmp 9), type := 3, pos := "ref.go:36", after := #[], guard := none }) rfl (by kernel_rfl) (by kernel_rfl) (by kernel_rfl) (by kernel_rfl) rfl (fun _ _ _ h => h) (Or.inl ⟨by rfl, ?_⟩) HS1 ?_
        rotate_left
        · intro W hSW
          go_simp
          try with_reducible rfl
        simp only [Act.put, List.setIfInBounds_toArray, List.set_cons_zero, List.set_cons_succ]
        refine wpAnyL_take' (i := 6) (v := ?_) (oi := { dst := some 90, op := Op.fieldAddr 24 (Operand.tmp 4) 4, type := 0, pos := "ref.go:36", after := #[], guard := none }) rfl (by kernel_rfl) (by kernel_rfl) (by kernel_rfl) (by kernel_rfl) rfl (fun _ _ _ h => h) (Or.inl ⟨by rfl, ?_⟩) HS1 ?_
        rotate_left
        · intro W hSW
          go_simp
          try with_reducible rfl
        simp only [Act.put, List.setIfInBounds_toArray, List.set_cons_zero, List.set_cons_succ]
        refine wpAnyL_take' (i := 7) (v := ?_) (oi := { dst := some 91, op := Op.load 3 (Operand.tmp 90), type := 3, pos := "ref.go:36", after := #[{ on := 6, ground := Ground.data }], guard := none }) rfl (by kernel_rfl) (by kernel_rfl) (by kernel_rfl) (by kernel_rfl) rfl (fun _ _ _ h => h) (Or.inl ⟨by rfl, ?_⟩) HS1 ?_
        rotate_left
        · intro W hSW
          go_simp
          try with_reducible rfl
        simp only [Act.put, List.setIfInBounds_toArray, List.set_cons_zero, List.set_cons_succ]
        refine wpAnyL_take' (i := 8) (v := ?_) (oi := { dst := some 92, op := Op.move (Operand.tmp 3), type := 3, pos := "ref.go:36", after := #[], guard := none }) rfl (by kernel_rfl) (by kernel_rfl) (by kernel_rfl) (by kernel_rfl) rfl (fun _ _ _ h => h) (Or.inl ⟨by rfl, ?_⟩) HS1 ?_
        rotate_left
        · intro W hSW
          go_simp
          try with_reducible rfl
        simp only [Act.put, List.setIfInBounds_toArray, List.set_cons_zero, List.set_cons_succ]
        refine wpAnyL_take' (i := 9) (v := ?_) (oi := { dst := some 93, op := Op.binOp BinOp.add 3 (Operand.tmp 92) (Operand.const (Value.int IntKind.i64 1)) 3, type := 3, pos := "ref.go:36", after := #[{ on := 8, ground := Ground.data }], guard := none }) rfl (by kernel_rfl) (by kernel_rfl) (by kernel_rfl) (by kernel_rfl) rfl (fun _ _ _ h => h) (Or.inl ⟨by rfl, ?_⟩) HS1 ?_
        rotate_left
        · intro W hSW
          go_simp
          try with_reducible rfl
        simp only [Act.put, List.setIfInBounds_toArray, List.set_cons_zero, List.set_cons_succ]
        refine wpAnyL_one' (i := 10) (o := { dst := some 94, op := Op.call { callee := Callee.value (Operand.func 35), args := #[Operand.tmp 88, Operand.tmp 89, Operand.tmp 91, Operand.tmp 93], argTypes := #[24, 3, 3, 3] }, type := 4, pos := "ref.go:36", after := #[{ on := 4, ground := Ground.data }, { on := 5, ground := Ground.data }, { on := 7, ground := Ground.data }, { on := 9, ground := Ground.data }], guard := none }) (by kernel_rfl) rfl rfl (fun K hK => ?_)
        go_simp
        refine (hrec).mono ?_
        rintro e w2 ⟨rfl, hb2⟩
        refine hK.out _ _ (fun _ => (HS2 hb2)) ?_
        clear hK
        refine wpAnyL_take' (i := 11) (v := ?_) (oi := { dst := some 95, op := Op.unOp UnOp.not 4 (Operand.tmp 94), type := 4, pos := "ref.go:36", after := #[{ on := 10, ground := Ground.data }], guard := none }) rfl (by kernel_rfl) (by kernel_rfl) (by kernel_rfl) (by kernel_rfl) rfl (fun _ _ _ h => h) (Or.inl ⟨by rfl, ?_⟩) (HS2 hb2) ?_
        rotate_left
        · intro W hSW
          go_simp
          try with_reducible rfl
        simp only [Act.put, List.setIfInBounds_toArray, List.set_cons_zero, List.set_cons_succ]
        refine wpAnyL_done (by kernel_rfl) ?_ _
        have hb3 : Below wr.heap.size wr w2 := hdr.trans hb2
        obtain ⟨q2, q4, p0, p1, p2, p3, p4, p5, p6⟩ := HS2 hb2
        clear HS1 HS2 hrec hr7
        cases fb with
        | false =>
          go_wp2
          go_ret
          exact ⟨by rw [HF1.out]; rfl, below_next hBw hb3⟩
        | true =>
          go_wp2
          exact ⟨⟨j + 1, gto, by go_num, rfl, by omega, below_next hB hb3, by show _ = _; rw [HF1.out]; rfl⟩, by simp [intOf]; omega⟩
end Go.Proofs.Ythmpnhjlblcgdaa
