/- The document's Same. -/
import Derived.Test.YthmpnhjlblcgdaaRSmall
import Derived.Test.YthmpnhjlblcgdaaHeldTwo
import Derived.WideShapes
import Derived.Deep.Cut
import Derived.Deep.CutRange
namespace Go.Proofs.Ythmpnhjlblcgdaa
open Go.RowKit

open Classical in
noncomputable def eqN (a b : Nd) : Bool := decide (a = b)
theorem eqN_true {a b : Nd} : eqN a b = true ↔ a = b := by unfold eqN; simp
theorem eqN_false {a b : Nd} : eqN a b = false ↔ a ≠ b := by unfold eqN; simp
theorem eqN_refl (a : Nd) : eqN a a = true := eqN_true.2 rfl
theorem ba_ext {a b : ByteArray} (h : a.toList = b.toList) : a = b := by
  exact Go.WideShapes.bytes_inj (by rw [← ByteArray.toList_eq, ← ByteArray.toList_eq]; exact h)

set_option maxRecDepth 100000 in
set_option maxHeartbeats 4000000 in
theorem rsame_any {A A' : Nat → Prop} : ∀ (n n' : Nat) (t t' : Nd) (v v' : Value) (w : World), TAt A n t v w → TAt A' n' t' v' w →
    Calls Try.prog 16 #[v, v'] w fun e w' => e = .returned (.bool (eqN t t')) ∧ Below w.heap.size w w'
  | 0, _, _, _, _, _, _, h, _ => h.elim
  | n + 1, 0, _, _, _, _, _, _, h => h.elim
  | n + 1, n' + 1, t, t', v, v', w, h, h' => by
    obtain ⟨ba, bc, rfl, hok, _, _, hlb, hsubs0⟩ := h
    obtain ⟨ba2, bc2, rfl, hok', _, _, hlb', hsubs0'⟩ := h'
    have hsubs : KidsAt A n t.kids ba w := hsubs0
    have hsubs' : KidsAt A' n' t'.kids ba2 w := hsubs0'
    clear hsubs0 hsubs0'
    have ih := rsame_any (A := A) (A' := A') n n'
    obtain ⟨hd, subs⟩ := t
    obtain ⟨hd', subs2⟩ := t'
    simp only [Nd.h, Nd.kids] at *
    obtain ⟨zk, zn, zf, zr, zt, zb⟩ := hd
    obtain ⟨yk, yn, yf, yr, yt, yb⟩ := hd'
    unfold ndV
    simp only
    clear hok hok'
    go_enter Try.func16, Try.ntmps16
    go_wp2_with fail
    rotate_left 1
    · rename_i q0 q1 q2 q3 q4 q5 q6 K hK
      have HLL : Hid (subs.length = subs2.length) := by
        show _ = _
        have := bne_eq_false_iff_eq.1 q6
        omega
      obtain rfl := ba_ext q0
      obtain rfl := q1
      obtain rfl := ba_ext q2
      subst q3 q4 q5
      clear q0 q2 q6
      have hz : w.heap.size + 1 < ((w.alloc (Obj.cells #[Value.string zk, Value.bool zn, Value.string zf, Value.int IntKind.i64 zr, Value.int IntKind.i64 zt, Value.int IntKind.i64 zb, Value.slice ba subs.length bc] 24)).alloc (Obj.cells #[Value.string zk, Value.bool zn, Value.string zf, Value.int IntKind.i64 zr, Value.int IntKind.i64 zt, Value.int IntKind.i64 zb, Value.slice ba2 subs2.length bc2] 24)).heap.size := by simp
      have hc2 : ((w.alloc (Obj.cells #[Value.string zk, Value.bool zn, Value.string zf, Value.int IntKind.i64 zr, Value.int IntKind.i64 zt, Value.int IntKind.i64 zb, Value.slice ba subs.length bc] 24)).alloc (Obj.cells #[Value.string zk, Value.bool zn, Value.string zf, Value.int IntKind.i64 zr, Value.int IntKind.i64 zt, Value.int IntKind.i64 zb, Value.slice ba2 subs2.length bc2] 24)).cell? ⟨w.heap.size, 6, none⟩ = some (.slice ba subs.length bc) := by simp
      have hc2' : ((w.alloc (Obj.cells #[Value.string zk, Value.bool zn, Value.string zf, Value.int IntKind.i64 zr, Value.int IntKind.i64 zt, Value.int IntKind.i64 zb, Value.slice ba subs.length bc] 24)).alloc (Obj.cells #[Value.string zk, Value.bool zn, Value.string zf, Value.int IntKind.i64 zr, Value.int IntKind.i64 zt, Value.int IntKind.i64 zb, Value.slice ba2 subs2.length bc2] 24)).cell? ⟨w.heap.size + 1, 6, none⟩ = some (.slice ba2 subs2.length bc2) := by simp
      have hB0 : Below w.heap.size w ((w.alloc (Obj.cells #[Value.string zk, Value.bool zn, Value.string zf, Value.int IntKind.i64 zr, Value.int IntKind.i64 zt, Value.int IntKind.i64 zb, Value.slice ba subs.length bc] 24)).alloc (Obj.cells #[Value.string zk, Value.bool zn, Value.string zf, Value.int IntKind.i64 zr, Value.int IntKind.i64 zt, Value.int IntKind.i64 zb, Value.slice ba2 subs2.length bc2] 24)) := ((Below.refl _ _).alloc (Nat.le_refl _) _).alloc (by simp) _
      generalize (w.alloc (Obj.cells #[Value.string zk, Value.bool zn, Value.string zf, Value.int IntKind.i64 zr, Value.int IntKind.i64 zt, Value.int IntKind.i64 zb, Value.slice ba subs.length bc] 24)).alloc (Obj.cells #[Value.string zk, Value.bool zn, Value.string zf, Value.int IntKind.i64 zr, Value.int IntKind.i64 zt, Value.int IntKind.i64 zb, Value.slice ba2 subs2.length bc2] 24) = W0 at *
      have hs0 : KidsAt A n subs ba W0 := hsubs.next hB0
      have hs0' : KidsAt A' n' subs2 ba2 W0 := hsubs'.next hB0
      clear hsubs hsubs'
      obtain ⟨P, HP⟩ : ∃ P, Hid (P = w.heap.size) := ⟨_, rfl⟩
      rw [← HP.out] at hz hc2 hc2' ⊢
      go_loopw [5] (fun c wr => ∃ j : Nat, c = .int .i64 j ∧ j ≤ subs.length ∧ Below W0.heap.size W0 wr ∧ Hid (subs.take j = subs2.take j)) (fun c _ => subs.length - (intOf c).toNat)
      case atStart => exact ⟨0, rfl, Nat.zero_le _, Below.refl _ _, by show _ = _; simp⟩
      case round =>
        obtain ⟨j, rfl, hj, hB, HF⟩ := hrel
        have D2 := (hB.cell (p := ⟨P, 6, none⟩) (Nat.lt_of_succ_lt hz)).trans hc2
        have D2' := (hB.cell (p := ⟨P + 1, 6, none⟩) hz).trans hc2'
        have hPr : P + 1 < wr.heap.size := Nat.lt_of_lt_of_le hz hB.size
        have hBw : Below w.heap.size w wr := below_next hB0 hB
        by_cases hlt : j < subs.length
        · have k1 : (j : Int) < subs.length := by omega
          have hlt' : j < subs2.length := by have := HLL.out; omega
          have k1' : (j : Int) < subs2.length := by omega
          obtain ⟨b, off, ka, kc, rfl, _, hb, ⟨e0, e1, e2, e3, e4, e5, e6⟩, hT⟩ := hs0.at hB hlt
          obtain ⟨b2, off2, ka2, kc2, rfl, _, hb', ⟨g0, g1, g2, g3, g4, g5, g6⟩, hT'⟩ := hs0'.at hB hlt'
          have hrec1 := fun W (hb : Below wr.heap.size wr W) => ih _ _ _ _ W.drew ((hT.next hb).next (Below.refl _ _).drew) ((hT'.next hb).next (Below.refl _ _).drew)
          cases hsn : eqN subs[j] subs2[j] with
          | true =>
            rw [hsn] at hrec1
            have HF2 : Hid (subs.take (j + 1) = subs2.take (j + 1)) := by
              show _ = _
              rw [List.take_succ_eq_append_getElem hlt, List.take_succ_eq_append_getElem hlt', HF.out, eqN_true.1 hsn]
            generalize subs[j].h = sh at *
            generalize subs[j].kids.length = sk at *
            generalize subs2[j].h = sh' at *
            generalize subs2[j].kids.length = sk2 at *
            obtain ⟨xk, xn, xf, xr, xt, xb⟩ := sh
            obtain ⟨uk, un, uf, ur, ut, ub⟩ := sh'
            unfold ndV at hrec1
            simp only at *
            clear HF ih hs0 hs0' hT hT' hsn
            go_wp2_with fail
            have hrec := hrec1 _ (Below.refl _ _)
            have HSK : Hid (∀ W, Below wr.drew.heap.size wr.drew W → ((W.cell? ⟨P, 6, none⟩ = some (.slice (some ⟨b, off, none⟩) subs.length bc) ∧ W.cell? ⟨P + 1, 6, none⟩ = some (.slice (some ⟨b2, off2, none⟩) subs2.length bc2)) ∧ (W.cell? ⟨b, off + j * 7, none⟩ = some (.string xk) ∧ W.cell? ⟨b, off + j * 7 + 1, none⟩ = some (.bool xn) ∧ W.cell? ⟨b, off + j * 7 + 2, none⟩ = some (.string xf) ∧ W.cell? ⟨b, off + j * 7 + 3, none⟩ = some (.int .i64 xr) ∧ W.cell? ⟨b, off + j * 7 + 4, none⟩ = some (.int .i64 xt) ∧ W.cell? ⟨b, off + j * 7 + 5, none⟩ = some (.int .i64 xb) ∧ W.cell? ⟨b, off + j * 7 + 6, none⟩ = some (.slice ka sk kc)) ∧ (W.cell? ⟨b2, off2 + j * 7, none⟩ = some (.string uk) ∧ W.cell? ⟨b2, off2 + j * 7 + 1, none⟩ = some (.bool un) ∧ W.cell? ⟨b2, off2 + j * 7 + 2, none⟩ = some (.string uf) ∧ W.cell? ⟨b2, off2 + j * 7 + 3, none⟩ = some (.int .i64 ur) ∧ W.cell? ⟨b2, off2 + j * 7 + 4, none⟩ = some (.int .i64 ut) ∧ W.cell? ⟨b2, off2 + j * 7 + 5, none⟩ = some (.int .i64 ub) ∧ W.cell? ⟨b2, off2 + j * 7 + 6, none⟩ = some (.slice ka2 sk2 kc2)))) := fun W hb3 => by
              have c : ∀ (b o : Nat), b < wr.heap.size → W.cell? ⟨b, o, none⟩ = wr.cell? ⟨b, o, none⟩ := fun b o h => hb3.cell (p := ⟨b, o, none⟩) h
              refine ⟨⟨(c _ _ (by omega)).trans D2, (c _ _ hPr).trans D2'⟩, ⟨(c _ _ hb).trans e0, (c _ _ hb).trans e1, (c _ _ hb).trans e2, (c _ _ hb).trans e3, (c _ _ hb).trans e4, (c _ _ hb).trans e5, (c _ _ hb).trans e6⟩, (c _ _ hb').trans g0, (c _ _ hb').trans g1, (c _ _ hb').trans g2, (c _ _ hb').trans g3, (c _ _ hb').trans g4, (c _ _ hb').trans g5, (c _ _ hb').trans g6⟩
            clear e0 e1 e2 e3 e4 e5 e6 g0 g1 g2 g3 g4 g5 g6 D2 D2' hrec1
            refine wp_region_L (fun W => (W.cell? ⟨P, 6, none⟩ = some (.slice (some ⟨b, off, none⟩) subs.length bc) ∧ W.cell? ⟨P + 1, 6, none⟩ = some (.slice (some ⟨b2, off2, none⟩) subs2.length bc2)) ∧ (W.cell? ⟨b, off + j * 7, none⟩ = some (.string xk) ∧ W.cell? ⟨b, off + j * 7 + 1, none⟩ = some (.bool xn) ∧ W.cell? ⟨b, off + j * 7 + 2, none⟩ = some (.string xf) ∧ W.cell? ⟨b, off + j * 7 + 3, none⟩ = some (.int .i64 xr) ∧ W.cell? ⟨b, off + j * 7 + 4, none⟩ = some (.int .i64 xt) ∧ W.cell? ⟨b, off + j * 7 + 5, none⟩ = some (.int .i64 xb) ∧ W.cell? ⟨b, off + j * 7 + 6, none⟩ = some (.slice ka sk kc)) ∧ (W.cell? ⟨b2, off2 + j * 7, none⟩ = some (.string uk) ∧ W.cell? ⟨b2, off2 + j * 7 + 1, none⟩ = some (.bool un) ∧ W.cell? ⟨b2, off2 + j * 7 + 2, none⟩ = some (.string uf) ∧ W.cell? ⟨b2, off2 + j * 7 + 3, none⟩ = some (.int .i64 ur) ∧ W.cell? ⟨b2, off2 + j * 7 + 4, none⟩ = some (.int .i64 ut) ∧ W.cell? ⟨b2, off2 + j * 7 + 5, none⟩ = some (.int .i64 ub) ∧ W.cell? ⟨b2, off2 + j * 7 + 6, none⟩ = some (.slice ka2 sk2 kc2))) 12 (by kernel_rfl) 12 rfl ?_
            refine wpAnyL_take' (i := 0) (v := ?_) (oi := { dst := some 62, op := Op.fieldAddr 24 (Operand.tmp 2) 6, type := 0, pos := "ref.go:53", after := #[], guard := none }) rfl (by kernel_rfl) (by kernel_rfl) (by kernel_rfl) (by kernel_rfl) rfl (fun _ _ _ h => h) (Or.inl ⟨by rfl, ?_⟩) (HSK.out _ (Below.refl _ _)) ?_
            rotate_left
            · intro W hSW
              go_simp
              try with_reducible rfl
            simp only [Act.put, List.setIfInBounds_toArray, List.set_cons_zero, List.set_cons_succ]
            refine wpAnyL_take' (i := 1) (v := ?_) (oi := { dst := some 63, op := Op.load 22 (Operand.tmp 62), type := 22, pos := "ref.go:53", after := #[{ on := 0, ground := Ground.data }], guard := none }) rfl (by kernel_rfl) (by kernel_rfl) (by kernel_rfl) (by kernel_rfl) rfl (fun _ _ _ h => h) (Or.inl ⟨by rfl, ?_⟩) (HSK.out _ (Below.refl _ _)) ?_
            rotate_left
            · intro W hSW
              go_simp
              try with_reducible rfl
            simp only [Act.put, List.setIfInBounds_toArray, List.set_cons_zero, List.set_cons_succ]
            refine wpAnyL_take' (i := 2) (v := ?_) (oi := { dst := some 64, op := Op.move (Operand.tmp 5), type := 3, pos := "ref.go:53", after := #[], guard := none }) rfl (by kernel_rfl) (by kernel_rfl) (by kernel_rfl) (by kernel_rfl) rfl (fun _ _ _ h => h) (Or.inl ⟨by rfl, ?_⟩) (HSK.out _ (Below.refl _ _)) ?_
            rotate_left
            · intro W hSW
              go_simp
              try with_reducible rfl
            simp only [Act.put, List.setIfInBounds_toArray, List.set_cons_zero, List.set_cons_succ]
            refine wpAnyL_take' (i := 3) (v := ?_) (oi := { dst := some 65, op := Op.indexAddr 22 (Operand.tmp 63) (Operand.tmp 64), type := 0, pos := "ref.go:53", after := #[{ on := 1, ground := Ground.data }, { on := 2, ground := Ground.data }], guard := none }) rfl (by kernel_rfl) (by kernel_rfl) (by kernel_rfl) (by kernel_rfl) rfl (fun _ _ _ h => h) (Or.inl ⟨by rfl, ?_⟩) (HSK.out _ (Below.refl _ _)) ?_
            rotate_left
            · intro W hSW
              go_simp
              try with_reducible rfl
            simp only [Act.put, List.setIfInBounds_toArray, List.set_cons_zero, List.set_cons_succ]
            refine wpAnyL_take' (i := 4) (v := ?_) (oi := { dst := some 66, op := Op.load 24 (Operand.tmp 65), type := 24, pos := "ref.go:53", after := #[{ on := 3, ground := Ground.data }], guard := none }) rfl (by kernel_rfl) (by kernel_rfl) (by kernel_rfl) (by kernel_rfl) rfl (fun _ _ _ h => h) (Or.inl ⟨by rfl, ?_⟩) (HSK.out _ (Below.refl _ _)) ?_
            rotate_left
            · intro W hSW
              go_simp
              try with_reducible rfl
            simp only [Act.put, List.setIfInBounds_toArray, List.set_cons_zero, List.set_cons_succ]
            refine wpAnyL_take' (i := 5) (v := ?_) (oi := { dst := some 67, op := Op.fieldAddr 24 (Operand.tmp 3) 6, type := 0, pos := "ref.go:53", after := #[], guard := none }) rfl (by kernel_rfl) (by kernel_rfl) (by kernel_rfl) (by kernel_rfl) rfl (fun _ _ _ h => h) (Or.inl ⟨by rfl, ?_⟩) (HSK.out _ (Below.refl _ _)) ?_
            rotate_left
            · intro W hSW
              go_simp
              try with_reducible rfl
            simp only [Act.put, List.setIfInBounds_toArray, List.set_cons_zero, List.set_cons_succ]
            refine wpAnyL_take' (i := 6) (v := ?_) (oi := { dst := some 68, op := Op.load 22 (Operand.tmp 67), type := 22, pos := "ref.go:53", after := #[{ on := 5, ground := Ground.data }], guard := none }) rfl (by kernel_rfl) (by kernel_rfl) (by kernel_rfl) (by kernel_rfl) rfl (fun _ _ _ h => h) (Or.inl ⟨by rfl, ?_⟩) (HSK.out _ (Below.refl _ _)) ?_
            rotate_left
            · intro W hSW
              go_simp
              try with_reducible rfl
            simp only [Act.put, List.setIfInBounds_toArray, List.set_cons_zero, List.set_cons_succ]
            refine wpAnyL_take' (i := 7) (v := ?_) (oi := { dst := some 69, op := Op.move (Operand.tmp 5), type := 3, pos := "ref.go:53", after := #[], guard := none }) rfl (by kernel_rfl) (by kernel_rfl) (by kernel_rfl) (by kernel_rfl) rfl (fun _ _ _ h => h) (Or.inl ⟨by rfl, ?_⟩) (HSK.out _ (Below.refl _ _)) ?_
            rotate_left
            · intro W hSW
              go_simp
              try with_reducible rfl
            simp only [Act.put, List.setIfInBounds_toArray, List.set_cons_zero, List.set_cons_succ]
            refine wpAnyL_take' (i := 8) (v := ?_) (oi := { dst := some 70, op := Op.indexAddr 22 (Operand.tmp 68) (Operand.tmp 69), type := 0, pos := "ref.go:53", after := #[{ on := 6, ground := Ground.data }, { on := 7, ground := Ground.data }], guard := none }) rfl (by kernel_rfl) (by kernel_rfl) (by kernel_rfl) (by kernel_rfl) rfl (fun _ _ _ h => h) (Or.inl ⟨by rfl, ?_⟩) (HSK.out _ (Below.refl _ _)) ?_
            rotate_left
            · intro W hSW
              go_simp
              try with_reducible rfl
            simp only [Act.put, List.setIfInBounds_toArray, List.set_cons_zero, List.set_cons_succ]
            refine wpAnyL_take' (i := 9) (v := ?_) (oi := { dst := some 71, op := Op.load 24 (Operand.tmp 70), type := 24, pos := "ref.go:53", after := #[{ on := 8, ground := Ground.data }], guard := none }) rfl (by kernel_rfl) (by kernel_rfl) (by kernel_rfl) (by kernel_rfl) rfl (fun _ _ _ h => h) (Or.inl ⟨by rfl, ?_⟩) (HSK.out _ (Below.refl _ _)) ?_
            rotate_left
            · intro W hSW
              go_simp
              try with_reducible rfl
            simp only [Act.put, List.setIfInBounds_toArray, List.set_cons_zero, List.set_cons_succ]
            refine wpAnyL_one' (i := 10) (o := { dst := some 72, op := Op.call { callee := Callee.value (Operand.func 16), args := #[Operand.tmp 66, Operand.tmp 71], argTypes := #[24, 24] }, type := 4, pos := "ref.go:53", after := #[{ on := 4, ground := Ground.data }, { on := 9, ground := Ground.data }], guard := none }) (by kernel_rfl) rfl rfl (fun K hK => ?_)
            go_simp
            refine (hrec).mono ?_
            rintro e w3 ⟨rfl, hb3⟩
            refine hK.out _ _ (fun _ => (HSK.out _ hb3)) ?_
            clear hK
            refine wpAnyL_take' (i := 11) (v := ?_) (oi := { dst := some 73, op := Op.unOp UnOp.not 4 (Operand.tmp 72), type := 4, pos := "ref.go:53", after := #[{ on := 10, ground := Ground.data }], guard := none }) rfl (by kernel_rfl) (by kernel_rfl) (by kernel_rfl) (by kernel_rfl) rfl (fun _ _ _ h => h) (Or.inl ⟨by rfl, ?_⟩) (HSK.out _ hb3) ?_
            rotate_left
            · intro W hSW
              go_simp
              try with_reducible rfl
            simp only [Act.put, List.setIfInBounds_toArray, List.set_cons_zero, List.set_cons_succ]
            refine wpAnyL_done (by kernel_rfl) ?_ _
            go_wp2
            exact ⟨⟨j + 1, by go_num, by omega, below_next hB ((Below.refl _ _).drew.trans hb3), HF2⟩, by simp [intOf]; omega⟩
          | false =>
            rw [hsn] at hrec1
            have HV : Hid (eqN ⟨⟨zk, zn, zf, zr, zt, zb⟩, subs⟩ ⟨⟨zk, zn, zf, zr, zt, zb⟩, subs2⟩ = false) := by
              refine eqN_false.2 ?_
              intro e
              injection e with _ e
              subst e
              exact eqN_false.1 hsn rfl
            generalize subs[j].h = sh at *
            generalize subs[j].kids.length = sk at *
            generalize subs2[j].h = sh' at *
            generalize subs2[j].kids.length = sk2 at *
            obtain ⟨xk, xn, xf, xr, xt, xb⟩ := sh
            obtain ⟨uk, un, uf, ur, ut, ub⟩ := sh'
            unfold ndV at hrec1
            simp only at *
            clear HF ih hs0 hs0' hT hT' hsn
            go_wp2_with fail
            have hrec := hrec1 _ (Below.refl _ _)
            have HSK : Hid (∀ W, Below wr.drew.heap.size wr.drew W → ((W.cell? ⟨P, 6, none⟩ = some (.slice (some ⟨b, off, none⟩) subs.length bc) ∧ W.cell? ⟨P + 1, 6, none⟩ = some (.slice (some ⟨b2, off2, none⟩) subs2.length bc2)) ∧ (W.cell? ⟨b, off + j * 7, none⟩ = some (.string xk) ∧ W.cell? ⟨b, off + j * 7 + 1, none⟩ = some (.bool xn) ∧ W.cell? ⟨b, off + j * 7 + 2, none⟩ = some (.string xf) ∧ W.cell? ⟨b, off + j * 7 + 3, none⟩ = some (.int .i64 xr) ∧ W.cell? ⟨b, off + j * 7 + 4, none⟩ = some (.int .i64 xt) ∧ W.cell? ⟨b, off + j * 7 + 5, none⟩ = some (.int .i64 xb) ∧ W.cell? ⟨b, off + j * 7 + 6, none⟩ = some (.slice ka sk kc)) ∧ (W.cell? ⟨b2, off2 + j * 7, none⟩ = some (.string uk) ∧ W.cell? ⟨b2, off2 + j * 7 + 1, none⟩ = some (.bool un) ∧ W.cell? ⟨b2, off2 + j * 7 + 2, none⟩ = some (.string uf) ∧ W.cell? ⟨b2, off2 + j * 7 + 3, none⟩ = some (.int .i64 ur) ∧ W.cell? ⟨b2, off2 + j * 7 + 4, none⟩ = some (.int .i64 ut) ∧ W.cell? ⟨b2, off2 + j * 7 + 5, none⟩ = some (.int .i64 ub) ∧ W.cell? ⟨b2, off2 + j * 7 + 6, none⟩ = some (.slice ka2 sk2 kc2)))) := fun W hb3 => by
              have c : ∀ (b o : Nat), b < wr.heap.size → W.cell? ⟨b, o, none⟩ = wr.cell? ⟨b, o, none⟩ := fun b o h => hb3.cell (p := ⟨b, o, none⟩) h
              refine ⟨⟨(c _ _ (by omega)).trans D2, (c _ _ hPr).trans D2'⟩, ⟨(c _ _ hb).trans e0, (c _ _ hb).trans e1, (c _ _ hb).trans e2, (c _ _ hb).trans e3, (c _ _ hb).trans e4, (c _ _ hb).trans e5, (c _ _ hb).trans e6⟩, (c _ _ hb').trans g0, (c _ _ hb').trans g1, (c _ _ hb').trans g2, (c _ _ hb').trans g3, (c _ _ hb').trans g4, (c _ _ hb').trans g5, (c _ _ hb').trans g6⟩
            clear e0 e1 e2 e3 e4 e5 e6 g0 g1 g2 g3 g4 g5 g6 D2 D2' hrec1
            refine wp_region_L (fun W => (W.cell? ⟨P, 6, none⟩ = some (.slice (some ⟨b, off, none⟩) subs.length bc) ∧ W.cell? ⟨P + 1, 6, none⟩ = some (.slice (some ⟨b2, off2, none⟩) subs2.length bc2)) ∧ (W.cell? ⟨b, off + j * 7, none⟩ = some (.string xk) ∧ W.cell? ⟨b, off + j * 7 + 1, none⟩ = some (.bool xn) ∧ W.cell? ⟨b, off + j * 7 + 2, none⟩ = some (.string xf) ∧ W.cell? ⟨b, off + j * 7 + 3, none⟩ = some (.int .i64 xr) ∧ W.cell? ⟨b, off + j * 7 + 4, none⟩ = some (.int .i64 xt) ∧ W.cell? ⟨b, off + j * 7 + 5, none⟩ = some (.int .i64 xb) ∧ W.cell? ⟨b, off + j * 7 + 6, none⟩ = some (.slice ka sk kc)) ∧ (W.cell? ⟨b2, off2 + j * 7, none⟩ = some (.string uk) ∧ W.cell? ⟨b2, off2 + j * 7 + 1, none⟩ = some (.bool un) ∧ W.cell? ⟨b2, off2 + j * 7 + 2, none⟩ = some (.string uf) ∧ W.cell? ⟨b2, off2 + j * 7 + 3, none⟩ = some (.int .i64 ur) ∧ W.cell? ⟨b2, off2 + j * 7 + 4, none⟩ = some (.int .i64 ut) ∧ W.cell? ⟨b2, off2 + j * 7 + 5, none⟩ = some (.int .i64 ub) ∧ W.cell? ⟨b2, off2 + j * 7 + 6, none⟩ = some (.slice ka2 sk2 kc2))) 12 (by kernel_rfl) 12 rfl ?_
            refine wpAnyL_take' (i := 0) (v := ?_) (oi := { dst := some 62, op := Op.fieldAddr 24 (Operand.tmp 2) 6, type := 0, pos := "ref.go:53", after := #[], guard := none }) rfl (by kernel_rfl) (by kernel_rfl) (by kernel_rfl) (by kernel_rfl) rfl (fun _ _ _ h => h) (Or.inl ⟨by rfl, ?_⟩) (HSK.out _ (Below.refl _ _)) ?_
            rotate_left
            · intro W hSW
              go_simp
              try with_reducible rfl
            simp only [Act.put, List.setIfInBounds_toArray, List.set_cons_zero, List.set_cons_succ]
            refine wpAnyL_take' (i := 1) (v := ?_) (oi := { dst := some 63, op := Op.load 22 (Operand.tmp 62), type := 22, pos := "ref.go:53", after := #[{ on := 0, ground := Ground.data }], guard := none }) rfl (by kernel_rfl) (by kernel_rfl) (by kernel_rfl) (by kernel_rfl) rfl (fun _ _ _ h => h) (Or.inl ⟨by rfl, ?_⟩) (HSK.out _ (Below.refl _ _)) ?_
            rotate_left
            · intro W hSW
              go_simp
              try with_reducible rfl
            simp only [Act.put, List.setIfInBounds_toArray, List.set_cons_zero, List.set_cons_succ]
            refine wpAnyL_take' (i := 2) (v := ?_) (oi := { dst := some 64, op := Op.move (Operand.tmp 5), type := 3, pos := "ref.go:53", after := #[], guard := none }) rfl (by kernel_rfl) (by kernel_rfl) (by kernel_rfl) (by kernel_rfl) rfl (fun _ _ _ h => h) (Or.inl ⟨by rfl, ?_⟩) (HSK.out _ (Below.refl _ _)) ?_
            rotate_left
            · intro W hSW
              go_simp
              try with_reducible rfl
            simp only [Act.put, List.setIfInBounds_toArray, List.set_cons_zero, List.set_cons_succ]
            refine wpAnyL_take' (i := 3) (v := ?_) (oi := { dst := some 65, op := Op.indexAddr 22 (Operand.tmp 63) (Operand.tmp 64), type := 0, pos := "ref.go:53", after := #[{ on := 1, ground := Ground.data }, { on := 2, ground := Ground.data }], guard := none }) rfl (by kernel_rfl) (by kernel_rfl) (by kernel_rfl) (by kernel_rfl) rfl (fun _ _ _ h => h) (Or.inl ⟨by rfl, ?_⟩) (HSK.out _ (Below.refl _ _)) ?_
            rotate_left
            · intro W hSW
              go_simp
              try with_reducible rfl
            simp only [Act.put, List.setIfInBounds_toArray, List.set_cons_zero, List.set_cons_succ]
            refine wpAnyL_take' (i := 4) (v := ?_) (oi := { dst := some 66, op := Op.load 24 (Operand.tmp 65), type := 24, pos := "ref.go:53", after := #[{ on := 3, ground := Ground.data }], guard := none }) rfl (by kernel_rfl) (by kernel_rfl) (by kernel_rfl) (by kernel_rfl) rfl (fun _ _ _ h => h) (Or.inl ⟨by rfl, ?_⟩) (HSK.out _ (Below.refl _ _)) ?_
            rotate_left
            · intro W hSW
              go_simp
              try with_reducible rfl
            simp only [Act.put, List.setIfInBounds_toArray, List.set_cons_zero, List.set_cons_succ]
            refine wpAnyL_take' (i := 5) (v := ?_) (oi := { dst := some 67, op := Op.fieldAddr 24 (Operand.tmp 3) 6, type := 0, pos := "ref.go:53", after := #[], guard := none }) rfl (by kernel_rfl) (by kernel_rfl) (by kernel_rfl) (by kernel_rfl) rfl (fun _ _ _ h => h) (Or.inl ⟨by rfl, ?_⟩) (HSK.out _ (Below.refl _ _)) ?_
            rotate_left
            · intro W hSW
              go_simp
              try with_reducible rfl
            simp only [Act.put, List.setIfInBounds_toArray, List.set_cons_zero, List.set_cons_succ]
            refine wpAnyL_take' (i := 6) (v := ?_) (oi := { dst := some 68, op := Op.load 22 (Operand.tmp 67), type := 22, pos := "ref.go:53", after := #[{ on := 5, ground := Ground.data }], guard := none }) rfl (by kernel_rfl) (by kernel_rfl) (by kernel_rfl) (by kernel_rfl) rfl (fun _ _ _ h => h) (Or.inl ⟨by rfl, ?_⟩) (HSK.out _ (Below.refl _ _)) ?_
            rotate_left
            · intro W hSW
              go_simp
              try with_reducible rfl
            simp only [Act.put, List.setIfInBounds_toArray, List.set_cons_zero, List.set_cons_succ]
            refine wpAnyL_take' (i := 7) (v := ?_) (oi := { dst := some 69, op := Op.move (Operand.tmp 5), type := 3, pos := "ref.go:53", after := #[], guard := none }) rfl (by kernel_rfl) (by kernel_rfl) (by kernel_rfl) (by kernel_rfl) rfl (fun _ _ _ h => h) (Or.inl ⟨by rfl, ?_⟩) (HSK.out _ (Below.refl _ _)) ?_
            rotate_left
            · intro W hSW
              go_simp
              try with_reducible rfl
            simp only [Act.put, List.setIfInBounds_toArray, List.set_cons_zero, List.set_cons_succ]
            refine wpAnyL_take' (i := 8) (v := ?_) (oi := { dst := some 70, op := Op.indexAddr 22 (Operand.tmp 68) (Operand.tmp 69), type := 0, pos := "ref.go:53", after := #[{ on := 6, ground := Ground.data }, { on := 7, ground := Ground.data }], guard := none }) rfl (by kernel_rfl) (by kernel_rfl) (by kernel_rfl) (by kernel_rfl) rfl (fun _ _ _ h => h) (Or.inl ⟨by rfl, ?_⟩) (HSK.out _ (Below.refl _ _)) ?_
            rotate_left
            · intro W hSW
              go_simp
              try with_reducible rfl
            simp only [Act.put, List.setIfInBounds_toArray, List.set_cons_zero, List.set_cons_succ]
            refine wpAnyL_take' (i := 9) (v := ?_) (oi := { dst := some 71, op := Op.load 24 (Operand.tmp 70), type := 24, pos := "ref.go:53", after := #[{ on := 8, ground := Ground.data }], guard := none }) rfl (by kernel_rfl) (by kernel_rfl) (by kernel_rfl) (by kernel_rfl) rfl (fun _ _ _ h => h) (Or.inl ⟨by rfl, ?_⟩) (HSK.out _ (Below.refl _ _)) ?_
            rotate_left
            · intro W hSW
              go_simp
              try with_reducible rfl
            simp only [Act.put, List.setIfInBounds_toArray, List.set_cons_zero, List.set_cons_succ]
            refine wpAnyL_one' (i := 10) (o := { dst := some 72, op := Op.call { callee := Callee.value (Operand.func 16), args := #[Operand.tmp 66, Operand.tmp 71], argTypes := #[24, 24] }, type := 4, pos := "ref.go:53", after := #[{ on := 4, ground := Ground.data }, { on := 9, ground := Ground.data }], guard := none }) (by kernel_rfl) rfl rfl (fun K hK => ?_)
            go_simp
            refine (hrec).mono ?_
            rintro e w3 ⟨rfl, hb3⟩
            refine hK.out _ _ (fun _ => (HSK.out _ hb3)) ?_
            clear hK
            refine wpAnyL_take' (i := 11) (v := ?_) (oi := { dst := some 73, op := Op.unOp UnOp.not 4 (Operand.tmp 72), type := 4, pos := "ref.go:53", after := #[{ on := 10, ground := Ground.data }], guard := none }) rfl (by kernel_rfl) (by kernel_rfl) (by kernel_rfl) (by kernel_rfl) rfl (fun _ _ _ h => h) (Or.inl ⟨by rfl, ?_⟩) (HSK.out _ hb3) ?_
            rotate_left
            · intro W hSW
              go_simp
              try with_reducible rfl
            simp only [Act.put, List.setIfInBounds_toArray, List.set_cons_zero, List.set_cons_succ]
            refine wpAnyL_done (by kernel_rfl) ?_ _
            go_wp2
            refine bodyPost_ret (v := .bool false) (by simp [results, Try.f16, go_sem]) rfl ⟨ret_bool HV.out.symm, below_next hBw ((Below.refl _ _).drew.trans hb3)⟩
        · have HV : Hid (eqN ⟨⟨zk, zn, zf, zr, zt, zb⟩, subs⟩ ⟨⟨zk, zn, zf, zr, zt, zb⟩, subs2⟩ = true) := by
            refine eqN_true.2 ?_
            have e := HF.out
            rw [List.take_of_length_le (by omega), List.take_of_length_le (by have := HLL.out; omega)] at e
            rw [e]
          have k1 : ¬ (j : Int) < subs.length := by omega
          clear HF ih hs0 hs0'
          go_wp2
          refine bodyPost_ret (v := .bool true) (by simp [results, Try.f16, go_sem]) rfl ⟨ret_bool HV.out.symm, hBw⟩
    all_goals
      refine bodyPost_ret (v := .bool false) (by simp [results, Try.f16, go_sem]) rfl ⟨ret_bool (Eq.symm (eqN_false.2 ?_)), ((Below.refl _ _).alloc (Nat.le_refl _) _).alloc (by simp) _⟩
      intro e
      injection e with e1 e2
      injection e1
      simp_all
end Go.Proofs.Ythmpnhjlblcgdaa
