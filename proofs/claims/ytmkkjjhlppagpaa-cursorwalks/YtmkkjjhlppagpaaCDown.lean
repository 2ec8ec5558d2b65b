/- Down. -/
import Derived.Test.YtmkkjjhlppagpaaCMath
import Derived.Test.YtmkkjjhlppagpaaCLead
namespace Go.Proofs.Ytmkkjjhlppagpaa
open Go.RowKit

/-- lead, as its callers take it. -/
theorem lead_call {A : Nat → Prop} (n : Nat) (t : Nd) (v : Value) (p : List Int) (pv : Value) (w : World) (h : TAt A n t v w) (hc : cntN t ≤ 5000) (hp : SlP p pv w) (hpl : p.length ≤ 140737488351232) :
    Calls Try.prog 29 #[v, pv] w fun e w' => (∃ hd ka kl kc, e = .returned (.tuple #[ndV hd (.slice ka kl kc), .bool (findN t p).isSome]) ∧ hd = ((findN t p).getD zeroN).h ∧ kl = ((findN t p).getD zeroN).kids.length ∧ kl ≤ 140737488351232 ∧ (∃ m, TAt (fun _ => True) m ((findN t p).getD zeroN) (ndV hd (.slice ka kl kc)) w')) ∧ Below w.heap.size w w' := by
  obtain ⟨pa, pc, rfl, hr, _⟩ := hp
  refine (lead_any n t v p pa pc w h hc hr hpl).mono ?_
  rintro e w1 ⟨⟨m, v', rfl, hT⟩, hb⟩
  obtain ⟨ka, kc, rfl, hk⟩ := hT.val
  exact ⟨⟨_, ka, _, kc, rfl, rfl, rfl, hk, m, hT⟩, hb⟩

set_option maxRecDepth 100000 in
set_option maxHeartbeats 2000000 in
theorem down_any {A : Nat → Prop} (n : Nat) (t : Nd) (v : Value) (p : List Int) (pv : Value) (w : World) (h : TAt A n t v w) (hc : cntN t ≤ 5000) (hp : SlP p pv w) (hpl : p.length ≤ 140737488351232) :
    Calls Try.prog 10 #[v, pv] w fun e w' => GivesP w.heap.size (downN t p) e w' ∧ Below w.heap.size w w' := by
  have HP : Hid (∀ W, Below w.heap.size w W → SlP p pv W) := fun W hb => hp.next hb
  obtain ⟨ba, bc, rfl, _⟩ := h.val
  have hB0 : Below w.heap.size w (w.alloc (Obj.cells #[.string t.h.kind, .bool t.h.named, .string t.h.field, .int .i64 t.h.frm, .int .i64 t.h.to, .int .i64 t.h.bad, .slice ba t.kids.length bc] 24)) := (Below.refl _ _).alloc (Nat.le_refl _) _
  have hl := lead_call n t _ p pv (w.alloc (Obj.cells #[.string t.h.kind, .bool t.h.named, .string t.h.field, .int .i64 t.h.frm, .int .i64 t.h.to, .int .i64 t.h.bad, .slice ba t.kids.length bc] 24)) (h.next hB0) hc (hp.next hB0) hpl
  have HB : Hid _ := hB0
  have HS : Hid (w.heap.size ≤ (w.alloc (Obj.cells #[.string t.h.kind, .bool t.h.named, .string t.h.field, .int .i64 t.h.frm, .int .i64 t.h.to, .int .i64 t.h.bad, .slice ba t.kids.length bc] 24)).heap.size) := hB0.size
  have HL : Hid (∀ x, findN t p = some x → p.length ≤ 5000) := fun x hx => by have := findN_len p t x hx; omega
  have HD : Hid (downN t p = match findN t p with
    | some x => if hasI x 0 then some (p ++ [0]) else none
    | none => none) := rfl
  generalize downN t p = D at *
  obtain ⟨pa, pc, rfl, _⟩ := hp
  clear h hB0 hc
  generalize t.h = hd at *
  generalize t.kids.length = tl at *
  obtain ⟨zk, zn, zf, zr, zt, zb⟩ := hd
  unfold ndV at *
  simp only at *
  go_enter Try.func10, Try.ntmps10
  go_wp2_with fail
  refine hl.mono ?_
  rintro e w1 ⟨⟨hd1, ka, kl, kc, rfl, hh, hkl, hk, _⟩, hb1⟩
  generalize hF : findN t p = F at *
  cases F with
  | none =>
    have HE : Hid (D = none) := HD.out
    have HB1 : Hid (Below w.heap.size w w1) := HB.out.trans (hb1.mono HS.out)
    obtain ⟨uk, un, uf, ur, ut, ub⟩ := hd1
    clear hl hb1 HD hkl hh
    go_wp2_with fail
    refine bodyPost_ret (v := .tuple #[.slice none 0 0, .bool false]) (by simp [results, Try.f10, go_sem]) rfl ?_
    rw [HE.out]
    exact ⟨GivesP.none, HB1.out.alloc (by have := HB1.out.size; omega) _⟩
  | some x =>
    have hpl5 := HL.out x rfl
    simp only [Option.getD_some] at hh hkl
    have HX : Hid (x.kids.length = kl) := hkl.symm
    have HB1 : Hid (Below w.heap.size w w1) := HB.out.trans (hb1.mono HS.out)
    obtain ⟨uk, un, uf, ur, ut, ub⟩ := hd1
    have hB2 : Below w1.heap.size w1 (w1.alloc (Obj.cells #[.string uk, .bool un, .string uf, .int .i64 ur, .int .i64 ut, .int .i64 ub, .slice ka kl kc] 24)) := (Below.refl _ _).alloc (Nat.le_refl _) _
    have hhas := has_any ⟨uk, un, uf, ur, ut, ub⟩ ka kl kc 0 (w1.alloc (Obj.cells #[.string uk, .bool un, .string uf, .int .i64 ur, .int .i64 ut, .int .i64 ub, .slice ka kl kc] 24)) hk
    have HB2 : Hid _ := hB2
    clear hl hb1 hkl hh hB2 HB HS
    unfold ndV at hhas
    simp only at hhas
    by_cases h0 : (0 : Int) < kl
    · have HE : Hid (D = some (p ++ [0])) := by
        have := HD.out
        simp only at this
        rw [show hasI x 0 = true from hasI_iff.2 ⟨by omega, by have := HX.out; omega⟩] at this
        exact this
      rw [show decide ((0 : Int) ≤ 0 ∧ (0 : Int) < (kl : Int)) = true from decide_eq_true ⟨by omega, h0⟩] at hhas
      clear HD h0
      go_wp2_with fail
      refine hhas.mono ?_
      rintro e w2 ⟨rfl, hb2⟩
      have hBn : Below w2.heap.size w2 (w2.alloc (Obj.cells #[.int .i64 0] 3)) := (Below.refl _ _).alloc (Nat.le_refl _) _
      have HB3 : Hid (Below w.heap.size w (w2.alloc (Obj.cells #[.int .i64 0] 3))) := below_next (below_next (below_next HB1.out HB2.out) hb2) hBn
      have ht := told_any p [0] _ _ _ (HP.out _ HB3.out) (SlP.one (W := w2) 0) (by omega) (by decide)
      clear hhas hb2 hBn HB1 HB2
      go_wp2_with fail
      refine ht.mono ?_
      rintro e w3 ⟨⟨v, rfl, hv⟩, hb3⟩
      have HR : Hid (OwnI w.heap.size (p ++ [0]) v w3 ∧ Below w.heap.size w w3) := ⟨own_base hv HB3.out.size, below_next HB3.out hb3⟩
      clear ht hv hb3 HB3
      go_wp2_with fail
      refine bodyPost_ret (v := .tuple #[v, .bool true]) (by simp [results, Try.f10, go_sem]) rfl ?_
      rw [HE.out]
      exact ⟨GivesP.some HR.out.1, HR.out.2⟩
    · have HE : Hid (D = none) := by
        have := HD.out
        simp only at this
        rw [show hasI x 0 = false from by cases hq : hasI x 0 with
          | false => rfl
          | true => exact absurd (hasI_iff.1 hq).2 (by have := HX.out; omega)] at this
        exact this
      rw [show decide ((0 : Int) ≤ 0 ∧ (0 : Int) < (kl : Int)) = false from decide_eq_false (fun h => h0 h.2)] at hhas
      clear HD h0
      go_wp2_with fail
      refine hhas.mono ?_
      rintro e w2 ⟨rfl, hb2⟩
      have HB3 : Hid (Below w.heap.size w w2) := below_next (below_next HB1.out HB2.out) hb2
      clear hhas hb2 HB1 HB2
      go_wp2_with fail
      refine bodyPost_ret (v := .tuple #[.slice none 0 0, .bool false]) (by simp [results, Try.f10, go_sem]) rfl ?_
      rw [HE.out]
      exact ⟨GivesP.none, HB3.out⟩
end Go.Proofs.Ytmkkjjhlppagpaa
