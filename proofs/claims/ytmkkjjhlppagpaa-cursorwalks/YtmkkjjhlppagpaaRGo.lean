/- The document's Down, Up. -/
import Derived.Test.YtmkkjjhlppagpaaRWith
namespace Go.Proofs.Ytmkkjjhlppagpaa
open Go.RowKit

set_option maxRecDepth 100000 in
set_option maxHeartbeats 2000000 in
theorem rdown_any {A : Nat → Prop} (n : Nat) (t : Nd) (v : Value) (p : List Int) (pv : Value) (w : World) (h : TAt A n t v w) (hc : cntN t ≤ 5000) (hp : SlP p pv w) (hpl : p.length ≤ 140737488351232) :
    Calls Try.prog 11 #[v, pv] w fun e w' => GivesP w.heap.size (downN t p) e w' ∧ Below w.heap.size w w' := by
  have HP : Hid (∀ W, Below w.heap.size w W → SlP p pv W) := fun W hb => hp.next hb
  obtain ⟨ba, bc, rfl, _⟩ := h.val
  have hB0 : Below w.heap.size w (w.alloc (Obj.cells #[.string t.h.kind, .bool t.h.named, .string t.h.field, .int .i64 t.h.frm, .int .i64 t.h.to, .int .i64 t.h.bad, .slice ba t.kids.length bc] 24)) := (Below.refl _ _).alloc (Nat.le_refl _) _
  have hl := rfind_call n t _ p pv (w.alloc (Obj.cells #[.string t.h.kind, .bool t.h.named, .string t.h.field, .int .i64 t.h.frm, .int .i64 t.h.to, .int .i64 t.h.bad, .slice ba t.kids.length bc] 24)) (h.next hB0) hc (hp.next hB0) hpl
  have HB : Hid _ := hB0
  have HS : Hid (w.heap.size ≤ (w.alloc (Obj.cells #[.string t.h.kind, .bool t.h.named, .string t.h.field, .int .i64 t.h.frm, .int .i64 t.h.to, .int .i64 t.h.bad, .slice ba t.kids.length bc] 24)).heap.size) := hB0.size
  have HL : Hid (∀ x, findN t p = some x → p.length ≤ 5000) := fun x hx => by have := findN_len p t x hx; omega
  have HD : Hid (downN t p = match findN t p with
    | some x => if hasI x 0 then some (p ++ [0]) else none
    | none => none) := rfl
  generalize downN t p = D at *
  obtain ⟨pa, pc, rfl, _⟩ := hp
  clear h hB0 hc
  generalize t.h = hd at *
  generalize t.kids.length = tl at *
  obtain ⟨zk, zn, zf, zr, zt, zb⟩ := hd
  unfold ndV at *
  simp only at *
  go_enter Try.func11, Try.ntmps11
  go_wp2_with fail
  refine hl.mono ?_
  rintro e w1 ⟨⟨hd1, ka, kl, kc, rfl, hh, hkl, hk, _⟩, hb1⟩
  generalize hF : findN t p = F at *
  cases F with
  | none =>
    have HE : Hid (D = none) := HD.out
    have HB1 : Hid (Below w.heap.size w w1) := HB.out.trans (hb1.mono HS.out)
    obtain ⟨uk, un, uf, ur, ut, ub⟩ := hd1
    clear hl hb1 HD hkl hh
    go_wp2_with fail
    refine bodyPost_ret (v := .tuple #[.slice none 0 0, .bool false]) (by simp [results, Try.f11, go_sem]) rfl ?_
    rw [HE.out]
    exact ⟨GivesP.none, HB1.out.alloc (by have := HB1.out.size; omega) _⟩
  | some x =>
    have hpl5 := HL.out x rfl
    simp only [Option.getD_some] at hh hkl
    have HX : Hid (x.kids.length = kl) := hkl.symm
    have HB1 : Hid (Below w.heap.size w w1) := HB.out.trans (hb1.mono HS.out)
    obtain ⟨uk, un, uf, ur, ut, ub⟩ := hd1
    have hB2 : Below w1.heap.size w1 (w1.alloc (Obj.cells #[.string uk, .bool un, .string uf, .int .i64 ur, .int .i64 ut, .int .i64 ub, .slice ka kl kc] 24)) := (Below.refl _ _).alloc (Nat.le_refl _) _
    have HB2 : Hid _ := hB2
    clear hl hb1 hkl hh hB2 HB HS
    by_cases h0 : (0 : Int) < kl
    · have HE : Hid (D = some (p ++ [0])) := by
        have := HD.out
        simp only at this
        rw [show hasI x 0 = true from hasI_iff.2 ⟨by omega, by have := HX.out; omega⟩] at this
        exact this
      have HB3 : Hid (Below w.heap.size w (w1.alloc (Obj.cells #[.string uk, .bool un, .string uf, .int .i64 ur, .int .i64 ut, .int .i64 ub, .slice ka kl kc] 24))) := below_next HB1.out HB2.out
      have ht := with_any p _ 0 _ (HP.out _ HB3.out) (by omega)
      have k0 : ¬ (kl : Int) = 0 := by omega
      clear HD h0 HB1 HB2
      go_wp2_with fail
      refine ht.mono ?_
      rintro e w3 ⟨⟨v, rfl, hv⟩, hb3⟩
      have HR : Hid (OwnI w.heap.size (p ++ [0]) v w3 ∧ Below w.heap.size w w3) := ⟨own_base hv HB3.out.size, below_next HB3.out hb3⟩
      clear ht hv hb3 HB3
      go_wp2_with fail
      refine bodyPost_ret (v := .tuple #[v, .bool true]) (by simp [results, Try.f11, go_sem]) rfl ?_
      rw [HE.out]
      exact ⟨GivesP.some HR.out.1, HR.out.2⟩
    · have HE : Hid (D = none) := by
        have := HD.out
        simp only at this
        rw [show hasI x 0 = false from by cases hq : hasI x 0 with
          | false => rfl
          | true => exact absurd (hasI_iff.1 hq).2 (by have := HX.out; omega)] at this
        exact this
      obtain rfl : kl = 0 := by omega
      have HB3 : Hid (Below w.heap.size w (w1.alloc (Obj.cells #[.string uk, .bool un, .string uf, .int .i64 ur, .int .i64 ut, .int .i64 ub, .slice ka 0 kc] 24))) := below_next HB1.out HB2.out
      clear HD h0 HB1 HB2
      go_wp2_with fail
      refine bodyPost_ret (v := .tuple #[.slice none 0 0, .bool false]) (by simp [results, Try.f11, go_sem]) rfl ?_
      rw [HE.out]
      exact ⟨GivesP.none, HB3.out⟩

set_option maxRecDepth 100000 in
set_option maxHeartbeats 2000000 in
theorem rup_any {A : Nat → Prop} (n : Nat) (t : Nd) (v : Value) (p : List Int) (pv : Value) (w : World) (h : TAt A n t v w) (hc : cntN t ≤ 5000) (hp : SlP p pv w) (hpl : p.length ≤ 140737488351232) :
    Calls Try.prog 14 #[v, pv] w fun e w' => GivesP w.heap.size (upN t p) e w' ∧ Below w.heap.size w w' := by
  have HP : Hid (∀ W, Below w.heap.size w W → SlP p pv W) := fun W hb => hp.next hb
  obtain ⟨ba, bc, rfl, _⟩ := h.val
  have hB0 : Below w.heap.size w (w.alloc (Obj.cells #[.string t.h.kind, .bool t.h.named, .string t.h.field, .int .i64 t.h.frm, .int .i64 t.h.to, .int .i64 t.h.bad, .slice ba t.kids.length bc] 24)) := (Below.refl _ _).alloc (Nat.le_refl _) _
  have hl := rfind_call n t _ p pv (w.alloc (Obj.cells #[.string t.h.kind, .bool t.h.named, .string t.h.field, .int .i64 t.h.frm, .int .i64 t.h.to, .int .i64 t.h.bad, .slice ba t.kids.length bc] 24)) (h.next hB0) hc (hp.next hB0) hpl
  have HB : Hid _ := hB0
  have HS : Hid (w.heap.size ≤ (w.alloc (Obj.cells #[.string t.h.kind, .bool t.h.named, .string t.h.field, .int .i64 t.h.frm, .int .i64 t.h.to, .int .i64 t.h.bad, .slice ba t.kids.length bc] 24)).heap.size) := hB0.size
  have HL : Hid (∀ x, findN t p = some x → p.length ≤ 5000) := fun x hx => by have := findN_len p t x hx; omega
  have HD : Hid (upN t p = if (findN t p).isSome = true ∧ p ≠ [] then some p.dropLast else none) := rfl
  generalize upN t p = D at *
  obtain ⟨pa, pc, rfl, _⟩ := hp
  clear h hB0 hc
  generalize t.h = hd at *
  generalize t.kids.length = tl at *
  obtain ⟨zk, zn, zf, zr, zt, zb⟩ := hd
  unfold ndV at *
  simp only at *
  go_enter Try.func14, Try.ntmps14
  go_wp2_with fail
  refine hl.mono ?_
  rintro e w1 ⟨⟨hd1, ka, kl, kc, rfl, hh, hkl, hk, _⟩, hb1⟩
  generalize hF : findN t p = F at *
  cases F with
  | none =>
    have HE : Hid (D = none) := by
      show D = none
      have := HD.out
      simpa using this
    have HB1 : Hid (Below w.heap.size w w1) := HB.out.trans (hb1.mono HS.out)
    obtain ⟨uk, un, uf, ur, ut, ub⟩ := hd1
    clear hl hb1 HD hkl hh
    go_wp2_with fail
    refine bodyPost_ret (v := .tuple #[.slice none 0 0, .bool false]) (by simp [results, Try.f14, go_sem]) rfl ?_
    rw [HE.out]
    exact ⟨GivesP.none, HB1.out.alloc (by have := HB1.out.size; omega) _⟩
  | some x =>
    have hpl5 := HL.out x rfl
    have HB1 : Hid (Below w.heap.size w w1) := HB.out.trans (hb1.mono HS.out)
    obtain ⟨uk, un, uf, ur, ut, ub⟩ := hd1
    have hB2 : Below w1.heap.size w1 (w1.alloc (Obj.cells #[.string uk, .bool un, .string uf, .int .i64 ur, .int .i64 ut, .int .i64 ub, .slice ka kl kc] 24)) := (Below.refl _ _).alloc (Nat.le_refl _) _
    have HB2 : Hid (Below w.heap.size w (w1.alloc (Obj.cells #[.string uk, .bool un, .string uf, .int .i64 ur, .int .i64 ut, .int .i64 ub, .slice ka kl kc] 24))) := below_next HB1.out hB2
    clear hl hb1 hkl hh hB2 HB HS HB1
    by_cases h0 : p = []
    · have HE : Hid (D = none) := by
        show D = none
        have := HD.out
        simpa [h0] using this
      subst h0
      simp only [List.length_nil] at *
      go_wp2_with fail
      refine bodyPost_ret (v := .tuple #[.slice none 0 0, .bool false]) (by simp [results, Try.f14, go_sem]) rfl ?_
      rw [HE.out]
      exact ⟨GivesP.none, HB2.out⟩
    · have HE : Hid (D = some p.dropLast) := by
        show D = some p.dropLast
        have := HD.out
        simpa [h0] using this
      have hp0 : 0 < p.length := List.length_pos_iff.2 h0
      obtain ⟨pl, hpl0⟩ : ∃ pl, p.length = pl + 1 := ⟨p.length - 1, by omega⟩
      have hcut : SlP p.dropLast (.slice pa pl pc) (w1.alloc (Obj.cells #[.string uk, .bool un, .string uf, .int .i64 ur, .int .i64 ut, .int .i64 ub, .slice ka kl kc] 24)) := by
        obtain ⟨qa, qc, qe, q1, q2, q3, q4⟩ := HP.out _ HB2.out
        injection qe with e1 e2 e3
        subst e1 e3
        refine ⟨pa, pc, by simp [hpl0], ?_, q2, by simp; omega, q4⟩
        rw [List.dropLast_eq_take]
        exact q1.take _
      obtain ⟨qa, qc, qe, q1, q2, q3, q4⟩ := HP.out _ HB2.out
      injection qe with e1 e2 e3
      subst e1 e3
      clear q1 q2 e2 HD hp0 h0
      rw [hpl0] at q3 hpl hpl5 ⊢
      have k0 : ¬ (((pl + 1 : Nat) : Int) = 0) := by omega
      have k1 : IntKind.i64.wrap (((pl + 1 : Nat) : Int) - 1) = (pl : Int) := by rw [IntWalk.i64_in _ (by omega)]; omega
      have k2 : ¬ (pc : Int) < (pl : Int) := by omega
      obtain ⟨ca, cc, ce, c1, c2, c3, c4⟩ := hcut
      injection ce with e1 e2 e3
      subst e1 e3
      have hdl : p.dropLast.length = pl := by simp [hpl0]
      have hbs := HB2.out.size
      obtain ⟨i0, hi, hz0, hz1', hz2⟩ := info_parts infoI
      have hn1 : (p.dropLast.map encI).length = pl * 1 := by simp [hpl0]
      have hc2 : pa = none → pl = 0 ∧ pc = 0 := fun e => by have := c2 e; omega
      have hnews := news_of c1
      have HU : Hid (∀ u ∈ p.dropLast.map encI, u.oneCell' = true) := fun u hu => by obtain ⟨y2, _, rfl⟩ := List.mem_map.1 hu; rfl
      have HDL : Hid (p.dropLast.length = pl) := hdl
      clear e2 c1 c2 c3 c4 hdl hpl0
      generalize p.dropLast = dl at *
      go_wp2_with (at_builtin; refine wpList_append_any rfl _ _ 25 rfl w.heap.size 3 i0 _ 1 8 Try.underlying25 hi hz0 hz1' hz2 rfl (by decide) (.slice none 0 0) 0 [] rfl (World.ownsRow_nil _ _ _ _) pa pl pc (dl.map encI) rfl hc2 hn1 hnews HU.out (by unfold maxLen; omega) (by omega) hbs ?_)
      intro v w3 ho hg3
      have HR : Hid (OwnI w.heap.size dl v w3 ∧ Below w.heap.size w w3) := ⟨by rw [← HDL.out] at ho; simpa [OwnI] using ho, HB2.out.grown hg3 hbs (fun k e => by cases e)⟩
      clear ho hg3 HB2 hnews
      go_wp2_with fail
      refine bodyPost_ret (v := .tuple #[v, .bool true]) (by simp [results, Try.f14, go_sem]) rfl ?_
      rw [HE.out]
      exact ⟨GivesP.some HR.out.1, HR.out.2⟩
end Go.Proofs.Ytmkkjjhlppagpaa
