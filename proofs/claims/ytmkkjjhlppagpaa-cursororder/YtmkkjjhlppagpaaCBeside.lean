/- beside; Right, Left. -/
import Derived.Test.YtmkkjjhlppagpaaCUp
namespace Go.Proofs.Ytmkkjjhlppagpaa
open Go.RowKit

set_option maxRecDepth 100000 in
set_option maxHeartbeats 4000000 in
theorem beside_any {A : Nat → Prop} (n : Nat) (t : Nd) (v : Value) (p : List Int) (pv : Value) (d : Int) (w : World) (hd1 : -1 ≤ d) (hd2 : d ≤ 1) (h : TAt A n t v w) (hc : cntN t ≤ 5000) (hp : SlP p pv w) (hpl : p.length ≤ 140737488351232) :
    Calls Try.prog 33 #[v, pv, .int .i64 d] w fun e w' => GivesP w.heap.size (asideN t p d) e w' ∧ Below w.heap.size w w' := by
  have HP : Hid (∀ W, Below w.heap.size w W → SlP p pv W) := fun W hb => hp.next hb
  obtain ⟨ba, bc, rfl, _⟩ := h.val
  have hB0 : Below w.heap.size w (w.alloc (Obj.cells #[.string t.h.kind, .bool t.h.named, .string t.h.field, .int .i64 t.h.frm, .int .i64 t.h.to, .int .i64 t.h.bad, .slice ba t.kids.length bc] 24)) := (Below.refl _ _).alloc (Nat.le_refl _) _
  have hb7 := World.alloc_heap_new w (Obj.cells #[.string t.h.kind, .bool t.h.named, .string t.h.field, .int .i64 t.h.frm, .int .i64 t.h.to, .int .i64 t.h.bad, .slice ba t.kids.length bc] 24)
  have HT : Hid (∀ W, Below w.heap.size w W → ∀ (q : List Int) (qv : Value), SlP q qv W → q.length ≤ 140737488351232 → _) := fun W hW q qv hq hql => lead_call n t _ q qv W (h.next hW) hc hq hql
  obtain ⟨pa, pc, rfl, hrow, hpn, hpc, hpm⟩ := hp
  by_cases h0 : p = []
  · subst h0
    have HE : Hid (asideN t [] d = none) := rfl
    have HB : Hid _ := hB0
    generalize asideN t [] d = D at *
    clear h hb7 HT hrow
    generalize t.h = hd at *
    generalize t.kids.length = tl at *
    obtain ⟨zk, zn, zf, zr, zt, zb⟩ := hd
    unfold ndV at *
    simp only [List.length_nil] at *
    go_enter Try.func33, Try.ntmps33
    go_wp2_with fail
    refine bodyPost_ret (v := .tuple #[.slice none 0 0, .bool false]) (by simp [results, Try.f33, go_sem]) rfl ?_
    rw [HE.out]
    exact ⟨GivesP.none, HB.out⟩
  obtain ⟨q, i, rfl⟩ := snoc_of p h0
  have HD : Hid (asideN t (q ++ [i]) d = match findN t q with
    | none => none
    | some x => if hasI x i = true ∧ hasI x (i + d) = true then some (q ++ [i + d]) else none) := asideN_snoc t q i d
  generalize asideN t (q ++ [i]) d = D at *
  have hln : (q ++ [i]).length = q.length + 1 := by simp
  rw [hln] at hpl hpc ⊢
  obtain ⟨b, off, rfl, hbl, hcell⟩ := hrow q.length i (by simp)
  have HQ : Hid (∀ W, Below w.heap.size w W → SlP q (.slice (some ⟨b, off, none⟩) q.length pc) W) := fun W hW => by
    refine ⟨_, pc, rfl, fun k x hx => ?_, (fun h => by cases h), by omega, hpm⟩
    have hk : k < q.length := (List.getElem?_eq_some_iff.1 hx).1
    exact (hrow.next hW) k x (by rw [List.getElem?_append_left hk]; exact hx)
  have HQL : Hid (∀ x, findN t q = some x → q.length ≤ 5000) := fun x hx => by have := findN_len q t x hx; omega
  have HT2 : Hid (∀ W, Below w.heap.size w W → Calls Try.prog 29 #[ndV t.h (.slice ba t.kids.length bc), .slice (some ⟨b, off, none⟩) q.length pc] W fun e w' => (∃ hd ka kl kc, e = .returned (.tuple #[ndV hd (.slice ka kl kc), .bool (findN t q).isSome]) ∧ hd = ((findN t q).getD zeroN).h ∧ kl = ((findN t q).getD zeroN).kids.length ∧ kl ≤ 140737488351232 ∧ (∃ m, TAt (fun _ => True) m ((findN t q).getD zeroN) (ndV hd (.slice ka kl kc)) w')) ∧ Below W.heap.size W w') := fun W hW => HT.out W hW q _ (HQ.out W hW) (by omega)
  have hcl := (hB0.cell (p := ⟨b, off + q.length, none⟩) hbl).trans hcell
  have HB : Hid _ := hB0
  have HS : Hid (w.heap.size < (w.alloc (Obj.cells #[.string t.h.kind, .bool t.h.named, .string t.h.field, .int .i64 t.h.frm, .int .i64 t.h.to, .int .i64 t.h.bad, .slice ba t.kids.length bc] 24)).heap.size) := by show _ < _; simp
  clear h HT hrow hB0 hcell hbl h0 hln HP hpn hc
  generalize t.h = hd at *
  generalize t.kids.length = tl at *
  obtain ⟨zk, zn, zf, zr, zt, zb⟩ := hd
  unfold ndV at HT2 ⊢
  simp only at *
  have k0 : ¬ (((q.length + 1 : Nat) : Int) = 0) := by omega
  have k1 : IntKind.i64.wrap (((q.length + 1 : Nat) : Int) - 1) = (q.length : Int) := by rw [IntWalk.i64_in _ (by omega)]; omega
  have k2 : ¬ (pc : Int) < (q.length : Int) := by omega
  have k3 : (q.length : Int) < ((q.length + 1 : Nat) : Int) := by omega
  go_enter Try.func33, Try.ntmps33
  go_wp2_with fail
  go_quiet (fail)
  have HBQ : Hid (Below w.heap.size w ((w.alloc (Obj.cells #[.string zk, .bool zn, .string zf, .int .i64 zr, .int .i64 zt, .int .i64 zb, .slice ba tl bc] 24)).drewN nq)) := below_drewN HB.out nq
  have hl := HT2.out _ HBQ.out
  clear HT2 hcl HB
  go_wp2_with fail
  refine hl.mono ?_
  rintro e w1 ⟨⟨hd1, ka, kl, kc, rfl, hh, hkl, hk, _⟩, hb1⟩
  generalize hF : findN t q = F at *
  cases F with
  | none =>
    have HE : Hid (D = none) := HD.out
    have HB1 : Hid (Below w.heap.size w w1) := below_next HBQ.out hb1
    obtain ⟨uk, un, uf, ur, ut, ub⟩ := hd1
    clear hl hb1 HD hkl hh hb7 k1 k2
    go_wp2_with fail
    refine bodyPost_ret (v := .tuple #[.slice none 0 0, .bool false]) (by simp [results, Try.f33, go_sem]) rfl ?_
    rw [HE.out]
    exact ⟨GivesP.none, HB1.out.alloc (by have := HB1.out.size; omega) _⟩
  | some x =>
    have hpl5 := HQL.out x rfl
    simp only [Option.getD_some] at hh hkl
    have HX : Hid (x.kids.length = kl) := hkl.symm
    obtain ⟨uk, un, uf, ur, ut, ub⟩ := hd1
    have HB2 : Hid (Below w.heap.size w (w1.alloc (Obj.cells #[.string uk, .bool un, .string uf, .int .i64 ur, .int .i64 ut, .int .i64 ub, .slice ka kl kc] 24))) := below_next (below_next HBQ.out hb1) ((Below.refl _ _).alloc (Nat.le_refl _) _)
    have hb8 := World.alloc_heap_new w1 (Obj.cells #[.string uk, .bool un, .string uf, .int .i64 ur, .int .i64 ut, .int .i64 ub, .slice ka kl kc] 24)
    have hhas := has_any ⟨uk, un, uf, ur, ut, ub⟩ ka kl kc i (w1.alloc (Obj.cells #[.string uk, .bool un, .string uf, .int .i64 ur, .int .i64 ut, .int .i64 ub, .slice ka kl kc] 24)) hk
    have HSZ : Hid (w1.heap.size < (w1.alloc (Obj.cells #[.string uk, .bool un, .string uf, .int .i64 ur, .int .i64 ut, .int .i64 ub, .slice ka kl kc] 24)).heap.size) := by show _ < _; simp
    clear hl hb1 hkl hh HBQ hb7
    unfold ndV at hhas
    simp only at hhas
    by_cases h1 : 0 ≤ i ∧ i < (kl : Int)
    · rw [decide_eq_true h1] at hhas
      have HI : Hid (0 ≤ i ∧ i < (kl : Int)) := h1
      have HDX : Hid (D = if hasI x (i + d) = true then some (q ++ [i + d]) else none) := by
        show D = if hasI x (i + d) = true then some (q ++ [i + d]) else none
        have := HD.out
        rw [this]
        simp only
        rw [show hasI x i = true from hasI_iff.2 ⟨h1.1, by have := HX.out; omega⟩]
        simp
      obtain ⟨s, hs⟩ : ∃ s, i + d = s := ⟨_, rfl⟩
      have hw : IntKind.i64.wrap (i + d) = s := by rw [IntWalk.i64_in _ (by omega)]; exact hs
      rw [hs] at HDX
      clear HD h1 hs
      go_wp2_with fail
      refine hhas.mono ?_
      rintro e w2 ⟨rfl, hb2⟩
      have hb9 := (hb2.block _ HSZ.out).trans hb8
      have d0 : w2.cell? ⟨w1.heap.size, 0, none⟩ = some (.string uk) := by simp [World.cell?, hb9]
      have d1 : w2.cell? ⟨w1.heap.size, 1, none⟩ = some (.bool un) := by simp [World.cell?, hb9]
      have d2 : w2.cell? ⟨w1.heap.size, 2, none⟩ = some (.string uf) := by simp [World.cell?, hb9]
      have d3 : w2.cell? ⟨w1.heap.size, 3, none⟩ = some (.int .i64 ur) := by simp [World.cell?, hb9]
      have d4 : w2.cell? ⟨w1.heap.size, 4, none⟩ = some (.int .i64 ut) := by simp [World.cell?, hb9]
      have d5 : w2.cell? ⟨w1.heap.size, 5, none⟩ = some (.int .i64 ub) := by simp [World.cell?, hb9]
      have d6 : w2.cell? ⟨w1.heap.size, 6, none⟩ = some (.slice ka kl kc) := by simp [World.cell?, hb9]
      have HB3 : Hid (Below w.heap.size w w2) := below_next HB2.out hb2
      have hhas2 := has_any ⟨uk, un, uf, ur, ut, ub⟩ ka kl kc s w2 hk
      unfold ndV at hhas2
      simp only at hhas2
      clear hhas hb2 HB2 hb8 hb9 HSZ
      by_cases h2 : 0 ≤ s ∧ s < (kl : Int)
      · rw [decide_eq_true h2] at hhas2
        have HE : Hid (D = some (q ++ [s])) := by
          show D = some (q ++ [s])
          have := HDX.out
          rw [show hasI x s = true from hasI_iff.2 ⟨h2.1, by have := HX.out; omega⟩] at this
          simpa using this
        clear HDX h2
        go_wp2_with fail
        refine hhas2.mono ?_
        rintro e w3 ⟨rfl, hb3⟩
        have HB5 : Hid (Below w.heap.size w (w3.alloc (Obj.cells #[.int .i64 s] 3))) := below_next (below_next HB3.out hb3) ((Below.refl _ _).alloc (Nat.le_refl _) _)
        have ht := told_any q [s] _ _ _ (HQ.out _ HB5.out) (SlP.one (W := w3) s) (by omega) (by simp)
        clear hhas2 hb3 HB3 d0 d1 d2 d3 d4 d5 d6
        go_wp2_with fail
        refine ht.mono ?_
        rintro e w4 ⟨⟨v, rfl, hv⟩, hb4⟩
        have HR : Hid (OwnI w.heap.size (q ++ [s]) v w4 ∧ Below w.heap.size w w4) := ⟨own_base hv HB5.out.size, below_next HB5.out hb4⟩
        clear ht hv hb4 HB5
        go_wp2_with fail
        refine bodyPost_ret (v := .tuple #[v, .bool true]) (by simp [results, Try.f33, go_sem]) rfl ?_
        rw [HE.out]
        exact ⟨GivesP.some HR.out.1, HR.out.2⟩
      · rw [decide_eq_false h2] at hhas2
        have HE : Hid (D = none) := by
          show D = none
          have := HDX.out
          rw [show hasI x s = false from by cases hq : hasI x s with
            | false => rfl
            | true => exact absurd (hasI_iff.1 hq) (by have := HX.out; omega)] at this
          simpa using this
        clear HDX h2
        go_wp2_with fail
        refine hhas2.mono ?_
        rintro e w3 ⟨rfl, hb3⟩
        have HB5 : Hid (Below w.heap.size w w3) := below_next HB3.out hb3
        clear hhas2 hb3 HB3 d0 d1 d2 d3 d4 d5 d6
        go_wp2_with fail
        refine bodyPost_ret (v := .tuple #[.slice none 0 0, .bool false]) (by simp [results, Try.f33, go_sem]) rfl ?_
        rw [HE.out]
        exact ⟨GivesP.none, HB5.out⟩
    · rw [decide_eq_false h1] at hhas
      have HE : Hid (D = none) := by
        show D = none
        have := HD.out
        rw [this]
        simp only
        rw [show hasI x i = false from by cases hq : hasI x i with
          | false => rfl
          | true => exact absurd (hasI_iff.1 hq) (by have := HX.out; omega)]
        simp
      clear HD h1
      go_wp2_with fail
      refine hhas.mono ?_
      rintro e w2 ⟨rfl, hb2⟩
      have HB3 : Hid (Below w.heap.size w w2) := below_next HB2.out hb2
      clear hhas hb2 HB2 hb8
      go_wp2_with fail
      refine bodyPost_ret (v := .tuple #[.slice none 0 0, .bool false]) (by simp [results, Try.f33, go_sem]) rfl ?_
      rw [HE.out]
      exact ⟨GivesP.none, HB3.out⟩

set_option maxRecDepth 100000 in
set_option maxHeartbeats 2000000 in
theorem right_any {A : Nat → Prop} (n : Nat) (t : Nd) (v : Value) (p : List Int) (pv : Value) (w : World) (h : TAt A n t v w) (hc : cntN t ≤ 5000) (hp : SlP p pv w) (hpl : p.length ≤ 140737488351232) :
    Calls Try.prog 15 #[v, pv] w fun e w' => GivesP w.heap.size (asideN t p (1)) e w' ∧ Below w.heap.size w w' := by
  obtain ⟨ba, bc, rfl, _⟩ := h.val
  have hB0 : Below w.heap.size w (w.alloc (Obj.cells #[.string t.h.kind, .bool t.h.named, .string t.h.field, .int .i64 t.h.frm, .int .i64 t.h.to, .int .i64 t.h.bad, .slice ba t.kids.length bc] 24)) := (Below.refl _ _).alloc (Nat.le_refl _) _
  have hl := beside_any n t _ p pv (1) _ (by decide) (by decide) (h.next hB0) hc (hp.next hB0) hpl
  have HB : Hid _ := hB0
  clear h hB0 hc
  obtain ⟨pa, pc, rfl, _⟩ := hp
  generalize asideN t p (1) = D at *
  generalize t.h = hd at *
  generalize t.kids.length = tl at *
  obtain ⟨zk, zn, zf, zr, zt, zb⟩ := hd
  unfold ndV at *
  simp only at *
  go_enter Try.func15, Try.ntmps15
  go_wp2_with fail
  refine hl.mono ?_
  rintro e w1 ⟨⟨v, rfl, hv⟩, hb1⟩
  have HR : Hid (OwnI w.heap.size (D.getD []) v w1 ∧ Below w.heap.size w w1) := ⟨own_base hv HB.out.size, below_next HB.out hb1⟩
  clear hl hv hb1 HB
  go_wp2_with fail
  exact bodyPost_ret (v := .tuple #[v, .bool D.isSome]) (by simp [results, Try.f15, go_sem]) rfl ⟨⟨v, rfl, HR.out.1⟩, HR.out.2⟩

set_option maxRecDepth 100000 in
set_option maxHeartbeats 2000000 in
theorem left_any {A : Nat → Prop} (n : Nat) (t : Nd) (v : Value) (p : List Int) (pv : Value) (w : World) (h : TAt A n t v w) (hc : cntN t ≤ 5000) (hp : SlP p pv w) (hpl : p.length ≤ 140737488351232) :
    Calls Try.prog 17 #[v, pv] w fun e w' => GivesP w.heap.size (asideN t p (-1)) e w' ∧ Below w.heap.size w w' := by
  obtain ⟨ba, bc, rfl, _⟩ := h.val
  have hB0 : Below w.heap.size w (w.alloc (Obj.cells #[.string t.h.kind, .bool t.h.named, .string t.h.field, .int .i64 t.h.frm, .int .i64 t.h.to, .int .i64 t.h.bad, .slice ba t.kids.length bc] 24)) := (Below.refl _ _).alloc (Nat.le_refl _) _
  have hl := beside_any n t _ p pv (-1) _ (by decide) (by decide) (h.next hB0) hc (hp.next hB0) hpl
  have HB : Hid _ := hB0
  clear h hB0 hc
  obtain ⟨pa, pc, rfl, _⟩ := hp
  generalize asideN t p (-1) = D at *
  generalize t.h = hd at *
  generalize t.kids.length = tl at *
  obtain ⟨zk, zn, zf, zr, zt, zb⟩ := hd
  unfold ndV at *
  simp only at *
  go_enter Try.func17, Try.ntmps17
  go_wp2_with fail
  refine hl.mono ?_
  rintro e w1 ⟨⟨v, rfl, hv⟩, hb1⟩
  have HR : Hid (OwnI w.heap.size (D.getD []) v w1 ∧ Below w.heap.size w w1) := ⟨own_base hv HB.out.size, below_next HB.out hb1⟩
  clear hl hv hb1 HB
  go_wp2_with fail
  exact bodyPost_ret (v := .tuple #[v, .bool D.isSome]) (by simp [results, Try.f17, go_sem]) rfl ⟨⟨v, rfl, HR.out.1⟩, HR.out.2⟩
end Go.Proofs.Ytmkkjjhlppagpaa
