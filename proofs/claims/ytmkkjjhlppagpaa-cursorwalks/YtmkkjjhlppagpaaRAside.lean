/- The document's aside; its Right, Left. -/
import Derived.Test.YtmkkjjhlppagpaaRGo
namespace Go.Proofs.Ytmkkjjhlppagpaa
open Go.RowKit

theorem cells7_at {W : World} {P : Nat} {T : TypeId} {z : Nat × Nat} {a0 a1 a2 a3 a4 a5 a6 : Value} (h : W.heap[P]? = some (.cells #[a0, a1, a2, a3, a4, a5, a6] T z)) :
    W.cell? ⟨P, 0, none⟩ = some a0 ∧ W.cell? ⟨P, 1, none⟩ = some a1 ∧ W.cell? ⟨P, 2, none⟩ = some a2 ∧ W.cell? ⟨P, 3, none⟩ = some a3 ∧ W.cell? ⟨P, 4, none⟩ = some a4 ∧ W.cell? ⟨P, 5, none⟩ = some a5 ∧ W.cell? ⟨P, 6, none⟩ = some a6 := by
  refine ⟨?_, ?_, ?_, ?_, ?_, ?_, ?_⟩ <;> simp [World.cell?, h]
theorem asideN_up_none {t : Nd} {p : List Int} (d : Int) (h : upN t p = none) : asideN t p d = none := by
  by_cases h0 : p = []
  · subst h0; rfl
  · obtain ⟨q, i, rfl⟩ := snoc_of p h0
    have hs : (findN t (q ++ [i])).isSome = false := by
      unfold upN at h
      cases hq : (findN t (q ++ [i])).isSome with
      | false => rfl
      | true => rw [hq] at h; simp at h
    rw [findN_snoc_some] at hs
    rw [asideN_snoc]
    cases hx : findN t q with
    | none => rfl
    | some x => rw [hx] at hs; simp only at hs ⊢; simp [hs]
/-- Behind Up: the kid aside is there just if the path to it leads to a node. -/
theorem asideN_up_some {t : Nd} {p q : List Int} (d : Int) (h : upN t p = some q) : ∃ i : Int, p = q ++ [i] ∧ 0 ≤ i ∧ i ≤ cntN t ∧ q.length ≤ cntN t ∧ asideN t p d = if (findN t (q ++ [i + d])).isSome = true then some (q ++ [i + d]) else none := by
  unfold upN at h
  split at h
  · rename_i hc
    obtain ⟨q', i, rfl⟩ := snoc_of p hc.2
    rw [List.dropLast_concat] at h
    obtain rfl := Option.some.inj h
    have hs := hc.1
    rw [findN_snoc_some] at hs
    cases hx : findN t q' with
    | none => rw [hx] at hs; cases hs
    | some x =>
      rw [hx] at hs
      simp only at hs
      have hi := hasI_iff.1 hs
      have hl := findN_len q' t x hx
      have hk := cntL_len x.kids
      have hm := cntN_mk x
      refine ⟨i, rfl, hi.1, by omega, by omega, ?_⟩
      rw [asideN_snoc, findN_snoc_some, hx]
      simp [hs]
  · cases h

set_option maxRecDepth 100000 in
set_option maxHeartbeats 4000000 in
theorem raside_any {A : Nat → Prop} (n : Nat) (t : Nd) (v : Value) (p : List Int) (pv : Value) (d : Int) (w : World) (hd1 : -1 ≤ d) (hd2 : d ≤ 1) (h : TAt A n t v w) (hc : cntN t ≤ 5000) (hp : SlP p pv w) (hpl : p.length ≤ 140737488351232) :
    Calls Try.prog 34 #[v, pv, .int .i64 d] w fun e w' => GivesP w.heap.size (asideN t p d) e w' ∧ Below w.heap.size w w' := by
  have HP : Hid (∀ W, Below w.heap.size w W → SlP p pv W) := fun W hb => hp.next hb
  obtain ⟨ba, bc, rfl, _⟩ := h.val
  obtain ⟨W0, hW0⟩ : ∃ W0, W0 = w.alloc (Obj.cells #[.string t.h.kind, .bool t.h.named, .string t.h.field, .int .i64 t.h.frm, .int .i64 t.h.to, .int .i64 t.h.bad, .slice ba t.kids.length bc] 24) := ⟨_, rfl⟩
  have hB0 : Below w.heap.size w W0 := by rw [hW0]; exact (Below.refl _ _).alloc (Nat.le_refl _) _
  have hb0 : W0.heap[w.heap.size]? = some (.cells #[.string t.h.kind, .bool t.h.named, .string t.h.field, .int .i64 t.h.frm, .int .i64 t.h.to, .int .i64 t.h.bad, .slice ba t.kids.length bc] 24 (0, 0)) := by rw [hW0]; exact World.alloc_heap_new w _
  have hl := rup_any n t _ p pv W0 (h.next hB0) hc (hp.next hB0) hpl
  have HB : Hid (Below w.heap.size w W0) := hB0
  have HFI : Hid (∀ W, Below w.heap.size w W → ∀ (q : List Int) (qv : Value), SlP q qv W → q.length ≤ 140737488351232 → Calls Try.prog 28 #[ndV t.h (.slice ba t.kids.length bc), qv] W fun e w' => (∃ hd ka kl kc, e = .returned (.tuple #[ndV hd (.slice ka kl kc), .bool (findN t q).isSome])) ∧ Below W.heap.size W w') := fun W hW q qv hq hql => (rfind_call n t _ q qv W (h.next hW) hc hq hql).mono (fun e w' ⟨⟨hd, ka, kl, kc, e1, _⟩, hb⟩ => ⟨⟨hd, ka, kl, kc, e1⟩, hb⟩)
  have HUN : Hid (upN t p = none → asideN t p d = none) := asideN_up_none d
  have HUS : Hid (∀ q, upN t p = some q → ∃ i : Int, p = q ++ [i] ∧ 0 ≤ i ∧ i ≤ cntN t ∧ q.length ≤ cntN t ∧ asideN t p d = if (findN t (q ++ [i + d])).isSome = true then some (q ++ [i + d]) else none) := fun q => asideN_up_some d
  have HPS : Hid (SlP p pv w) := hp
  obtain ⟨pa, pc, rfl, _⟩ := hp
  have HC : Hid (cntN t ≤ 5000 ∧ W0.heap.size = w.heap.size + 1) := ⟨hc, by rw [hW0]; simp⟩
  have hsz : w.heap.size < W0.heap.size := by rw [hW0]; simp
  clear h hB0 hc
  rw [hW0] at hl
  generalize asideN t p d = D at *
  unfold ndV at *
  go_enter Try.func34, Try.ntmps34
  go_wp2_with fail
  refine hl.mono ?_
  rw [← hW0]
  rintro e w1 ⟨⟨uv, rfl, hv⟩, hb1⟩
  clear hl hW0
  have HB1 : Hid (Below w.heap.size w w1) := below_next HB.out hb1
  have hb1' := (hb1.block _ hsz).trans hb0
  have HSZ : Hid (w.heap.size < w1.heap.size) := Nat.lt_of_lt_of_le hsz hb1.size
  clear hb1 hb0 hsz
  cases hU : upN t p with
  | none =>
    rw [hU] at hv
    have HE : Hid (D = none) := HUN.out hU
    clear HUN HUS hv
    go_wp2_with fail
    refine bodyPost_ret (v := .tuple #[.slice none 0 0, .bool false]) (by simp [results, Try.f34, go_sem]) rfl ?_
    rw [HE.out]
    exact ⟨GivesP.none, HB1.out⟩
  | some q =>
    obtain ⟨i, hpe, hi0, hi1, hq1, hDD⟩ := HUS.out q hU
    rw [hU] at hv
    simp only [Option.getD_some] at hv
    have HDD : Hid (D = if (findN t (q ++ [i + d])).isSome = true then some (q ++ [i + d]) else none) := hDD
    have hq5 : q.length ≤ 5000 := by have := HC.out; omega
    have hplen : p.length = q.length + 1 := by rw [hpe]; simp
    obtain ⟨qa, qc, qe, r1, r2, r3, r4⟩ := HP.out _ HB1.out
    injection qe with e1 e2 e3
    subst e1 e3
    obtain ⟨b, off, rfl, hbl, pcell⟩ := r1 q.length i (by rw [hpe]; simp)
    have HQ : Hid (SlP q uv w1) := SlP.of_own hv
    obtain ⟨s, hs⟩ : ∃ s, i + d = s := ⟨_, rfl⟩
    have hw1 : IntKind.i64.wrap (i + d) = s := by rw [IntWalk.i64_in _ (by have := HC.out; omega)]; exact hs
    rw [hs] at HDD
    have hwt := with_any q uv s w1 HQ.out (by omega)
    have HPL : Hid (p.length = q.length + 1) := hplen
    clear e2 r1 r2 hpe hDD HUN HUS hs hv hU
    rw [hplen] at r3 hpl ⊢
    have k1 : IntKind.i64.wrap (((q.length + 1 : Nat) : Int) - 1) = (q.length : Int) := by rw [IntWalk.i64_in _ (by omega)]; omega
    have k3 : (q.length : Int) < ((q.length + 1 : Nat) : Int) := by omega
    clear hplen
    go_wp2_with fail
    refine hwt.mono ?_
    rintro e w2 ⟨⟨wv, rfl, hwv⟩, hb2⟩
    have HB2 : Hid (Below w.heap.size w w2) := below_next HB1.out hb2
    have hb2' := (hb2.block _ HSZ.out).trans hb1'
    have HW : Hid (OwnI w.heap.size (q ++ [s]) wv w2) := own_base hwv HB1.out.size
    have hf := HFI.out w2 HB2.out (q ++ [s]) wv (SlP.of_own hwv) (by simp; omega)
    obtain ⟨v0, v1, v2, v3, v4, v5, v6⟩ := cells7_at hb2'
    clear hwt hwv hb2 hb1' pcell hb2'
    go_wp2_with fail
    refine hf.mono ?_
    rintro e w3 ⟨⟨hd, ka, kl, kc, rfl⟩, hb3⟩
    have HB3 : Hid (Below w.heap.size w w3 ∧ OwnI w.heap.size (q ++ [s]) wv w3) := ⟨below_next HB2.out hb3, ownsRow_next HW.out hb3⟩
    clear hf hb3 HFI v0 v1 v2 v3 v4 v5 v6
    cases hF : (findN t (q ++ [s])).isSome with
    | true =>
      have HE : Hid (D = some (q ++ [s])) := by
        show D = some (q ++ [s])
        have := HDD.out
        rw [hF] at this
        simpa using this
      go_wp2_with fail
      refine bodyPost_ret (v := .tuple #[wv, .bool true]) (by simp [results, Try.f34, go_sem]) rfl ?_
      rw [HE.out]
      exact ⟨GivesP.some HB3.out.2, HB3.out.1⟩
    | false =>
      have HE : Hid (D = none) := by
        show D = none
        have := HDD.out
        rw [hF] at this
        simpa using this
      go_wp2_with fail
      refine bodyPost_ret (v := .tuple #[.slice none 0 0, .bool false]) (by simp [results, Try.f34, go_sem]) rfl ?_
      rw [HE.out]
      exact ⟨GivesP.none, HB3.out.1⟩

set_option maxRecDepth 100000 in
set_option maxHeartbeats 2000000 in
theorem rright_any {A : Nat → Prop} (n : Nat) (t : Nd) (v : Value) (p : List Int) (pv : Value) (w : World) (h : TAt A n t v w) (hc : cntN t ≤ 5000) (hp : SlP p pv w) (hpl : p.length ≤ 140737488351232) :
    Calls Try.prog 16 #[v, pv] w fun e w' => GivesP w.heap.size (asideN t p (1)) e w' ∧ Below w.heap.size w w' := by
  obtain ⟨ba, bc, rfl, _⟩ := h.val
  have hB0 : Below w.heap.size w (w.alloc (Obj.cells #[.string t.h.kind, .bool t.h.named, .string t.h.field, .int .i64 t.h.frm, .int .i64 t.h.to, .int .i64 t.h.bad, .slice ba t.kids.length bc] 24)) := (Below.refl _ _).alloc (Nat.le_refl _) _
  have hl := raside_any n t _ p pv (1) _ (by decide) (by decide) (h.next hB0) hc (hp.next hB0) hpl
  have HB : Hid _ := hB0
  clear h hB0 hc
  obtain ⟨pa, pc, rfl, _⟩ := hp
  generalize asideN t p (1) = D at *
  generalize t.h = hd at *
  generalize t.kids.length = tl at *
  obtain ⟨zk, zn, zf, zr, zt, zb⟩ := hd
  unfold ndV at *
  simp only at *
  go_enter Try.func16, Try.ntmps16
  go_wp2_with fail
  refine hl.mono ?_
  rintro e w1 ⟨⟨v, rfl, hv⟩, hb1⟩
  have HR : Hid (OwnI w.heap.size (D.getD []) v w1 ∧ Below w.heap.size w w1) := ⟨own_base hv HB.out.size, below_next HB.out hb1⟩
  clear hl hv hb1 HB
  go_wp2_with fail
  exact bodyPost_ret (v := .tuple #[v, .bool D.isSome]) (by simp [results, Try.f16, go_sem]) rfl ⟨⟨v, rfl, HR.out.1⟩, HR.out.2⟩

set_option maxRecDepth 100000 in
set_option maxHeartbeats 2000000 in
theorem rleft_any {A : Nat → Prop} (n : Nat) (t : Nd) (v : Value) (p : List Int) (pv : Value) (w : World) (h : TAt A n t v w) (hc : cntN t ≤ 5000) (hp : SlP p pv w) (hpl : p.length ≤ 140737488351232) :
    Calls Try.prog 18 #[v, pv] w fun e w' => GivesP w.heap.size (asideN t p (-1)) e w' ∧ Below w.heap.size w w' := by
  obtain ⟨ba, bc, rfl, _⟩ := h.val
  have hB0 : Below w.heap.size w (w.alloc (Obj.cells #[.string t.h.kind, .bool t.h.named, .string t.h.field, .int .i64 t.h.frm, .int .i64 t.h.to, .int .i64 t.h.bad, .slice ba t.kids.length bc] 24)) := (Below.refl _ _).alloc (Nat.le_refl _) _
  have hl := raside_any n t _ p pv (-1) _ (by decide) (by decide) (h.next hB0) hc (hp.next hB0) hpl
  have HB : Hid _ := hB0
  clear h hB0 hc
  obtain ⟨pa, pc, rfl, _⟩ := hp
  generalize asideN t p (-1) = D at *
  generalize t.h = hd at *
  generalize t.kids.length = tl at *
  obtain ⟨zk, zn, zf, zr, zt, zb⟩ := hd
  unfold ndV at *
  simp only at *
  go_enter Try.func18, Try.ntmps18
  go_wp2_with fail
  refine hl.mono ?_
  rintro e w1 ⟨⟨v, rfl, hv⟩, hb1⟩
  have HR : Hid (OwnI w.heap.size (D.getD []) v w1 ∧ Below w.heap.size w w1) := ⟨own_base hv HB.out.size, below_next HB.out hb1⟩
  clear hl hv hb1 HB
  go_wp2_with fail
  exact bodyPost_ret (v := .tuple #[v, .bool D.isSome]) (by simp [results, Try.f18, go_sem]) rfl ⟨⟨v, rfl, HR.out.1⟩, HR.out.2⟩
end Go.Proofs.Ytmkkjjhlppagpaa
