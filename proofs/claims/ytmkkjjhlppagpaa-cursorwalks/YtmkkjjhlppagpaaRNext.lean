/- The document's Next. -/
import Derived.Test.YtmkkjjhlppagpaaRAside
import Derived.Test.YtmkkjjhlppagpaaCNext
namespace Go.Proofs.Ytmkkjjhlppagpaa
open Go.RowKit

def upD (t : Nd) (q : List Int) : Option (List Int) := if (findN t q).isSome = true then upR t q else none
theorem upD_yes {t : Nd} {q r : List Int} (h : asideN t q 1 = some r) : upD t q = some r := by
  by_cases h0 : q = []
  · subst h0; cases h
  · obtain ⟨q', i, rfl⟩ := snoc_of q h0
    unfold upD
    rw [upR_snoc, h]
    have hs : (findN t (q' ++ [i])).isSome = true := by
      rw [findN_snoc_some]
      rw [asideN_snoc] at h
      cases hx : findN t q' with
      | none => rw [hx] at h; cases h
      | some x =>
        rw [hx] at h
        simp only at h ⊢
        split at h
        · rename_i hc; exact hc.1
        · cases h
    rw [hs]; rfl
theorem upD_up {t : Nd} {q q' : List Int} (h : asideN t q 1 = none) (hu : upN t q = some q') : upD t q = upD t q' ∧ q'.length < q.length := by
  unfold upN at hu
  split at hu
  · rename_i hc
    obtain ⟨r, i, rfl⟩ := snoc_of q hc.2
    rw [List.dropLast_concat] at hu
    obtain rfl := Option.some.inj hu
    refine ⟨?_, by simp⟩
    have hs := hc.1
    unfold upD
    rw [hs, upR_snoc, h]
    rw [findN_snoc_some] at hs
    cases hx : findN t r with
    | none => rw [hx] at hs; cases hs
    | some x => simp
  · cases hu
theorem upD_none {t : Nd} {q : List Int} (hu : upN t q = none) : upD t q = none := by
  unfold upN at hu
  unfold upD
  split
  · rename_i hs
    split at hu
    · cases hu
    · rename_i hc
      have : q = [] := by
        by_cases h0 : q = []
        · exact h0
        · exact absurd ⟨hs, h0⟩ hc
      subst this
      rfl
  · rfl
theorem nextN_down {t : Nd} {p : List Int} : nextN t p = (downN t p).or (upD t p) := by
  unfold nextN downN upD
  cases hx : findN t p with
  | none => rfl
  | some x =>
    simp only [Option.isSome_some, if_true]
    cases hasI x 0 with
    | true => simp
    | false => simp

set_option maxRecDepth 100000 in
set_option maxHeartbeats 4000000 in
theorem rnext_any {A : Nat → Prop} (n : Nat) (t : Nd) (v : Value) (p : List Int) (pv : Value) (w : World) (h : TAt A n t v w) (hc : cntN t ≤ 5000) (hp : SlP p pv w) (hpl : p.length ≤ 140737488351232) :
    Calls Try.prog 20 #[v, pv] w fun e w' => GivesP w.heap.size (nextN t p) e w' ∧ Below w.heap.size w w' := by
  obtain ⟨ba, bc, rfl, _⟩ := h.val
  obtain ⟨W0, hW0⟩ : ∃ W0, W0 = w.alloc (Obj.cells #[.string t.h.kind, .bool t.h.named, .string t.h.field, .int .i64 t.h.frm, .int .i64 t.h.to, .int .i64 t.h.bad, .slice ba t.kids.length bc] 24) := ⟨_, rfl⟩
  have hB0 : Below w.heap.size w W0 := by rw [hW0]; exact (Below.refl _ _).alloc (Nat.le_refl _) _
  have hb0 : W0.heap[w.heap.size]? = some (.cells #[.string t.h.kind, .bool t.h.named, .string t.h.field, .int .i64 t.h.frm, .int .i64 t.h.to, .int .i64 t.h.bad, .slice ba t.kids.length bc] 24 (0, 0)) := by rw [hW0]; exact World.alloc_heap_new w _
  have hl := rdown_any n t _ p pv W0 (h.next hB0) hc (hp.next hB0) hpl
  have HB : Hid (Below w.heap.size w W0) := hB0
  have HP0 : Hid (SlP p pv W0) := hp.next hB0
  have HR : Hid (∀ W, Below w.heap.size w W → ∀ (q : List Int) (qv : Value), SlP q qv W → q.length ≤ 140737488351232 → Calls Try.prog 16 #[ndV t.h (.slice ba t.kids.length bc), qv] W fun e w' => GivesP W.heap.size (asideN t q 1) e w' ∧ Below W.heap.size W w') := fun W hW q qv hq hql => rright_any n t _ q qv W (h.next hW) hc hq hql
  have HU : Hid (∀ W, Below w.heap.size w W → ∀ (q : List Int) (qv : Value), SlP q qv W → q.length ≤ 140737488351232 → Calls Try.prog 14 #[ndV t.h (.slice ba t.kids.length bc), qv] W fun e w' => GivesP W.heap.size (upN t q) e w' ∧ Below W.heap.size W w') := fun W hW q qv hq hql => rup_any n t _ q qv W (h.next hW) hc hq hql
  have HD : Hid (nextN t p = (downN t p).or (upD t p)) := nextN_down
  generalize nextN t p = D at *
  have hsz : w.heap.size < W0.heap.size := by rw [hW0]; simp
  have hb2 := hb0
  have HSZ : Hid (w.heap.size < W0.heap.size) := hsz
  obtain ⟨pa, pc, rfl, _⟩ := hp
  clear h hB0 hc
  rw [hW0] at hl
  have HBX : Hid _ := hb0
  clear hb0 hb2
  unfold ndV at *
  go_enter Try.func20, Try.ntmps20
  go_wp2_with fail
  refine hl.mono ?_
  rw [← hW0]
  rintro e w1 ⟨⟨uv, rfl, hv⟩, hb1⟩
  clear hl hW0
  have HB1 : Hid (Below w.heap.size w w1 ∧ Below W0.heap.size W0 w1) := ⟨below_next HB.out hb1, hb1⟩
  cases hU : downN t p with
  | some q =>
    rw [hU] at hv
    have HE : Hid (D = some q) := by
      show D = some q
      rw [HD.out, hU]; rfl
    have HV : Hid (OwnI w.heap.size q uv w1) := own_base hv HB.out.size
    clear hv hb1 HD hU
    go_wp2_with fail
    refine bodyPost_ret (v := .tuple #[uv, .bool true]) (by simp [results, Try.f20, go_sem]) rfl ?_
    rw [HE.out]
    exact ⟨GivesP.some HV.out, HB1.out.1⟩
  | none =>
    have HE0 : Hid (D = upD t p) := by
      show D = upD t p
      rw [HD.out, hU]; rfl
    have HP1 : Hid (SlP p (.slice pa p.length pc) w1) := HP0.out.next hb1
    clear hv hb1 HD hU HP0
    go_wp2_with fail
    go_loopw [1] (fun pv wr => ∃ q, Below w.heap.size w wr ∧ Below W0.heap.size W0 wr ∧ Hid (SlP q pv wr ∧ D = upD t q ∧ q.length ≤ 140737488351232)) (fun pv _ => match pv with | .slice _ k _ => k | _ => 0)
    case atStart => exact ⟨p, HB1.out.1, HB1.out.2, HP1.out, HE0.out, hpl⟩
    case round =>
      obtain ⟨q, hB, hB2, HQ⟩ := hrel
      obtain ⟨⟨qa, qc, rfl, _⟩, _, hql⟩ := id HQ.out
      obtain ⟨v0, v1, v2, v3, v4, v5, v6⟩ := cells7_at ((hB2.block _ HSZ.out).trans HBX.out)
      have hr := HR.out wr hB q _ HQ.out.1 hql
      go_wp2_with fail
      refine hr.mono ?_
      rintro e w2 ⟨⟨rv, rfl, hv⟩, hb2⟩
      have HB3 : Hid (Below w.heap.size w w2 ∧ Below W0.heap.size W0 w2) := ⟨below_next hB hb2, below_next hB2 hb2⟩
      cases hA : asideN t q 1 with
      | some r =>
        rw [hA] at hv
        have HE : Hid (D = some r) := by
          show D = some r
          rw [HQ.out.2.1, upD_yes hA]
        have HV : Hid (OwnI w.heap.size r rv w2) := own_base hv hB.size
        clear hv hb2 hr hA v0 v1 v2 v3 v4 v5 v6
        go_wp2_with fail
        refine bodyPost_ret (v := .tuple #[rv, .bool true]) (by simp [results, Try.f20, go_sem]) rfl ?_
        rw [HE.out]
        exact ⟨GivesP.some HV.out, HB3.out.1⟩
      | none =>
        have hu := HU.out w2 HB3.out.1 q _ (HQ.out.1.next hb2) hql
        have HA : Hid (asideN t q 1 = none) := hA
        clear hv hb2 hr hA v0 v1 v2 v3 v4 v5 v6
        obtain ⟨v0, v1, v2, v3, v4, v5, v6⟩ := cells7_at ((HB3.out.2.block _ HSZ.out).trans HBX.out)
        go_wp2_with fail
        refine hu.mono ?_
        rintro e w3 ⟨⟨uv2, rfl, hv⟩, hb3⟩
        have HB4 : Hid (Below w.heap.size w w3 ∧ Below W0.heap.size W0 w3) := ⟨below_next HB3.out.1 hb3, below_next HB3.out.2 hb3⟩
        cases hN : upN t q with
        | none =>
          have HE : Hid (D = none) := by
            show D = none
            rw [HQ.out.2.1, upD_none hN]
          clear hv hb3 hu hN v0 v1 v2 v3 v4 v5 v6
          go_wp2_with fail
          refine bodyPost_ret (v := .tuple #[.slice none 0 0, .bool false]) (by simp [results, Try.f20, go_sem]) rfl ?_
          rw [HE.out]
          exact ⟨GivesP.none, HB4.out.1⟩
        | some q' =>
          rw [hN] at hv
          obtain ⟨hq1, hq2⟩ := upD_up HA.out hN
          have hs := SlP.of_own hv
          obtain ⟨ca, cc, hce, hcr⟩ := hs
          simp only [Option.getD_some] at hce hcr
          subst hce
          have HQ2 : Hid (SlP q' (.slice ca q'.length cc) w3 ∧ D = upD t q' ∧ q'.length ≤ 140737488351232) := ⟨⟨ca, cc, rfl, hcr⟩, HQ.out.2.1.trans hq1, by omega⟩
          clear hv hb3 hu hN hcr hq1 v0 v1 v2 v3 v4 v5 v6
          go_wp2_with fail
          exact ⟨⟨q', HB4.out.1, HB4.out.2, HQ2.out⟩, hq2⟩
end Go.Proofs.Ytmkkjjhlppagpaa
