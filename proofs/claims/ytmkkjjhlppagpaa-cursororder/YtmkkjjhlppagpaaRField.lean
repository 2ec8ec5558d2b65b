/- The document's Field. -/
import Derived.Test.YtmkkjjhlppagpaaRNext
namespace Go.Proofs.Ytmkkjjhlppagpaa
open Go.RowKit

theorem fieldI_yes {x : Nd} {f : ByteArray} {j : Nat} (hj : j < x.kids.length) (h : decide (x.kids[j].h.field = f) = true) (hb : ∀ i (hi : i < x.kids.length), i < j → decide (x.kids[i].h.field = f) = false) : fieldI x f = some j :=
  List.findIdx?_eq_some_iff_getElem.2 ⟨hj, h, fun i hi => by have := hb i (by omega) hi; simp only [this]; decide⟩
theorem fieldI_no {x : Nd} {f : ByteArray} (hb : ∀ i (hi : i < x.kids.length), decide (x.kids[i].h.field = f) = false) : fieldI x f = none :=
  List.findIdx?_eq_none_iff.2 (fun y hy => by obtain ⟨i, hi, rfl⟩ := List.getElem_of_mem hy; exact hb i hi)

set_option maxRecDepth 100000 in
set_option maxHeartbeats 4000000 in
theorem rfield_any {A : Nat → Prop} (n : Nat) (t : Nd) (v : Value) (p : List Int) (pv : Value) (f : ByteArray) (w : World) (h : TAt A n t v w) (hc : cntN t ≤ 5000) (hp : SlP p pv w) (hpl : p.length ≤ 140737488351232) :
    Calls Try.prog 22 #[v, pv, .string f] w fun e w' => GivesP w.heap.size (fieldN t p f) e w' ∧ Below w.heap.size w w' := by
  have HP : Hid (∀ W, Below w.heap.size w W → SlP p pv W) := fun W hb => hp.next hb
  obtain ⟨ba, bc, rfl, _⟩ := h.val
  obtain ⟨W0, hW0⟩ : ∃ W0, W0 = w.alloc (Obj.cells #[.string t.h.kind, .bool t.h.named, .string t.h.field, .int .i64 t.h.frm, .int .i64 t.h.to, .int .i64 t.h.bad, .slice ba t.kids.length bc] 24) := ⟨_, rfl⟩
  have hB0 : Below w.heap.size w W0 := by rw [hW0]; exact (Below.refl _ _).alloc (Nat.le_refl _) _
  have hl := rfind_call n t _ p pv W0 (h.next hB0) hc (hp.next hB0) hpl
  have HB : Hid (Below w.heap.size w W0) := hB0
  have HL : Hid (∀ x, findN t p = some x → p.length ≤ 5000) := fun x hx => by have := findN_len p t x hx; omega
  have HD : Hid (fieldN t p f = match findN t p with
    | none => none
    | some x => (fieldI x f).map (fun (i : Nat) => p ++ [(i : Int)])) := rfl
  generalize fieldN t p f = D at *
  obtain ⟨pa, pc, rfl, _⟩ := hp
  clear h hB0 hc
  rw [hW0] at hl
  unfold ndV at *
  go_enter Try.func22, Try.ntmps22
  go_wp2_with fail
  refine hl.mono ?_
  rw [← hW0]
  rintro e w1 ⟨⟨hd1, ka, kl, kc, rfl, hh, hkl, hk, m, hT⟩, hb1⟩
  clear hl hW0
  have HB1 : Hid (Below w.heap.size w w1) := below_next HB.out hb1
  generalize hF : findN t p = F at *
  cases F with
  | none =>
    have HE : Hid (D = none) := HD.out
    obtain rfl : kl = 0 := hkl
    obtain ⟨uk, un, uf, ur, ut, ub⟩ := hd1
    clear hb1 HD hh hT
    have HB2 : Hid (Below w.heap.size w (w1.alloc (Obj.cells #[.string uk, .bool un, .string uf, .int .i64 ur, .int .i64 ut, .int .i64 ub, .slice ka 0 kc] 24))) := HB1.out.alloc HB1.out.size _
    have hb2 := World.alloc_heap_new w1 (Obj.cells #[.string uk, .bool un, .string uf, .int .i64 ur, .int .i64 ut, .int .i64 ub, .slice ka 0 kc] 24)
    go_wp2_with fail
    generalize w1.alloc (Obj.cells #[.string uk, .bool un, .string uf, .int .i64 ur, .int .i64 ut, .int .i64 ub, .slice ka 0 kc] 24) = W2 at *
    generalize w1.heap.size = B2 at *
    have HBX : Hid _ := hb2
    clear hb2
    go_loopw [10] (fun c wr => c = .int .i64 0 ∧ wr = W2) (fun _ _ => 0)
    case atStart => exact ⟨rfl, rfl⟩
    case round =>
      obtain ⟨rfl, hwr⟩ := hrel
      obtain rfl : W2 = wr := hwr.symm
      clear hwr
      obtain ⟨v0, v1, v2, v3, v4, v5, v6⟩ := cells7_at HBX.out
      go_wp2_with fail
      refine bodyPost_ret (v := .tuple #[.slice none 0 0, .bool false]) (by simp [results, Try.f22, go_sem]) rfl ?_
      rw [HE.out]
      exact ⟨GivesP.none, HB2.out⟩
  | some x =>
    have hpl5 := HL.out x rfl
    simp only [Option.getD_some] at hh hkl hT
    subst hh hkl
    obtain ⟨m2, q1, q2, q3, _, hxl, hKx⟩ := TAt.succ hT
    have HB2 : Hid (Below w.heap.size w (w1.alloc (Obj.cells #[.string x.h.kind, .bool x.h.named, .string x.h.field, .int .i64 x.h.frm, .int .i64 x.h.to, .int .i64 x.h.bad, .slice ka x.kids.length kc] 24))) := HB1.out.alloc HB1.out.size _
    have hb2 := World.alloc_heap_new w1 (Obj.cells #[.string x.h.kind, .bool x.h.named, .string x.h.field, .int .i64 x.h.frm, .int .i64 x.h.to, .int .i64 x.h.bad, .slice ka x.kids.length kc] 24)
    have HDX : Hid (D = (fieldI x f).map (fun (i : Nat) => p ++ [(i : Int)])) := HD.out
    have HK : Hid (KidsAt (fun _ => True) m2 x.kids ka (w1.alloc (Obj.cells #[.string x.h.kind, .bool x.h.named, .string x.h.field, .int .i64 x.h.frm, .int .i64 x.h.to, .int .i64 x.h.bad, .slice ka x.kids.length kc] 24))) := KidsAt.next hKx ((Below.refl _ _).alloc (Nat.le_refl _) _)
    have HY : Hid (∀ j (hj : j < x.kids.length), decide (x.kids[j].h.field = f) = true → (∀ i (hi : i < x.kids.length), i < j → decide (x.kids[i].h.field = f) = false) → D = some (p ++ [(j : Int)])) := fun j hj h1 h2 => by
      rw [HDX.out, fieldI_yes hj h1 h2]; rfl
    have HN : Hid ((∀ i (hi : i < x.kids.length), decide (x.kids[i].h.field = f) = false) → D = none) := fun h => by
      rw [HDX.out, fieldI_no h]; rfl
    generalize x.kids = subs at *
    generalize x.h = xh at *
    obtain ⟨uk, un, uf, ur, ut, ub⟩ := xh
    clear hb1 HB HD hT hKx q1 q2 q3 HB1 HDX HL
    simp only at *
    go_wp2_with fail
    generalize w1.alloc (Obj.cells #[.string uk, .bool un, .string uf, .int .i64 ur, .int .i64 ut, .int .i64 ub, .slice ka subs.length kc] 24) = W2 at *
    generalize w1.heap.size = B2 at *
    have HBX : Hid _ := hb2
    clear hb2
    go_loopw [10] (fun c wr => ∃ j : Nat, c = .int .i64 j ∧ j ≤ subs.length ∧ wr = W2 ∧ Hid (∀ i (hi : i < subs.length), i < j → decide (subs[i].h.field = f) = false)) (fun c _ => subs.length - (intOf c).toNat)
    case atStart => exact ⟨0, rfl, Nat.zero_le _, rfl, fun i _ h => by omega⟩
    case round =>
      obtain ⟨j, rfl, hj, hwr, HF⟩ := hrel
      obtain rfl : W2 = wr := hwr.symm
      clear hwr
      obtain ⟨v0, v1, v2, v3, v4, v5, v6⟩ := cells7_at HBX.out
      by_cases hlt : j < subs.length
      · have k1 : (j : Int) < subs.length := by omega
        obtain ⟨b, off, ka2, kc2, rfl, _, hb, ⟨e0, e1, e2, e3, e4, e5, e6⟩, _⟩ := HK.out j subs[j] (by simp [hlt])
        have hbq := bytes_beq subs[j].h.field f
        cases hsb : decide (subs[j].h.field = f) with
        | true =>
          have HE : Hid (D = some (p ++ [(j : Int)])) := HY.out j hlt hsb HF.out
          rw [hsb] at hbq
          have ht := with_any p _ (j : Int) W2 (HP.out _ HB2.out) (by omega)
          clear HF HY HN HK hsb
          go_wp2_with fail
          refine ht.mono ?_
          rintro e w3 ⟨⟨v, rfl, hv⟩, hb3⟩
          have HR : Hid (OwnI w.heap.size (p ++ [(j : Int)]) v w3 ∧ Below w.heap.size w w3) := ⟨own_base hv HB2.out.size, below_next HB2.out hb3⟩
          clear ht hv hb3 HB2
          go_wp2_with fail
          refine bodyPost_ret (v := .tuple #[v, .bool true]) (by simp [results, Try.f22, go_sem]) rfl ?_
          rw [HE.out]
          exact ⟨GivesP.some HR.out.1, HR.out.2⟩
        | false =>
          have HF2 : Hid (∀ i (hi : i < subs.length), i < j + 1 → decide (subs[i].h.field = f) = false) := fun i hi h => by
            by_cases e : i = j
            · subst e; exact hsb
            · exact HF.out i hi (by omega)
          rw [hsb] at hbq
          clear HF HY HN HK hsb
          go_wp2_with fail
          exact ⟨⟨j + 1, by go_num, by omega, trivial, HF2⟩, by simp [intOf]; omega⟩
      · have k1 : ¬ (j : Int) < subs.length := by omega
        have HE : Hid (D = none) := HN.out (fun i hi => HF.out i hi (by omega))
        clear HF HY HN HK
        go_wp2_with fail
        refine bodyPost_ret (v := .tuple #[.slice none 0 0, .bool false]) (by simp [results, Try.f22, go_sem]) rfl ?_
        rw [HE.out]
        exact ⟨GivesP.none, HB2.out⟩
end Go.Proofs.Ytmkkjjhlppagpaa
