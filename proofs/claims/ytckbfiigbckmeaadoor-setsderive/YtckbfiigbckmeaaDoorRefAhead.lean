/- What begins items, by sets that are there: ahead and Ahead of the document. -/
import Derived.Test.YtckbfiigbckmeaaDoorRefFirst
namespace Go.Proofs.YtckbfiigbckmeaaDoor
open Go.RowKit

/-- What begins items: the rows of those that are symbols, up to the first that can not be empty; with `behind`, if all can. -/
def aheadL (N : Nat) (R : List (List Int)) (Le : List Bool) (behind : List Int) : List Int → List It → List Int
  | out, [] => unionL out behind
  | out, x :: t => if x.sym < 0 ∨ (N : Int) ≤ x.sym then aheadL N R Le behind out t else
      if onb Le x.sym.toNat then aheadL N R Le behind (unionL out (rowAt R x.sym.toNat)) t else unionL out (rowAt R x.sym.toNat)

set_option maxRecDepth 100000 in
set_option maxHeartbeats 3200000 in
theorem rahead_any (f : Fl) (a : FlA) (l : List It) (bh : List Int) (R : List (List Int)) (Le : List Bool) (vl vb vr ve : Value) (w : World) (hn : f.n ≤ 600) (hl : SlT l vl w) (hb : SlI bh vb w) (hR : SlR R vr w) (hL : SlB Le ve w) (hRn : R.length = f.n) (hLn : Le.length = f.n)
    (hll : l.length ≤ 1000) (hbl : bh.length ≤ 1000) (hrl : ∀ s, (rowAt R s).length ≤ 601) :
    Calls Tryd.prog 33 #[a.val f, vl, vb, vr, ve] w fun e w' => ∃ v', e = .returned v' ∧ SlI (aheadL f.n R Le bh [] l) v' w' ∧ Apart w.heap.size v' ∧ Below w.heap.size w w' := by
  have hS := fun W => rsize_any f a W hn
  obtain ⟨la, lc, rfl, hl1, hl2, hl3, hl4⟩ := hl
  obtain ⟨ra, rc, rfl, hR1, _⟩ := hR
  obtain ⟨ea, ec, rfl, hL1, _⟩ := hL
  obtain ⟨ta, tc, na, nc, pa, pc⟩ := a
  unfold FlA.val at hS ⊢
  simp only at hS ⊢
  have hbs : ∃ ba bc, vb = .slice ba bh.length bc := by obtain ⟨ba, bc, h, _⟩ := hb; exact ⟨ba, bc, h⟩
  obtain ⟨ba, bc, rfl⟩ := hbs
  have HS : Hid (∀ W, Calls Tryd.prog 28 #[.agg #[.slice ta f.terms.length tc, .slice na f.nons.length nc, .slice pa f.prods.length pc]] W fun e w' => e = .returned (.int .i64 f.n) ∧ Below W.heap.size W w') := hS
  have HBh : Hid (SlI bh (.slice ba bh.length bc) w) := hb
  clear hS hb
  obtain ⟨N, hN⟩ : ∃ N, f.n = N := ⟨_, rfl⟩
  have HNN : Hid (f.n = N) := hN
  rw [hN] at hn hRn hLn HS ⊢
  have HRn : Hid (R.length = N) := hRn
  have HLn : Hid (Le.length = N) := hLn
  clear hN hRn hLn
  have X0 := FBox.new f ⟨ta, tc, na, nc, pa, pc⟩ 25 w
  have B0 : Below w.heap.size w (w.alloc (fobj f ⟨ta, tc, na, nc, pa, pc⟩ 25)) := (Below.refl _ _).alloc (Nat.le_refl _) _
  unfold fobj at X0 B0
  simp only at X0 B0
  have hsz : w.heap.size ≤ (w.alloc (Obj.cells #[Value.slice ta f.terms.length tc, Value.slice na f.nons.length nc, Value.slice pa f.prods.length pc] 25)).heap.size := B0.size
  go_enter Tryd.func33, Tryd.ntmps33
  go_wp2_with fail
  generalize w.alloc (Obj.cells #[Value.slice ta f.terms.length tc, Value.slice na f.nons.length nc, Value.slice pa f.prods.length pc] 25) = w0 at *
  have HX : Hid (∀ W, Below w0.heap.size w0 W → FBox f ⟨ta, tc, na, nc, pa, pc⟩ w.heap.size W) := fun W hb => X0.next hb
  have HBB : Hid (∀ W, Below w0.heap.size w0 W → Below w.heap.size w W) := fun W hb => below_then B0 hb B0.size
  have HIt : Hid (∀ W, Below w0.heap.size w0 W → ItsAt l la W) := fun W hb => (hl1.next B0).next hb
  have HRw : Hid (∀ W, Below w0.heap.size w0 W → RowsAt R ra W) := fun W hb => (hR1.next B0).next hb
  have HEb : Hid (∀ W, Below w0.heap.size w0 W → RowAt encB Le ea W) := fun W hb => (hL1.next B0).next hb
  have HBe : Hid (∀ W, Below w0.heap.size w0 W → SlI bh (.slice ba bh.length bc) W) := fun W hb => (HBh.out.next B0).next hb
  clear X0 B0 hl1 hR1 hL1 HBh
  go_loopw [11, 12] (fun o i wr => ∃ (j : Nat) (A : List Int), i = .int .i64 j ∧ j ≤ l.length ∧ SlI A o wr ∧ Apart w.heap.size o ∧ A.length ≤ 601 * j ∧ aheadL N R Le bh [] l = aheadL N R Le bh A (l.drop j) ∧ Below w0.heap.size w0 wr) (fun _ i _ => l.length - (intOf i).toNat)
  case atStart => exact ⟨0, [], rfl, Nat.zero_le _, sli_nil _, Apart.none _ _ _, by simp, by simp, Below.refl _ _⟩
  case round =>
    obtain ⟨j, A, rfl, hj, hA, hap, hAl, hrel, B1⟩ := hrel
    obtain ⟨x1, d0, d1, d2⟩ := HX.out _ B1
    simp only at d0 d1 d2
    have hsz2 := B1.size
    obtain ⟨oa, oc, rfl, _⟩ := id hA
    by_cases hlt : j < l.length
    · obtain ⟨b, off, rfl, hb, c0, _, _, si, _⟩ := (HIt.out _ B1).at (Below.refl _ _) hlt
      rw [List.drop_eq_getElem_cons hlt, aheadL] at hrel
      have HIQ : Hid (∀ W, Below w0.heap.size w0 W → W.cell? ⟨b, off + j * 3, none⟩ = some (.int .i64 l[j].sym)) := fun W hW => by
        obtain ⟨b', o', e', _, q', _⟩ := (HIt.out _ hW).at (Below.refl _ _) hlt
        cases e'
        exact q'
      generalize l[j] = x at *
      have HA : Hid (SlI A (.slice oa A.length oc) wr ∧ Apart w.heap.size (.slice oa A.length oc)) := ⟨hA, hap⟩
      have HR : Hid (aheadL N R Le bh [] l = if x.sym < 0 ∨ (N : Int) ≤ x.sym then aheadL N R Le bh A (l.drop (j + 1)) else if onb Le x.sym.toNat then aheadL N R Le bh (unionL A (rowAt R x.sym.toNat)) (l.drop (j + 1)) else unionL A (rowAt R x.sym.toNat)) := hrel
      clear hA hap hrel
      have HS0 : Hid (wr.drew.cell? ⟨b, off + j * 3, none⟩ = some (.int .i64 x.sym) ∧ wr.drew.cell? ⟨w.heap.size, 0, none⟩ = some (.slice ta f.terms.length tc) ∧ wr.drew.cell? ⟨w.heap.size, 1, none⟩ = some (.slice na f.nons.length nc) ∧ wr.drew.cell? ⟨w.heap.size, 2, none⟩ = some (.slice pa f.prods.length pc) ∧ Below wr.heap.size wr wr.drew) := ⟨c0, d0, d1, d2, (Below.refl _ _).drew⟩
      have hz : ∀ W, W.cell? ⟨b, off + j * 3, none⟩ = some (.int .i64 x.sym) ∧ W.cell? ⟨w.heap.size, 0, none⟩ = some (.slice ta f.terms.length tc) ∧ W.cell? ⟨w.heap.size, 1, none⟩ = some (.slice na f.nons.length nc) ∧ W.cell? ⟨w.heap.size, 2, none⟩ = some (.slice pa f.prods.length pc) ∧ Below wr.heap.size wr W → Calls Tryd.prog 28 #[.agg #[.slice ta f.terms.length tc, .slice na f.nons.length nc, .slice pa f.prods.length pc]] W fun e w' => e = .returned (.int .i64 N) ∧ w'.cell? ⟨b, off + j * 3, none⟩ = some (.int .i64 x.sym) ∧ w'.cell? ⟨w.heap.size, 0, none⟩ = some (.slice ta f.terms.length tc) ∧ w'.cell? ⟨w.heap.size, 1, none⟩ = some (.slice na f.nons.length nc) ∧ w'.cell? ⟨w.heap.size, 2, none⟩ = some (.slice pa f.prods.length pc) ∧ Below wr.heap.size wr w' := by
        intro W hS
        obtain ⟨z0, z1, z2, z3, hbW⟩ := hS
        refine (HS.out W).mono ?_
        rintro e w' ⟨rfl, hb'⟩
        have hB' := below_then hbW hb' hbW.size
        have hB2 := below_then B1 hB' B1.size
        obtain ⟨_, y0, y1, y2⟩ := HX.out _ hB2
        exact ⟨rfl, HIQ.out _ hB2, y0, y1, y2, hB'⟩
      by_cases k1 : x.sym < 0
      · have HR2 : Hid (aheadL N R Le bh [] l = aheadL N R Le bh A (l.drop (j + 1))) := by show _ = _; rw [HR.out, if_pos (.inl k1)]
        have k1' : decide (x.sym < 0) = true := decide_eq_true k1
        clear HR
        go_wp2_with fail
        go_big_quiet (fail)
        go_wp2_with fail
        exact ⟨⟨j + 1, A, by go_num, by omega, HA.out.1.next (below_drewN (Below.refl _ _) _), HA.out.2, by omega, HR2.out, below_drewN B1 _⟩, by simp [intOf]; omega⟩
      by_cases k2 : (N : Int) ≤ x.sym
      · have HR2 : Hid (aheadL N R Le bh [] l = aheadL N R Le bh A (l.drop (j + 1))) := by show _ = _; rw [HR.out, if_pos (.inr k2)]
        have k1' : decide (x.sym < 0) = false := decide_eq_false k1
        have k2' : decide ((N : Int) ≤ x.sym) = true := decide_eq_true k2
        clear HR
        go_wp2_with fail
        go_region_held3 (fun W => W.cell? ⟨b, off + j * 3, none⟩ = some (.int .i64 x.sym) ∧ W.cell? ⟨w.heap.size, 0, none⟩ = some (.slice ta f.terms.length tc) ∧ W.cell? ⟨w.heap.size, 1, none⟩ = some (.slice na f.nons.length nc) ∧ W.cell? ⟨w.heap.size, 2, none⟩ = some (.slice pa f.prods.length pc) ∧ Below wr.heap.size wr W) (first | exact HS0.out | assumption) ((go_at_call 28; refine (hz _ (by assumption)).mono ?_; rintro e w' ⟨rfl, hS⟩))
        have HBx : Hid (Below wr.heap.size wr w') := hS.2.2.2.2
        clear hS
        go_wp2_with fail
        exact ⟨⟨j + 1, A, by go_num, by omega, HA.out.1.next HBx.out, HA.out.2, by omega, HR2.out, below_then B1 HBx.out B1.size⟩, by simp [intOf]; omega⟩
      have k1' : decide (x.sym < 0) = false := decide_eq_false k1
      have k2' : decide ((N : Int) ≤ x.sym) = false := decide_eq_false k2
      have HR2 : Hid (aheadL N R Le bh [] l = if onb Le x.sym.toNat then aheadL N R Le bh (unionL A (rowAt R x.sym.toNat)) (l.drop (j + 1)) else unionL A (rowAt R x.sym.toNat)) := by show _ = _; rw [HR.out, if_neg (by omega)]
      clear HR
      go_wp2_with fail
      go_region_held3 (fun W => W.cell? ⟨b, off + j * 3, none⟩ = some (.int .i64 x.sym) ∧ W.cell? ⟨w.heap.size, 0, none⟩ = some (.slice ta f.terms.length tc) ∧ W.cell? ⟨w.heap.size, 1, none⟩ = some (.slice na f.nons.length nc) ∧ W.cell? ⟨w.heap.size, 2, none⟩ = some (.slice pa f.prods.length pc) ∧ Below wr.heap.size wr W) (first | exact HS0.out | assumption) ((go_at_call 28; refine (hz _ (by assumption)).mono ?_; rintro e w' ⟨rfl, hS⟩))
      obtain ⟨z0, z1, z2, z3, hbW⟩ := hS
      have B2 := below_then B1 hbW B1.size
      obtain ⟨q, hq⟩ : ∃ q : Nat, x.sym = q := ⟨x.sym.toNat, by omega⟩
      rw [hq] at z0 k1 k2 k1' k2' HR2 hz
      simp only [Int.toNat_natCast] at HR2
      have hqN : q < N := by omega
      have hqR : q < R.length := by rw [HRn.out]; exact hqN
      have HIQ2 : Hid (∀ W, Below w0.heap.size w0 W → W.cell? ⟨b, off + j * 3, none⟩ = some (.int .i64 (q : Int))) := fun W hW => by have := HIQ.out W hW; rw [hq] at this; exact this
      have HAP : Hid (Apart w.heap.size (.slice oa A.length oc)) := HA.out.2
      obtain ⟨rb, ro, v2, rfl, hrb, r0, hv2⟩ := (HRw.out _ B2).at (Below.refl _ _) hqR
      rw [← rowAt_get hqR] at hv2
      have hu := union_any A (rowAt R q) _ v2 w' (HA.out.1.next hbW) hv2 (by have := hrl q; omega)
      have hlu := (length_unionL A (rowAt R q)).2
      have hrq := hrl q
      obtain ⟨v2a, v2c, rfl, _⟩ := id hv2
      have HU : Hid (Calls Tryd.prog 31 #[.slice oa A.length oc, .slice v2a (rowAt R q).length v2c] w' fun e W => ∃ v', e = .returned v' ∧ SlI (unionL A (rowAt R q)) v' W ∧ (v' = .slice oa A.length oc ∨ Apart w'.heap.size v') ∧ Below w'.heap.size w' W) := hu
      clear hu hv2 hz HS0 d0 d1 d2 c0 z1 z2 z3
      generalize unionL A (rowAt R q) = A2 at *
      generalize (rowAt R q).length = nq at *
      clear HA
      go_wp2_with fail
      refine HU.out.mono ?_
      rintro e w3 ⟨v', rfl, hv', hap', hb3⟩
      have B3 := below_then B2 hb3 B2.size
      obtain ⟨va, vc, rfl, _⟩ := id hv'
      have hap3 : Apart w.heap.size (.slice va A2.length vc) := by
        rcases hap' with e | e
        · rw [e]; exact HAP.out
        · exact e.mono (by have := B2.size; omega)
      have HV : Hid (SlI A2 (.slice va A2.length vc) w3 ∧ Apart w.heap.size (.slice va A2.length vc)) := ⟨hv', hap3⟩
      have z3 := HIQ2.out _ B3
      have hql : q < Le.length := by rw [HLn.out]; exact hqN
      obtain ⟨eb, eo, rfl, _, c5⟩ := (HEb.out _ B3).at (Below.refl _ _) hql
      rw [← onb_get hql] at c5
      clear hv' hap' hap3 HU z0 HAP
      cases ho : onb Le q with
      | true =>
        rw [ho] at c5
        have HR3 : Hid (aheadL N R Le bh [] l = aheadL N R Le bh A2 (l.drop (j + 1))) := by show _ = _; rw [HR2.out, ho]; rfl
        clear ho HR2
        simp only [encB] at c5
        go_wp2_with fail
        exact ⟨⟨j + 1, A2, by go_num, by omega, HV.out.1, HV.out.2, by omega, HR3.out, B3⟩, by simp [intOf]; omega⟩
      | false =>
        rw [ho] at c5
        have HR3 : Hid (aheadL N R Le bh [] l = A2) := by show _ = _; rw [HR2.out, ho]; rfl
        clear ho HR2
        simp only [encB] at c5
        go_wp2_with fail
        go_ret
        exact ⟨_, rfl, by rw [HR3.out]; exact HV.out.1, HV.out.2, HBB.out _ B3⟩
    · have HR3 : Hid (aheadL N R Le bh [] l = unionL A bh) := by show _ = _; rw [hrel, List.drop_of_length_le (by omega)]; rfl
      have HU : Hid (Calls Tryd.prog 31 #[.slice oa A.length oc, .slice ba bh.length bc] wr fun e W => ∃ v', e = .returned v' ∧ SlI (unionL A bh) v' W ∧ (v' = .slice oa A.length oc ∨ Apart wr.heap.size v') ∧ Below wr.heap.size wr W) := union_any A bh _ _ wr hA (HBe.out _ B1) (by omega)
      have HAP : Hid (Apart w.heap.size (.slice oa A.length oc)) := hap
      clear hrel hA hap
      go_wp2_with fail
      refine HU.out.mono ?_
      rintro e w3 ⟨v', rfl, hv', hap', hb3⟩
      obtain ⟨va, vc, rfl, _⟩ := id hv'
      have hap3 : Apart w.heap.size (.slice va (unionL A bh).length vc) := by
        rcases hap' with e | e
        · rw [e]; exact HAP.out
        · exact e.mono (by omega)
      have HV : Hid (SlI (unionL A bh) (.slice va (unionL A bh).length vc) w3 ∧ Apart w.heap.size (.slice va (unionL A bh).length vc)) := ⟨hv', hap3⟩
      have B3 := below_then B1 hb3 B1.size
      clear hv' hap' hap3 HU HAP
      go_wp2_with fail
      go_ret
      exact ⟨_, rfl, by rw [HR3.out]; exact HV.out.1, HV.out.2, HBB.out _ B3⟩
end Go.Proofs.YtckbfiigbckmeaaDoor
