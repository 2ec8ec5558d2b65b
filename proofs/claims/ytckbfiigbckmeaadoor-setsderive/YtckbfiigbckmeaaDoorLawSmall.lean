/- The law's own small functions: within, Of. -/
import Derived.Test.YtckbfiigbckmeaaDoorRefFollow
namespace Go.Proofs.YtckbfiigbckmeaaDoor
open Go.RowKit

def inB (A B : List (List Int)) (i : Nat) : Bool := decide (i < B.length) && decide (unionL (rowAt B i) (rowAt A i) = rowAt B i)
def withinB (A B : List (List Int)) : Bool := decide (A.length = B.length) && (List.range A.length).all (inB A B)
theorem within_no {A B : List (List Int)} {j : Nat} (hj : j < A.length) (h : inB A B j = false) : withinB A B = false := by
  unfold withinB
  have : (List.range A.length).all (inB A B) = false := by
    rw [List.all_eq_false]
    exact ⟨j, List.mem_range.2 hj, by rw [h]; simp⟩
  rw [this, Bool.and_false]

set_option maxRecDepth 100000 in
set_option maxHeartbeats 1600000 in
theorem within_any (A B : List (List Int)) (va vb : Value) (w : World) (hA : SlR A va w) (hB : SlR B vb w) (hl : A.length ≤ 1000) (_hm : B.length ≤ 1000) (hAl : ∀ s, (rowAt A s).length ≤ 1000) (hBl : ∀ s, (rowAt B s).length ≤ 1000) :
    Calls Tryd.prog 24 #[va, vb] w fun e w' => e = .returned (.bool (withinB A B)) ∧ Below w.heap.size w w' := by
  obtain ⟨aa, ac, rfl, hA1, _⟩ := hA
  obtain ⟨ba, bc, rfl, hB1, _⟩ := hB
  have HA1 : Hid (∀ W, Below w.heap.size w W → RowsAt A aa W) := fun W hb => hA1.next hb
  have HB1 : Hid (∀ W, Below w.heap.size w W → RowsAt B ba W) := fun W hb => hB1.next hb
  have HLS : Hid ((∀ s, (rowAt A s).length ≤ 1000) ∧ ∀ s, (rowAt B s).length ≤ 1000) := ⟨hAl, hBl⟩
  clear hA1 hB1 hAl hBl
  go_enter Tryd.func24, Tryd.ntmps24
  go_wp2_with fail
  go_loopw [8] (fun i wr => ∃ (j : Nat), i = .int .i64 j ∧ j ≤ A.length ∧ (∀ k, k < j → inB A B k = true) ∧ Below w.heap.size w wr) (fun i _ => A.length - (intOf i).toNat)
  case atStart => exact ⟨0, rfl, Nat.zero_le _, by simp, Below.refl _ _⟩
  case round =>
    obtain ⟨j, rfl, hj, hrel, B1⟩ := hrel
    have HK : Hid (∀ k, k < j → inB A B k = true) := hrel
    clear hrel
    by_cases hlt : j < A.length
    · by_cases hjb : j < B.length
      · obtain ⟨b1, o1, x, rfl, hb1, c1, hx⟩ := (HA1.out _ B1).at (Below.refl _ _) hlt
        obtain ⟨b2, o2, y, rfl, hb2, c2, hy⟩ := (HB1.out _ B1).at (Below.refl _ _) hjb
        rw [← rowAt_get hlt] at hx
        rw [← rowAt_get hjb] at hy
        have l1 := HLS.out.1 j
        have l2 := HLS.out.2 j
        have hjb' : decide ((B.length : Int) ≤ j) = false := decide_eq_false (by omega)
        have hjb3 : decide (B.length ≤ j) = false := decide_eq_false (by omega)
        have HIN : Hid (inB A B j = decide (unionL (rowAt B j) (rowAt A j) = rowAt B j)) := by show _ = _; unfold inB; rw [decide_eq_true hjb]; rfl
        obtain ⟨ya, yc, rfl, _⟩ := id hy
        obtain ⟨xa, xc, rfl, _⟩ := id hx
        obtain ⟨la, hla⟩ : ∃ la, (rowAt A j).length = la := ⟨_, rfl⟩
        obtain ⟨lb, hlb⟩ : ∃ lb, (rowAt B j).length = lb := ⟨_, rfl⟩
        rw [hla] at c1 hx l1
        rw [hlb] at c2 hy l2
        have HS0 : Hid (wr.drew.cell? ⟨b1, o1 + j, none⟩ = some (.slice xa la xc) ∧ wr.drew.cell? ⟨b2, o2 + j, none⟩ = some (.slice ya lb yc) ∧ Below wr.heap.size wr wr.drew) := ⟨c1, c2, (Below.refl _ _).drew⟩
        have hlu := (length_unionL (rowAt B j) (rowAt A j)).2
        have hu : ∀ W, W.cell? ⟨b1, o1 + j, none⟩ = some (.slice xa la xc) ∧ W.cell? ⟨b2, o2 + j, none⟩ = some (.slice ya lb yc) ∧ Below wr.heap.size wr W → Calls Tryd.prog 31 #[.slice ya lb yc, .slice xa la xc] W fun e w' => ∃ u, e = .returned u ∧ Hid (SlI (unionL (rowAt B j) (rowAt A j)) u w') ∧ (w'.cell? ⟨b1, o1 + j, none⟩ = some (.slice xa la xc) ∧ w'.cell? ⟨b2, o2 + j, none⟩ = some (.slice ya lb yc) ∧ Below wr.heap.size wr w') := by
          rintro W ⟨z1, z2, hbW⟩
          refine (union_any _ _ _ _ W (hy.next hbW) (hx.next hbW) (by omega)).mono ?_
          rintro e w' ⟨u, rfl, h1, _, h3⟩
          have hz := hbW.size
          exact ⟨u, rfl, h1, (h3.cell (p := ⟨b1, o1 + j, none⟩) (by show b1 < _; omega)).trans z1, (h3.cell (p := ⟨b2, o2 + j, none⟩) (by show b2 < _; omega)).trans z2, below_then hbW h3 hz⟩
        have hi : ∀ W u, W.cell? ⟨b1, o1 + j, none⟩ = some (.slice xa la xc) ∧ W.cell? ⟨b2, o2 + j, none⟩ = some (.slice ya lb yc) ∧ Below wr.heap.size wr W → Hid (SlI (unionL (rowAt B j) (rowAt A j)) u W) → Calls Tryd.prog 19 #[u, .slice ya lb yc] W fun e w' => e = .returned (.bool (inB A B j)) ∧ (w'.cell? ⟨b1, o1 + j, none⟩ = some (.slice xa la xc) ∧ w'.cell? ⟨b2, o2 + j, none⟩ = some (.slice ya lb yc) ∧ Below wr.heap.size wr w') := by
          rintro W u ⟨z1, z2, hbW⟩ hu
          refine (ints_any _ _ u _ W hu.out (hy.next hbW) (by omega) (by omega)).mono ?_
          rintro e w' ⟨rfl, d, rfl⟩
          rw [HIN.out]
          exact ⟨rfl, z1, z2, below_drewN hbW d⟩
        clear hx hy HIN hla hlb hlu
        cases hin : inB A B j with
        | true =>
          rw [hin] at hi
          have HK2 : Hid (∀ k, k < j + 1 → inB A B k = true) := fun k hk => by
            by_cases e : k = j
            · subst e; exact hin
            · exact HK.out k (by omega)
          clear hin HK
          go_wp2_with fail
          go_region_held3 (fun W => W.cell? ⟨b1, o1 + j, none⟩ = some (.slice xa la xc) ∧ W.cell? ⟨b2, o2 + j, none⟩ = some (.slice ya lb yc) ∧ Below wr.heap.size wr W) (first | exact HS0.out | assumption) (first
            | (go_at_call 31; refine (hu _ (by assumption)).mono ?_; rintro e w' ⟨u, rfl, hU, hS⟩)
            | (go_at_call 19; refine (hi _ _ (by assumption) hU).mono ?_; rintro e w'' ⟨rfl, hS2⟩))
          have HBx : Hid (Below wr.heap.size wr w'') := hS2.2.2
          clear hS2 hU hu hi
          go_wp2_with fail
          exact ⟨⟨j + 1, by go_num, by omega, HK2.out, below_then B1 HBx.out B1.size⟩, by simp [intOf]; omega⟩
        | false =>
          rw [hin] at hi
          have HZ : Hid (withinB A B = false) := within_no hlt hin
          clear hin HK
          go_wp2_with fail
          go_region_held3 (fun W => W.cell? ⟨b1, o1 + j, none⟩ = some (.slice xa la xc) ∧ W.cell? ⟨b2, o2 + j, none⟩ = some (.slice ya lb yc) ∧ Below wr.heap.size wr W) (first | exact HS0.out | assumption) (first
            | (go_at_call 31; refine (hu _ (by assumption)).mono ?_; rintro e w' ⟨u, rfl, hU, hS⟩)
            | (go_at_call 19; refine (hi _ _ (by assumption) hU).mono ?_; rintro e w'' ⟨rfl, hS2⟩))
          have HBx : Hid (Below wr.heap.size wr w'') := hS2.2.2
          clear hS2 hU hu hi
          go_wp2_with fail
          go_ret
          exact ⟨ret_bool HZ.out.symm, below_then B1 HBx.out B1.size⟩
      · have HZ : Hid (withinB A B = false) := within_no hlt (by unfold inB; rw [decide_eq_false hjb]; rfl)
        have hjb' : decide ((B.length : Int) ≤ j) = true := decide_eq_true (by omega)
        have hjb2 : (B.length : Int) ≤ j := by omega
        have hjb3 : decide (B.length ≤ j) = true := decide_eq_true (by omega)
        clear HK
        go_wp2_with fail
        go_big_quiet (fail)
        go_wp2_with fail
        go_ret
        exact ⟨ret_bool HZ.out.symm, below_drewN B1 _⟩
    · obtain rfl : j = A.length := by omega
      have HZ : Hid (withinB A B = decide (A.length = B.length)) := by
        show _ = _
        unfold withinB
        have : (List.range A.length).all (inB A B) = true := List.all_eq_true.2 (fun k hk => HK.out k (List.mem_range.1 hk))
        rw [this, Bool.and_true]
      clear HK
      go_wp2_with fail
      go_ret
      refine ⟨ret_bool ?_, B1⟩
      rw [HZ.out, Bool.eq_iff_iff, beq_iff_eq, decide_eq_true_eq]
      omega

/-- The places of a symbol's productions. -/
def OfL (f : Fl) (s : Int) (L : List Int) : Prop := L.length ≤ f.prods.length ∧ ∀ x ∈ L, ∃ k : Nat, x = k ∧ ∃ p, f.prods[k]? = some p ∧ p.left = s

set_option maxRecDepth 100000 in
set_option maxHeartbeats 1600000 in
theorem of_any (f : Fl) (a : FlA) (s : Int) (w : World) (hf : FlAt f a w) (hl : f.prods.length ≤ 1000) :
    Calls Tryd.prog 39 #[a.val f, .int .i64 s] w fun e w' => ∃ v L, e = .returned v ∧ OfL f s L ∧ SlI L v w' ∧ Below w.heap.size w w' := by
  obtain ⟨i0, hi0, hz0, hz1, hz2⟩ := info_parts info3
  obtain ⟨ta, tc, na, nc, pa, pc⟩ := a
  have X0 := FBox.new f ⟨ta, tc, na, nc, pa, pc⟩ 25 w
  have B0 : Below w.heap.size w (w.alloc (fobj f ⟨ta, tc, na, nc, pa, pc⟩ 25)) := (Below.refl _ _).alloc (Nat.le_refl _) _
  obtain ⟨h0, h1, h2, h3, h4, h5, h6, h7⟩ := hf
  unfold fobj at X0 B0
  unfold FlA.val
  simp only at *
  clear h0 h1
  go_enter Tryd.func39, Tryd.ntmps39
  go_wp2_with fail
  generalize w.alloc (Obj.cells #[Value.slice ta f.terms.length tc, Value.slice na f.nons.length nc, Value.slice pa f.prods.length pc] 25) = w0 at *
  have HX : Hid (∀ W, Below w0.heap.size w0 W → FBox f ⟨ta, tc, na, nc, pa, pc⟩ w.heap.size W) := fun W hb => X0.next hb
  have HP : Hid (∀ W, Below w0.heap.size w0 W → PrsAt f.prods pa W) := fun W hb => (h2.next B0).next hb
  have HB : Hid (∀ W, Below w0.heap.size w0 W → Below w.heap.size w W) := fun W hb => below_then B0 hb B0.size
  clear X0 B0 h2
  go_loopw [5, 6] (fun o i wr => ∃ (j : Nat) (L : List Int), i = .int .i64 j ∧ j ≤ f.prods.length ∧ L.length ≤ j ∧ OfL f s L ∧ Own1 3 encI w0.heap.size L o wr ∧ Below w0.heap.size w0 wr) (fun _ i _ => f.prods.length - (intOf i).toNat)
  case atStart => exact ⟨0, [], rfl, Nat.zero_le _, Nat.le_refl _, ⟨by simp, by simp⟩, Own1.nil _ _ _ _, Below.refl _ _⟩
  case round =>
    obtain ⟨j, L, rfl, hj, hLj, hO, hown, B1⟩ := hrel
    obtain ⟨x1, d0, d1, d2⟩ := HX.out _ B1
    simp only at d0 d1 d2
    have hsz := B1.size
    obtain ⟨oa, oc, rfl⟩ := slice_of_own hown
    have HO : Hid (OfL f s L) := hO
    have HW : Hid (wr.ownsRow w0.heap.size 3 1 (.slice oa L.length oc) L.length (L.map encI)) := hown
    clear hO hown
    by_cases hlt : j < f.prods.length
    · obtain ⟨b, off, v, rfl, _, c0, _, _, _, hlf, _⟩ := (HP.out _ B1).at (Below.refl _ _) hlt
      have HG : Hid (f.prods[j]? = some f.prods[j]) := List.getElem?_eq_getElem hlt
      generalize f.prods[j] = p at *
      by_cases hs : p.left = s
      · have HO2 : Hid (OfL f s (L ++ [(j : Int)])) := by
          refine ⟨by simp; omega, fun x hx => ?_⟩
          rcases List.mem_append.1 hx with hx | hx
          · exact HO.out.2 x hx
          · simp at hx; subst hx; exact ⟨j, rfl, p, HG.out, hs⟩
        have hs' : (p.left == s) = true := by simpa using hs
        clear HO
        have w1own := HW.out
        obtain ⟨LV, hLV⟩ : ∃ LV, L.map encI = LV := ⟨_, rfl⟩
        have HLV : Hid (L.map encI = LV) := hLV
        rw [hLV] at w1own
        clear hLV HW
        go_wp2_with (at_builtin; refine wpList_append_own _ rfl (.tmp 22) (.tmp 24) 27 rfl w0.heap.size 3 i0 _ 1 8 Tryd.underlying27 hi0 hz0 hz1 hz2 rfl (by decide) _ L.length LV rfl (World.ownsRow.alloc w1own _) ⟨wr.heap.size, 0, none⟩ 1 1 [encI j] rfl rfl (new_cell _ _ _) (by simp [encI]; rfl) (by unfold maxLen; omega) (by omega) (by simp; omega) ?_)
        intro v2 w2 hown2 hg2 _
        have B2 : Below w0.heap.size w0 w2 := (B1.alloc hsz _).grown hg2 (by simp; omega) (fun k e => (World.ownsRow.lt w1own k e).1)
        obtain ⟨a2, c2, rfl⟩ := slice_of_own hown2
        have HW2 : Hid (Own1 3 encI w0.heap.size (L ++ [(j : Int)]) (.slice a2 (L.length + 1) c2) w2) := by
          show World.ownsRow _ _ _ _ _ _ _
          have := hown2
          rw [← HLV.out] at this
          simpa using this
        clear hown2 hg2 w1own
        go_wp2_with fail
        exact ⟨⟨j + 1, L ++ [(j : Int)], by go_num, by omega, by simp; omega, HO2.out, HW2.out, B2⟩, by simp [intOf]; omega⟩
      · have hs' : (p.left == s) = false := by simpa using hs
        go_wp2_with fail
        exact ⟨⟨j + 1, L, by go_num, by omega, by omega, HO.out, HW.out, B1⟩, by simp [intOf]; omega⟩
    · go_wp2_with fail
      go_ret
      refine ⟨_, L, rfl, HO.out, sli_own (B := w0.heap.size) HW.out (fun y hy => ?_), HB.out _ B1⟩
      obtain ⟨k, rfl, p, hp, _⟩ := HO.out.2 y hy
      have := (List.getElem?_eq_some_iff.1 hp).1
      unfold i64B
      omega
end Go.Proofs.YtckbfiigbckmeaaDoor
