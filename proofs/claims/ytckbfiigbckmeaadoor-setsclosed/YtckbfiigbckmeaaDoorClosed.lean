/- The law SetsClosed, walked. -/
import Derived.Test.YtckbfiigbckmeaaDoorClosedMath
import Derived.Test.YtckbfiigbckmeaaDoorHeldMore
namespace Go.Proofs.YtckbfiigbckmeaaDoor
open Go.RowKit

set_option maxRecDepth 100000 in
set_option maxHeartbeats 6400000 in
theorem closed_any (hO : SetsOk) (hW : AwakeOk) (f : Fl) (a : FlA) (w : World) (hf : FlAt f a w) (hT : Tb w) :
    Calls Tryd.prog 6 #[a.val f] w fun e w' => e = .returned (.bool true) ∧ Below w.heap.size w w' := by
  have hfew := fun W (hb : Below w.heap.size w W) => few_any f a W (hf.next hb)
  have hff := fun W (hb : Below w.heap.size w W) => hf.next hb
  obtain ⟨ta, tc, na, nc, pa, pc⟩ := a
  have X0 := FBox.new f ⟨ta, tc, na, nc, pa, pc⟩ 25 w
  have B0 : Below w.heap.size w (w.alloc (fobj f ⟨ta, tc, na, nc, pa, pc⟩ 25)) := (Below.refl _ _).alloc (Nat.le_refl _) _
  unfold fobj at X0 B0
  unfold FlA.val at hfew ⊢
  simp only at X0 B0 hfew ⊢
  have HFW : Hid (∀ W, Below w.heap.size w W → Calls Tryd.prog 7 #[.agg #[.slice ta f.terms.length tc, .slice na f.nons.length nc, .slice pa f.prods.length pc]] W fun e w' => e = .returned (.bool (fewB f)) ∧ Below W.heap.size W w') := hfew
  have HFF : Hid (∀ W, Below w.heap.size w W → FlAt f ⟨ta, tc, na, nc, pa, pc⟩ W) := hff
  have HAW : Hid (∀ W, Below w.heap.size w W → Calls Tryd.prog 8 #[] W fun e w' => e = .returned (.bool true) ∧ Below W.heap.size W w') := fun W hb => hW W (hT.next hb)
  have HTB : Hid (∀ W, Below w.heap.size w W → Tb W) := fun W hb => hT.next hb
  have HOK : Hid SetsOk := hO
  clear hfew hff hW hO hf hT
  go_enter Tryd.func6, Tryd.ntmps6
  go_wp2_with fail
  refine (HFW.out _ B0).mono ?_
  rintro e w1 ⟨rfl, hb1⟩
  have X1 := X0.next hb1
  have B1 := below_then B0 hb1 B0.size
  clear X0 B0 hb1 HFW
  cases hfw : fewB f with
  | false =>
    clear hfw X1
    go_wp2_with fail
    refine (HAW.out _ B1).mono ?_
    rintro e w2 ⟨rfl, hb2⟩
    go_wp2_with fail
    go_ret
    exact ⟨rfl, below_then B1 hb2 B1.size⟩
  | true =>
  have HFP : Hid (FitP f) := (few_facts hfw).1
  clear hfw
  have HBB : ∀ W, Below w1.heap.size w1 W → Below w.heap.size w W := fun W hb => below_then B1 hb B1.size
  have hstep : ∀ W W', W.cell? ⟨w.heap.size, 0, none⟩ = some (.slice ta f.terms.length tc) ∧ W.cell? ⟨w.heap.size, 1, none⟩ = some (.slice na f.nons.length nc) ∧ W.cell? ⟨w.heap.size, 2, none⟩ = some (.slice pa f.prods.length pc) ∧ Below w1.heap.size w1 W → Below W.heap.size W W' → W'.cell? ⟨w.heap.size, 0, none⟩ = some (.slice ta f.terms.length tc) ∧ W'.cell? ⟨w.heap.size, 1, none⟩ = some (.slice na f.nons.length nc) ∧ W'.cell? ⟨w.heap.size, 2, none⟩ = some (.slice pa f.prods.length pc) ∧ Below w1.heap.size w1 W' := by
    rintro W W' ⟨_, _, _, h⟩ hb
    have h' := below_then h hb h.size
    obtain ⟨_, y0, y1, y2⟩ := X1.next h'
    exact ⟨y0, y1, y2, h'⟩
  have c1 : ∀ W, W.cell? ⟨w.heap.size, 0, none⟩ = some (.slice ta f.terms.length tc) ∧ W.cell? ⟨w.heap.size, 1, none⟩ = some (.slice na f.nons.length nc) ∧ W.cell? ⟨w.heap.size, 2, none⟩ = some (.slice pa f.prods.length pc) ∧ Below w1.heap.size w1 W → Calls Tryd.prog 15 #[.agg #[.slice ta f.terms.length tc, .slice na f.nons.length nc, .slice pa f.prods.length pc]] W fun e w' => ∃ v Rf, e = .returned v ∧ Hid (GivesR (FstP f) f.n Rf ∧ SlR Rf v w') ∧ w'.cell? ⟨w.heap.size, 0, none⟩ = some (.slice ta f.terms.length tc) ∧ w'.cell? ⟨w.heap.size, 1, none⟩ = some (.slice na f.nons.length nc) ∧ w'.cell? ⟨w.heap.size, 2, none⟩ = some (.slice pa f.prods.length pc) ∧ Below w1.heap.size w1 w' := by
    intro W hS
    refine (HOK.out.pF f ⟨ta, tc, na, nc, pa, pc⟩ W (HFF.out _ (HBB _ hS.2.2.2)) HFP.out (HTB.out _ (HBB _ hS.2.2.2))).mono ?_
    rintro e w' ⟨v, rfl, ⟨R, h1, h1'⟩, h2⟩
    exact ⟨v, R, rfl, ⟨h1, h1'⟩, hstep _ _ hS h2⟩
  have c2 : ∀ W v Rf, W.cell? ⟨w.heap.size, 0, none⟩ = some (.slice ta f.terms.length tc) ∧ W.cell? ⟨w.heap.size, 1, none⟩ = some (.slice na f.nons.length nc) ∧ W.cell? ⟨w.heap.size, 2, none⟩ = some (.slice pa f.prods.length pc) ∧ Below w1.heap.size w1 W → Hid (GivesR (FstP f) f.n Rf ∧ SlR Rf v W) → Calls Tryd.prog 17 #[.agg #[.slice ta f.terms.length tc, .slice na f.nons.length nc, .slice pa f.prods.length pc]] W fun e w' => ∃ u Ro, e = .returned u ∧ Hid ((GivesR (FstP f) f.n Rf ∧ SlR Rf v w') ∧ GivesR (FolP f) f.n Ro ∧ SlR Ro u w') ∧ w'.cell? ⟨w.heap.size, 0, none⟩ = some (.slice ta f.terms.length tc) ∧ w'.cell? ⟨w.heap.size, 1, none⟩ = some (.slice na f.nons.length nc) ∧ w'.cell? ⟨w.heap.size, 2, none⟩ = some (.slice pa f.prods.length pc) ∧ Below w1.heap.size w1 w' := by
    intro W v Rf hS hG
    refine (HOK.out.pO f ⟨ta, tc, na, nc, pa, pc⟩ W (HFF.out _ (HBB _ hS.2.2.2)) HFP.out (HTB.out _ (HBB _ hS.2.2.2))).mono ?_
    rintro e w' ⟨u, rfl, ⟨R, h1, h1'⟩, h2⟩
    exact ⟨u, R, rfl, ⟨⟨hG.out.1, hG.out.2.next h2⟩, h1, h1'⟩, hstep _ _ hS h2⟩
  have c3 : ∀ W v Rf u Ro, W.cell? ⟨w.heap.size, 0, none⟩ = some (.slice ta f.terms.length tc) ∧ W.cell? ⟨w.heap.size, 1, none⟩ = some (.slice na f.nons.length nc) ∧ W.cell? ⟨w.heap.size, 2, none⟩ = some (.slice pa f.prods.length pc) ∧ Below w1.heap.size w1 W → Hid ((GivesR (FstP f) f.n Rf ∧ SlR Rf v W) ∧ GivesR (FolP f) f.n Ro ∧ SlR Ro u W) → Calls Tryd.prog 10 #[.agg #[.slice ta f.terms.length tc, .slice na f.nons.length nc, .slice pa f.prods.length pc]] W fun e w' => ∃ x Le, e = .returned x ∧ Hid ((GivesR (FstP f) f.n Rf ∧ SlR Rf v w') ∧ (GivesR (FolP f) f.n Ro ∧ SlR Ro u w') ∧ GivesB NoP f.gr f.n Le ∧ SlB Le x w') ∧ w'.cell? ⟨w.heap.size, 0, none⟩ = some (.slice ta f.terms.length tc) ∧ w'.cell? ⟨w.heap.size, 1, none⟩ = some (.slice na f.nons.length nc) ∧ w'.cell? ⟨w.heap.size, 2, none⟩ = some (.slice pa f.prods.length pc) ∧ Below w1.heap.size w1 w' := by
    intro W v Rf u Ro hS hG
    refine (HOK.out.pE f ⟨ta, tc, na, nc, pa, pc⟩ W (HFF.out _ (HBB _ hS.2.2.2)) HFP.out).mono ?_
    rintro e w' ⟨x, rfl, ⟨L, h1, h1'⟩, h2⟩
    exact ⟨x, L, rfl, ⟨⟨hG.out.1.1, hG.out.1.2.next h2⟩, ⟨hG.out.2.1, hG.out.2.2.next h2⟩, h1, h1'⟩, hstep _ _ hS h2⟩
  obtain ⟨x1, d0, d1, d2⟩ := id X1
  simp only at d0 d1 d2
  have HS0 : Hid (w1.drew.cell? ⟨w.heap.size, 0, none⟩ = some (.slice ta f.terms.length tc) ∧ w1.drew.cell? ⟨w.heap.size, 1, none⟩ = some (.slice na f.nons.length nc) ∧ w1.drew.cell? ⟨w.heap.size, 2, none⟩ = some (.slice pa f.prods.length pc) ∧ Below w1.heap.size w1 w1.drew) := ⟨d0, d1, d2, (Below.refl _ _).drew⟩
  go_wp2_with fail
  go_region_held3 (fun W => W.cell? ⟨w.heap.size, 0, none⟩ = some (.slice ta f.terms.length tc) ∧ W.cell? ⟨w.heap.size, 1, none⟩ = some (.slice na f.nons.length nc) ∧ W.cell? ⟨w.heap.size, 2, none⟩ = some (.slice pa f.prods.length pc) ∧ Below w1.heap.size w1 W) (first | exact HS0.out | assumption) (first
    | (go_at_call 15; refine (c1 _ (by assumption)).mono ?_; rintro e w' ⟨vf, Rf, rfl, hG, hS⟩)
    | (go_at_call 17; refine (c2 _ _ _ (by assumption) hG).mono ?_; clear hG; rintro e w' ⟨vo, Ro, rfl, hG, hS⟩)
    | (go_at_call 10; refine (c3 _ _ _ _ _ (by assumption) hG).mono ?_; clear hG; rintro e w' ⟨ve, Le, rfl, hG, hS⟩))
  clear c1 c2 c3 HS0 d0 d1 d2
  obtain ⟨⟨hgf, hsf⟩, ⟨hgo, hso⟩, hge, hse⟩ := hG.out
  obtain ⟨fa, fc, rfl, _⟩ := id hsf
  obtain ⟨oa, oc, rfl, _⟩ := id hso
  obtain ⟨ea, ec, rfl, _⟩ := id hse
  have hn := HFP.out.size
  obtain ⟨y0, y1, y2, y3⟩ := hS
  have hB2 := HBB _ y3
  rw [hgf.1, hgo.1, hge.1]
  have hnn : f.n = f.terms.length + f.nons.length := rfl
  rw [hnn]
  have HG : Hid ((GivesR (FstP f) f.n Rf ∧ SlR Rf (.slice fa Rf.length fc) w') ∧ (GivesR (FolP f) f.n Ro ∧ SlR Ro (.slice oa Ro.length oc) w') ∧ GivesB NoP f.gr f.n Le ∧ SlB Le (.slice ea Le.length ec) w') := hG
  have HRF : Hid (∀ W, Below w'.heap.size w' W → (∀ s, s < f.n → ∃ b off v, fa = some ⟨b, off, none⟩ ∧ W.cell? ⟨b, off + s, none⟩ = some v ∧ SlI (rowAt Rf s) v W)) := fun W hb s hs => by
    obtain ⟨_, _, e, hr, _⟩ := hsf
    cases e
    have hs' : s < Rf.length := by rw [hgf.1]; exact hs
    obtain ⟨b, off, v, h0, _, h2, h3⟩ := hr.next hb s _ (List.getElem?_eq_getElem hs')
    rw [← rowAt_get hs'] at h3
    exact ⟨b, off, v, h0, h2, h3⟩
  have HRO : Hid (∀ W, Below w'.heap.size w' W → (∀ s, s < f.n → ∃ b off v, oa = some ⟨b, off, none⟩ ∧ W.cell? ⟨b, off + s, none⟩ = some v ∧ SlI (rowAt Ro s) v W)) := fun W hb s hs => by
    obtain ⟨_, _, e, hr, _⟩ := hso
    cases e
    have hs' : s < Ro.length := by rw [hgo.1]; exact hs
    obtain ⟨b, off, v, h0, _, h2, h3⟩ := hr.next hb s _ (List.getElem?_eq_getElem hs')
    rw [← rowAt_get hs'] at h3
    exact ⟨b, off, v, h0, h2, h3⟩
  have HRE : Hid (∀ W, Below w'.heap.size w' W → (∀ s, s < f.n → ∃ b off, ea = some ⟨b, off, none⟩ ∧ W.cell? ⟨b, off + s, none⟩ = some (.bool (onb Le s)))) := fun W hb s hs => by
    obtain ⟨_, _, e, hr, _⟩ := hse
    cases e
    have hs' : s < Le.length := by rw [hge.1]; exact hs
    obtain ⟨b, off, h0, _, h2⟩ := hr.next hb s _ (List.getElem?_eq_getElem hs')
    rw [← onb_get hs'] at h2
    exact ⟨b, off, h0, h2⟩
  have HXB : Hid (∀ W, Below w'.heap.size w' W → W.cell? ⟨w.heap.size, 0, none⟩ = some (.slice ta f.terms.length tc) ∧ W.cell? ⟨w.heap.size, 1, none⟩ = some (.slice na f.nons.length nc) ∧ W.cell? ⟨w.heap.size, 2, none⟩ = some (.slice pa f.prods.length pc)) := fun W hb => by
    obtain ⟨z0, z1, z2, _⟩ := hstep _ _ ⟨y0, y1, y2, y3⟩ hb
    exact ⟨z0, z1, z2⟩
  have HGF : Hid (GivesR (FstP f) f.n Rf ∧ GivesR (FolP f) f.n Ro ∧ GivesB NoP f.gr f.n Le) := ⟨hgf, hgo, hge⟩
  have HB2 : Hid (∀ W, Below w'.heap.size w' W → Below w.heap.size w W) := fun W hb => below_then hB2 hb hB2.size
  have hwz : w.heap.size < w'.heap.size := World.block_lt_of_cell? w' _ y0
  clear hG hgf hsf hgo hso hge hse hnn X1 hstep B1 HG y3 HBB
  go_wp2_with fail
  clear y0 y1 y2
  go_loopw [49] (fun i wr => ∃ (j : Nat), i = .int .i64 j ∧ j ≤ f.prods.length ∧ Below w'.heap.size w' wr) (fun i _ => f.prods.length - (intOf i).toNat)
  case atStart => exact ⟨0, rfl, Nat.zero_le _, Below.refl _ _⟩
  case round =>
  obtain ⟨j, rfl, hj, hbr⟩ := hrel
  by_cases hlt : j < f.prods.length
  · have hfl := HFF.out _ (HB2.out _ hbr)
    obtain ⟨pb, off, u, hpa, hpb, k0, k1, k2, hu, hi0, hi1⟩ := hfl.2.2.1.at (Below.refl _ _) hlt
    simp only at hpa
    have hlf := HFP.out.left _ (List.getElem_mem hlt)
    have hsy : ∀ x ∈ f.prods[j].right, 0 ≤ x.sym ∧ x.sym < (f.n : Int) := fun x hx => HFP.out.sym _ (List.getElem_mem hlt) x hx
    have hrl := HFP.out.right _ (List.getElem_mem hlt)
    have hmem := gr_mem hlt
    obtain ⟨l, hl⟩ : ∃ l : Nat, f.prods[j].left = l := ⟨f.prods[j].left.toNat, by omega⟩
    have hln : l < f.n := by unfold Fl.n; omega
    have hli : (l : Int) < (f.terms.length : Int) + (f.nons.length : Int) := by unfold Fl.n at hln; omega
    rw [hl] at k0
    rw [hl, Int.toNat_natCast] at hmem
    have hsym : f.prods[j].syms = f.prods[j].right.map fun x => x.sym.toNat := rfl
    rw [hsym] at hmem
    generalize f.prods[j].right = r at *
    generalize f.prods[j].prec = pr at *
    obtain ⟨ra, rc, rfl, hrI, _⟩ := id hu
    have HU : Hid (SlT r (.slice ra r.length rc) wr) := hu
    have HMEM : Hid ((l, r.map fun x => x.sym.toNat) ∈ f.gr ∧ (∀ x ∈ r, 0 ≤ x.sym ∧ x.sym < (f.n : Int)) ∧ r.length ≤ 64) := ⟨hmem, hsy, hrl⟩
    clear hu hmem hsy hfl hi0 hi1 hsym hrI hlf hl
    have b1 : Below wr.heap.size wr (wr.alloc (Obj.cells #[Value.int .i64 l, .slice ra r.length rc, .int .i64 pr] 45)) := (Below.refl _ _).alloc (Nat.le_refl _) _
    have p0 : (wr.alloc (Obj.cells #[Value.int .i64 l, .slice ra r.length rc, .int .i64 pr] 45)).cell? ⟨wr.heap.size, 0, none⟩ = some (.int .i64 l) := by simp
    have p1 : (wr.alloc (Obj.cells #[Value.int .i64 l, .slice ra r.length rc, .int .i64 pr] 45)).cell? ⟨wr.heap.size, 1, none⟩ = some (.slice ra r.length rc) := by simp
    have hzp : wr.heap.size < (wr.alloc (Obj.cells #[Value.int .i64 l, .slice ra r.length rc, .int .i64 pr] 45)).heap.size := by simp
    go_wp2_with fail
    generalize wr.alloc (Obj.cells #[Value.int .i64 l, .slice ra r.length rc, .int .i64 pr] 45) = W1 at *
    have hb1 := below_then hbr b1 hbr.size
    have HP1 : Hid (∀ W, Below W1.heap.size W1 W → Below w'.heap.size w' W ∧ SlT r (.slice ra r.length rc) W ∧ W.cell? ⟨wr.heap.size, 0, none⟩ = some (.int .i64 l) ∧ W.cell? ⟨wr.heap.size, 1, none⟩ = some (.slice ra r.length rc)) := fun W hb =>
      ⟨below_then hb1 hb hb1.size, (HU.out.next b1).next hb, (hb.cell (p := ⟨wr.heap.size, 0, none⟩) hzp).trans p0, (hb.cell (p := ⟨wr.heap.size, 1, none⟩) hzp).trans p1⟩
    obtain ⟨PB, hPB⟩ : ∃ PB, wr.heap.size = PB := ⟨_, rfl⟩
    rw [hPB] at HP1 hzp ⊢
    clear k0 k1 k2 p0 p1 b1 HU hpa hpb
    have hPB' : Below w'.heap.size w' wr → w'.heap.size ≤ PB := fun h => by have := h.size; omega
    have hPBw := hPB' hbr
    clear hPB hPB' hbr
    go_loopw [9, 56] (fun al i wi => ∃ (k : Nat), i = .int .i64 k ∧ k ≤ r.length ∧ al = .bool (allE Le (r.map fun x => x.sym.toNat) k) ∧ Below W1.heap.size W1 wi) (fun _ i _ => r.length - (intOf i).toNat)
    case atStart => exact ⟨0, rfl, Nat.zero_le _, by rw [allE_zero], Below.refl _ _⟩
    case round =>
    obtain ⟨k, rfl, hk, rfl, hbi⟩ := hrel
    by_cases hkt : k < r.length
    · obtain ⟨hbw, hsl, q0, q1⟩ := HP1.out _ hbi
      obtain ⟨_, _, e, hrI, _⟩ := id hsl
      cases e
      obtain ⟨ib, io, rfl, hib, i0, i1, i2, si, sf, sa⟩ := hrI.at (Below.refl _ _) hkt
      have hxs := HMEM.out.2.1 _ (List.getElem_mem hkt)
      obtain ⟨q, hq⟩ : ∃ q : Nat, r[k].sym = q := ⟨r[k].sym.toNat, by omega⟩
      have hqn : q < f.n := by omega
      have hqi : (q : Int) < (f.terms.length : Int) + (f.nons.length : Int) := by unfold Fl.n at hqn; omega
      have HQ : Hid ((r.map fun x => x.sym.toNat)[k]? = some q) := by
        show _ = _
        rw [List.getElem?_map, List.getElem?_eq_getElem hkt, Option.map_some, hq]
        rfl
      rw [hq] at i0
      generalize r[k].fld = xf at *
      generalize r[k].als = xa at *
      have b2 : Below wr.heap.size wr (wr.alloc (Obj.cells #[Value.int .i64 q, .string xf, .string xa] 48)) := (Below.refl _ _).alloc (Nat.le_refl _) _
      have xc : (wr.alloc (Obj.cells #[Value.int .i64 q, .string xf, .string xa] 48)).cell? ⟨wr.heap.size, 0, none⟩ = some (.int .i64 q) := by simp
      have HS2 : Hid (SlT r (.slice (some ⟨ib, io, none⟩) r.length rc) (wr.alloc (Obj.cells #[Value.int .i64 q, .string xf, .string xa] 48))) := hsl.next b2
      clear hsl hrI hxs hq
      go_upto_region 14 with fail
      generalize wr.alloc (Obj.cells #[Value.int .i64 q, .string xf, .string xa] 48) = W2 at *
      have hb2 := below_then hbi b2 hbi.size
      have hXBl := World.block_lt_of_cell? W2 _ xc
      simp only at hXBl
      obtain ⟨XB, hXB⟩ : ∃ XB, wr.heap.size = XB := ⟨_, rfl⟩
      rw [hXB] at xc hXBl ⊢
      have hXBw : W1.heap.size ≤ XB := by have := hbi.size; omega
      clear hXB b2 i0 i1 i2 q0 q1 hbi hbw
      obtain ⟨hbw, hsl, q0, q1⟩ := HP1.out _ hb2
      obtain ⟨ab, hab⟩ : ∃ ab, allE Le (r.map fun x => x.sym.toNat) k = ab := ⟨_, rfl⟩
      rw [hab]
      have HAB : Hid (allE Le (r.map fun x => x.sym.toNat) k = ab) := hab
      clear hab
      go_cut [77] from 61 to 77 (fun t77 wx => t77 = .bool false ∧ Below W2.heap.size W2 wx)
      case first =>
        obtain ⟨fb, fo, vq, hfa, cq, slq⟩ := HRF.out W2 hbw q hqn
        obtain ⟨fb', fo', vl, hfa', cl, sll⟩ := HRF.out W2 hbw l hln
        rw [hfa] at hfa'
        cases hfa'
        subst hfa
        obtain ⟨qa, qc, rfl, _⟩ := id slq
        obtain ⟨la, lc, rfl, _⟩ := id sll
        have HSS : Hid (SlI (rowAt Rf q) (.slice qa (rowAt Rf q).length qc) W2 ∧ SlI (rowAt Rf l) (.slice la (rowAt Rf l).length lc) W2) := ⟨slq, sll⟩
        have HSUB : Hid (ab = true → ∀ t ∈ rowAt Rf q, t ∈ rowAt Rf l) := fun h t ht => by
          have h1 := (rowAt_gives HGF.out.1 hqn).1 ht
          exact (rowAt_gives HGF.out.1 hln).2 (closed_F HMEM.out.1 HQ.out HGF.out.2.2 (fun y hy => by
            obtain ⟨z, hz, rfl⟩ := List.mem_map.1 hy
            have := HMEM.out.2.1 z hz
            omega) (HAB.out.trans h) h1)
        have HRI : Hid (Rising (rowAt Rf q) ∧ Rising (rowAt Rf l) ∧ (rowAt Rf q).length ≤ 1000 ∧ (rowAt Rf l).length ≤ 1000) := by
          have hr : ∀ s, s < f.n → Rising (rowAt Rf s) := fun s hs => by
            have hs' : s < Rf.length := by rw [HGF.out.1.1]; exact hs
            rw [rowAt_get hs']
            exact HGF.out.1.2.1 _ (List.getElem_mem hs')
          have hl := fun s => row_le_gives HGF.out.1 (fun s t h => bound_F HFP.out h) s
          exact ⟨hr q hqn, hr l hln, by have := hl q; omega, by have := hl l; omega⟩
        have HWI : Hid (ab = true → ∀ (W : World) (b1 b2 : Nat), Below W2.heap.size W2 W → W.cell? ⟨b1, 0, none⟩ = some (.slice qa (rowAt Rf q).length qc) → W.cell? ⟨b2, 0, none⟩ = some (.slice la (rowAt Rf l).length lc) → Calls Tryd.prog 24 #[.slice (some ⟨b1, 0, none⟩) 1 1, .slice (some ⟨b2, 0, none⟩) 1 1] W fun e w' => e = .returned (.bool true) ∧ Below W.heap.size W w') := fun h W b1 b2 hb e1 e2 =>
          within1 _ _ _ _ b1 b2 W (HSS.out.1.next hb) (HSS.out.2.next hb) HRI.out.1 HRI.out.2.1 (HSUB.out h) HRI.out.2.2.1 HRI.out.2.2.2 e1 e2
        clear slq sll HSS HSUB HRI
        generalize (rowAt Rf q).length = qn at *
        generalize (rowAt Rf l).length = ln at *
        have HS0 : Hid ((fun W => W.cell? ⟨XB, 0, none⟩ = some (.int .i64 q) ∧ W.cell? ⟨PB, 0, none⟩ = some (.int .i64 l) ∧ W.cell? ⟨fb, fo + q, none⟩ = some (.slice qa qn qc) ∧ W.cell? ⟨fb, fo + l, none⟩ = some (.slice la ln lc) ∧ Below W2.heap.size W2 W) W2.drew) := ⟨xc, q0, cq, cl, (Below.refl _ _).drew⟩
        have HST : Hid (∀ W, Below W2.heap.size W2 W → (fun W => W.cell? ⟨XB, 0, none⟩ = some (.int .i64 q) ∧ W.cell? ⟨PB, 0, none⟩ = some (.int .i64 l) ∧ W.cell? ⟨fb, fo + q, none⟩ = some (.slice qa qn qc) ∧ W.cell? ⟨fb, fo + l, none⟩ = some (.slice la ln lc) ∧ Below W2.heap.size W2 W) W) := fun W hb => by
          have hlf := World.block_lt_of_cell? W2 _ cq
          simp only at hlf
          exact ⟨(hb.cell (p := ⟨XB, 0, none⟩) hXBl).trans xc, (hb.cell (p := ⟨PB, 0, none⟩) (World.block_lt_of_cell? W2 _ q0)).trans q0, (hb.cell (p := ⟨fb, fo + q, none⟩) hlf).trans cq, (hb.cell (p := ⟨fb, fo + l, none⟩) hlf).trans cl, hb⟩
        clear cq cl
        cases ab with
        | false =>
          refine wp_region_L (fun W => W.cell? ⟨XB, 0, none⟩ = some (.int .i64 q) ∧ W.cell? ⟨PB, 0, none⟩ = some (.int .i64 l) ∧ W.cell? ⟨fb, fo + q, none⟩ = some (.slice qa qn qc) ∧ W.cell? ⟨fb, fo + l, none⟩ = some (.slice la ln lc) ∧ Below W2.heap.size W2 W) 17 (by kernel_rfl) 17 rfl ?_
          refine wpAnyL_take' (i := 0) (v := ?_) (oi := { dst := some 61, op := Op.move (Operand.tmp 9), type := 4, pos := "law.go:109", after := #[], guard := none }) rfl (by kernel_rfl) (by kernel_rfl) (by kernel_rfl) (by kernel_rfl) rfl (fun _ _ _ h => h) (Or.inl ⟨by rfl, ?_⟩) HS0.out ?_
          rotate_left
          · intro W hSW
            go_simp
            try with_reducible rfl
          simp only [Act.put, List.setIfInBounds_toArray, List.set_cons_zero, List.set_cons_succ]
          refine wpAnyL_take' (i := 1) (v := ?_) (oi := { dst := some 62, op := Op.move (Operand.tmp 61), type := 4, pos := "law.go:109", after := #[{ on := 0, ground := Ground.data }], guard := none }) rfl (by kernel_rfl) (by kernel_rfl) (by kernel_rfl) (by kernel_rfl) rfl (fun _ _ _ h => h) (Or.inl ⟨by rfl, ?_⟩) HS0.out ?_
          rotate_left
          · intro W hSW
            go_simp
            try with_reducible rfl
          simp only [Act.put, List.setIfInBounds_toArray, List.set_cons_zero, List.set_cons_succ]
          refine wpAnyL_take' (i := 2) (v := undef) (oi := { dst := some 63, op := Op.move (Operand.tmp 3), type := 34, pos := "law.go:109", after := #[{ on := 1, ground := Ground.guard }], guard := some (1, true) }) rfl (by kernel_rfl) (by kernel_rfl) (by kernel_rfl) (by kernel_rfl) rfl (fun _ _ _ h => h) (Or.inr ⟨by rfl, rfl⟩) HS0.out ?_
          simp only [Act.put, List.setIfInBounds_toArray, List.set_cons_zero, List.set_cons_succ]
          refine wpAnyL_take' (i := 3) (v := undef) (oi := { dst := some 64, op := Op.fieldAddr 48 (Operand.tmp 11) 0, type := 0, pos := "law.go:109", after := #[{ on := 1, ground := Ground.guard }], guard := some (1, true) }) rfl (by kernel_rfl) (by kernel_rfl) (by kernel_rfl) (by kernel_rfl) rfl (fun _ _ _ h => h) (Or.inr ⟨by rfl, rfl⟩) HS0.out ?_
          simp only [Act.put, List.setIfInBounds_toArray, List.set_cons_zero, List.set_cons_succ]
          refine wpAnyL_take' (i := 4) (v := undef) (oi := { dst := some 65, op := Op.load 3 (Operand.tmp 64), type := 3, pos := "law.go:109", after := #[{ on := 3, ground := Ground.data }, { on := 1, ground := Ground.guard }], guard := some (1, true) }) rfl (by kernel_rfl) (by kernel_rfl) (by kernel_rfl) (by kernel_rfl) rfl (fun _ _ _ h => h) (Or.inr ⟨by rfl, rfl⟩) HS0.out ?_
          simp only [Act.put, List.setIfInBounds_toArray, List.set_cons_zero, List.set_cons_succ]
          refine wpAnyL_take' (i := 5) (v := undef) (oi := { dst := some 66, op := Op.indexAddr 34 (Operand.tmp 63) (Operand.tmp 65), type := 0, pos := "law.go:109", after := #[{ on := 2, ground := Ground.data }, { on := 4, ground := Ground.data }, { on := 1, ground := Ground.guard }], guard := some (1, true) }) rfl (by kernel_rfl) (by kernel_rfl) (by kernel_rfl) (by kernel_rfl) rfl (fun _ _ _ h => h) (Or.inr ⟨by rfl, rfl⟩) HS0.out ?_
          simp only [Act.put, List.setIfInBounds_toArray, List.set_cons_zero, List.set_cons_succ]
          refine wpAnyL_take' (i := 6) (v := undef) (oi := { dst := some 67, op := Op.load 27 (Operand.tmp 66), type := 27, pos := "law.go:109", after := #[{ on := 5, ground := Ground.data }, { on := 1, ground := Ground.guard }], guard := some (1, true) }) rfl (by kernel_rfl) (by kernel_rfl) (by kernel_rfl) (by kernel_rfl) rfl (fun _ _ _ h => h) (Or.inr ⟨by rfl, rfl⟩) HS0.out ?_
          simp only [Act.put, List.setIfInBounds_toArray, List.set_cons_zero, List.set_cons_succ]
          refine wpAnyL_take' (i := 7) (v := undef) (oi := { dst := some 68, op := Op.buildSlice 34 1 #[(0, Operand.tmp 67)], type := 34, pos := "law.go:109", after := #[{ on := 6, ground := Ground.data }, { on := 1, ground := Ground.guard }], guard := some (1, true) }) rfl (by kernel_rfl) (by kernel_rfl) (by kernel_rfl) (by kernel_rfl) rfl (fun _ _ _ h => h) (Or.inr ⟨by rfl, rfl⟩) HS0.out ?_
          simp only [Act.put, List.setIfInBounds_toArray, List.set_cons_zero, List.set_cons_succ]
          refine wpAnyL_take' (i := 8) (v := undef) (oi := { dst := some 69, op := Op.move (Operand.tmp 3), type := 34, pos := "law.go:109", after := #[{ on := 1, ground := Ground.guard }], guard := some (1, true) }) rfl (by kernel_rfl) (by kernel_rfl) (by kernel_rfl) (by kernel_rfl) rfl (fun _ _ _ h => h) (Or.inr ⟨by rfl, rfl⟩) HS0.out ?_
          simp only [Act.put, List.setIfInBounds_toArray, List.set_cons_zero, List.set_cons_succ]
          refine wpAnyL_take' (i := 9) (v := undef) (oi := { dst := some 70, op := Op.fieldAddr 45 (Operand.tmp 8) 0, type := 0, pos := "law.go:109", after := #[{ on := 1, ground := Ground.guard }], guard := some (1, true) }) rfl (by kernel_rfl) (by kernel_rfl) (by kernel_rfl) (by kernel_rfl) rfl (fun _ _ _ h => h) (Or.inr ⟨by rfl, rfl⟩) HS0.out ?_
          simp only [Act.put, List.setIfInBounds_toArray, List.set_cons_zero, List.set_cons_succ]
          refine wpAnyL_take' (i := 10) (v := undef) (oi := { dst := some 71, op := Op.load 3 (Operand.tmp 70), type := 3, pos := "law.go:109", after := #[{ on := 9, ground := Ground.data }, { on := 1, ground := Ground.guard }], guard := some (1, true) }) rfl (by kernel_rfl) (by kernel_rfl) (by kernel_rfl) (by kernel_rfl) rfl (fun _ _ _ h => h) (Or.inr ⟨by rfl, rfl⟩) HS0.out ?_
          simp only [Act.put, List.setIfInBounds_toArray, List.set_cons_zero, List.set_cons_succ]
          refine wpAnyL_take' (i := 11) (v := undef) (oi := { dst := some 72, op := Op.indexAddr 34 (Operand.tmp 69) (Operand.tmp 71), type := 0, pos := "law.go:109", after := #[{ on := 8, ground := Ground.data }, { on := 10, ground := Ground.data }, { on := 1, ground := Ground.guard }], guard := some (1, true) }) rfl (by kernel_rfl) (by kernel_rfl) (by kernel_rfl) (by kernel_rfl) rfl (fun _ _ _ h => h) (Or.inr ⟨by rfl, rfl⟩) HS0.out ?_
          simp only [Act.put, List.setIfInBounds_toArray, List.set_cons_zero, List.set_cons_succ]
          refine wpAnyL_take' (i := 12) (v := undef) (oi := { dst := some 73, op := Op.load 27 (Operand.tmp 72), type := 27, pos := "law.go:109", after := #[{ on := 11, ground := Ground.data }, { on := 1, ground := Ground.guard }], guard := some (1, true) }) rfl (by kernel_rfl) (by kernel_rfl) (by kernel_rfl) (by kernel_rfl) rfl (fun _ _ _ h => h) (Or.inr ⟨by rfl, rfl⟩) HS0.out ?_
          simp only [Act.put, List.setIfInBounds_toArray, List.set_cons_zero, List.set_cons_succ]
          refine wpAnyL_take' (i := 13) (v := undef) (oi := { dst := some 74, op := Op.buildSlice 34 1 #[(0, Operand.tmp 73)], type := 34, pos := "law.go:109", after := #[{ on := 12, ground := Ground.data }, { on := 1, ground := Ground.guard }], guard := some (1, true) }) rfl (by kernel_rfl) (by kernel_rfl) (by kernel_rfl) (by kernel_rfl) rfl (fun _ _ _ h => h) (Or.inr ⟨by rfl, rfl⟩) HS0.out ?_
          simp only [Act.put, List.setIfInBounds_toArray, List.set_cons_zero, List.set_cons_succ]
          refine wpAnyL_take' (i := 14) (v := undef) (oi := { dst := some 75, op := Op.call { callee := Callee.value (Operand.func 24), args := #[Operand.tmp 68, Operand.tmp 74], argTypes := #[34, 34] }, type := 4, pos := "law.go:109", after := #[{ on := 7, ground := Ground.data }, { on := 13, ground := Ground.data }, { on := 1, ground := Ground.chain }, { on := 1, ground := Ground.guard }], guard := some (1, true) }) rfl (by kernel_rfl) (by kernel_rfl) (by kernel_rfl) (by kernel_rfl) rfl (fun _ _ _ h => h) (Or.inr ⟨by rfl, rfl⟩) HS0.out ?_
          simp only [Act.put, List.setIfInBounds_toArray, List.set_cons_zero, List.set_cons_succ]
          refine wpAnyL_take' (i := 15) (v := undef) (oi := { dst := some 76, op := Op.unOp UnOp.not 4 (Operand.tmp 75), type := 4, pos := "law.go:109", after := #[{ on := 14, ground := Ground.data }, { on := 1, ground := Ground.guard }], guard := some (1, true) }) rfl (by kernel_rfl) (by kernel_rfl) (by kernel_rfl) (by kernel_rfl) rfl (fun _ _ _ h => h) (Or.inr ⟨by rfl, rfl⟩) HS0.out ?_
          simp only [Act.put, List.setIfInBounds_toArray, List.set_cons_zero, List.set_cons_succ]
          refine wpAnyL_take' (i := 16) (v := ?_) (oi := { dst := some 77, op := Op.pick (Operand.tmp 62) (Operand.tmp 76) (Operand.const (Value.bool false)), type := 4, pos := "law.go:109", after := #[{ on := 1, ground := Ground.data }, { on := 15, ground := Ground.data }], guard := none }) rfl (by kernel_rfl) (by kernel_rfl) (by kernel_rfl) (by kernel_rfl) rfl (fun _ _ _ h => h) (Or.inl ⟨by rfl, ?_⟩) HS0.out ?_
          rotate_left
          · intro W hSW
            go_simp
            try with_reducible rfl
          simp only [Act.put, List.setIfInBounds_toArray, List.set_cons_zero, List.set_cons_succ]
          refine wpAnyL_done (by kernel_rfl) ?_ _
          go_wp2_with fail
          go_meet
          exact ⟨rfl, HS0.out.2.2.2.2⟩
        | true =>
          refine wp_region_L (fun W => W.cell? ⟨XB, 0, none⟩ = some (.int .i64 q) ∧ W.cell? ⟨PB, 0, none⟩ = some (.int .i64 l) ∧ W.cell? ⟨fb, fo + q, none⟩ = some (.slice qa qn qc) ∧ W.cell? ⟨fb, fo + l, none⟩ = some (.slice la ln lc) ∧ Below W2.heap.size W2 W) 17 (by kernel_rfl) 17 rfl ?_
          refine wpAnyL_take' (i := 0) (v := ?_) (oi := { dst := some 61, op := Op.move (Operand.tmp 9), type := 4, pos := "law.go:109", after := #[], guard := none }) rfl (by kernel_rfl) (by kernel_rfl) (by kernel_rfl) (by kernel_rfl) rfl (fun _ _ _ h => h) (Or.inl ⟨by rfl, ?_⟩) HS0.out ?_
          rotate_left
          · intro W hSW
            go_simp
            try with_reducible rfl
          simp only [Act.put, List.setIfInBounds_toArray, List.set_cons_zero, List.set_cons_succ]
          refine wpAnyL_take' (i := 1) (v := ?_) (oi := { dst := some 62, op := Op.move (Operand.tmp 61), type := 4, pos := "law.go:109", after := #[{ on := 0, ground := Ground.data }], guard := none }) rfl (by kernel_rfl) (by kernel_rfl) (by kernel_rfl) (by kernel_rfl) rfl (fun _ _ _ h => h) (Or.inl ⟨by rfl, ?_⟩) HS0.out ?_
          rotate_left
          · intro W hSW
            go_simp
            try with_reducible rfl
          simp only [Act.put, List.setIfInBounds_toArray, List.set_cons_zero, List.set_cons_succ]
          refine wpAnyL_take' (i := 2) (v := ?_) (oi := { dst := some 63, op := Op.move (Operand.tmp 3), type := 34, pos := "law.go:109", after := #[{ on := 1, ground := Ground.guard }], guard := some (1, true) }) rfl (by kernel_rfl) (by kernel_rfl) (by kernel_rfl) (by kernel_rfl) rfl (fun _ _ _ h => h) (Or.inl ⟨by rfl, ?_⟩) HS0.out ?_
          rotate_left
          · intro W hSW
            go_simp
            try with_reducible rfl
          simp only [Act.put, List.setIfInBounds_toArray, List.set_cons_zero, List.set_cons_succ]
          refine wpAnyL_take' (i := 3) (v := ?_) (oi := { dst := some 64, op := Op.fieldAddr 48 (Operand.tmp 11) 0, type := 0, pos := "law.go:109", after := #[{ on := 1, ground := Ground.guard }], guard := some (1, true) }) rfl (by kernel_rfl) (by kernel_rfl) (by kernel_rfl) (by kernel_rfl) rfl (fun _ _ _ h => h) (Or.inl ⟨by rfl, ?_⟩) HS0.out ?_
          rotate_left
          · intro W hSW
            go_simp
            try with_reducible rfl
          simp only [Act.put, List.setIfInBounds_toArray, List.set_cons_zero, List.set_cons_succ]
          refine wpAnyL_take' (i := 4) (v := ?_) (oi := { dst := some 65, op := Op.load 3 (Operand.tmp 64), type := 3, pos := "law.go:109", after := #[{ on := 3, ground := Ground.data }, { on := 1, ground := Ground.guard }], guard := some (1, true) }) rfl (by kernel_rfl) (by kernel_rfl) (by kernel_rfl) (by kernel_rfl) rfl (fun _ _ _ h => h) (Or.inl ⟨by rfl, ?_⟩) HS0.out ?_
          rotate_left
          · intro W hSW
            go_simp
            try with_reducible rfl
          simp only [Act.put, List.setIfInBounds_toArray, List.set_cons_zero, List.set_cons_succ]
          refine wpAnyL_take' (i := 5) (v := ?_) (oi := { dst := some 66, op := Op.indexAddr 34 (Operand.tmp 63) (Operand.tmp 65), type := 0, pos := "law.go:109", after := #[{ on := 2, ground := Ground.data }, { on := 4, ground := Ground.data }, { on := 1, ground := Ground.guard }], guard := some (1, true) }) rfl (by kernel_rfl) (by kernel_rfl) (by kernel_rfl) (by kernel_rfl) rfl (fun _ _ _ h => h) (Or.inl ⟨by rfl, ?_⟩) HS0.out ?_
          rotate_left
          · intro W hSW
            go_simp
            try with_reducible rfl
          simp only [Act.put, List.setIfInBounds_toArray, List.set_cons_zero, List.set_cons_succ]
          refine wpAnyL_take' (i := 6) (v := ?_) (oi := { dst := some 67, op := Op.load 27 (Operand.tmp 66), type := 27, pos := "law.go:109", after := #[{ on := 5, ground := Ground.data }, { on := 1, ground := Ground.guard }], guard := some (1, true) }) rfl (by kernel_rfl) (by kernel_rfl) (by kernel_rfl) (by kernel_rfl) rfl (fun _ _ _ h => h) (Or.inl ⟨by rfl, ?_⟩) HS0.out ?_
          rotate_left
          · intro W hSW
            go_simp
            try with_reducible rfl
          simp only [Act.put, List.setIfInBounds_toArray, List.set_cons_zero, List.set_cons_succ]
          refine wpAnyL_take' (i := 8) (v := ?_) (oi := { dst := some 69, op := Op.move (Operand.tmp 3), type := 34, pos := "law.go:109", after := #[{ on := 1, ground := Ground.guard }], guard := some (1, true) }) rfl (by kernel_rfl) (by kernel_rfl) (by kernel_rfl) (by kernel_rfl) rfl (fun _ _ _ h => h) (Or.inl ⟨by rfl, ?_⟩) HS0.out ?_
          rotate_left
          · intro W hSW
            go_simp
            try with_reducible rfl
          simp only [Act.put, List.setIfInBounds_toArray, List.set_cons_zero, List.set_cons_succ]
          refine wpAnyL_take' (i := 9) (v := ?_) (oi := { dst := some 70, op := Op.fieldAddr 45 (Operand.tmp 8) 0, type := 0, pos := "law.go:109", after := #[{ on := 1, ground := Ground.guard }], guard := some (1, true) }) rfl (by kernel_rfl) (by kernel_rfl) (by kernel_rfl) (by kernel_rfl) rfl (fun _ _ _ h => h) (Or.inl ⟨by rfl, ?_⟩) HS0.out ?_
          rotate_left
          · intro W hSW
            go_simp
            try with_reducible rfl
          simp only [Act.put, List.setIfInBounds_toArray, List.set_cons_zero, List.set_cons_succ]
          refine wpAnyL_take' (i := 10) (v := ?_) (oi := { dst := some 71, op := Op.load 3 (Operand.tmp 70), type := 3, pos := "law.go:109", after := #[{ on := 9, ground := Ground.data }, { on := 1, ground := Ground.guard }], guard := some (1, true) }) rfl (by kernel_rfl) (by kernel_rfl) (by kernel_rfl) (by kernel_rfl) rfl (fun _ _ _ h => h) (Or.inl ⟨by rfl, ?_⟩) HS0.out ?_
          rotate_left
          · intro W hSW
            go_simp
            try with_reducible rfl
          simp only [Act.put, List.setIfInBounds_toArray, List.set_cons_zero, List.set_cons_succ]
          refine wpAnyL_take' (i := 11) (v := ?_) (oi := { dst := some 72, op := Op.indexAddr 34 (Operand.tmp 69) (Operand.tmp 71), type := 0, pos := "law.go:109", after := #[{ on := 8, ground := Ground.data }, { on := 10, ground := Ground.data }, { on := 1, ground := Ground.guard }], guard := some (1, true) }) rfl (by kernel_rfl) (by kernel_rfl) (by kernel_rfl) (by kernel_rfl) rfl (fun _ _ _ h => h) (Or.inl ⟨by rfl, ?_⟩) HS0.out ?_
          rotate_left
          · intro W hSW
            go_simp
            try with_reducible rfl
          simp only [Act.put, List.setIfInBounds_toArray, List.set_cons_zero, List.set_cons_succ]
          refine wpAnyL_take' (i := 12) (v := ?_) (oi := { dst := some 73, op := Op.load 27 (Operand.tmp 72), type := 27, pos := "law.go:109", after := #[{ on := 11, ground := Ground.data }, { on := 1, ground := Ground.guard }], guard := some (1, true) }) rfl (by kernel_rfl) (by kernel_rfl) (by kernel_rfl) (by kernel_rfl) rfl (fun _ _ _ h => h) (Or.inl ⟨by rfl, ?_⟩) HS0.out ?_
          rotate_left
          · intro W hSW
            go_simp
            try with_reducible rfl
          simp only [Act.put, List.setIfInBounds_toArray, List.set_cons_zero, List.set_cons_succ]
          refine wpAnyL_two (i := 7) (j := 13) (oi := { dst := some 68, op := Op.buildSlice 34 1 #[(0, Operand.tmp 67)], type := 34, pos := "law.go:109", after := #[{ on := 6, ground := Ground.data }, { on := 1, ground := Ground.guard }], guard := some (1, true) }) (oj := { dst := some 74, op := Op.buildSlice 34 1 #[(0, Operand.tmp 73)], type := 34, pos := "law.go:109", after := #[{ on := 12, ground := Ground.data }, { on := 1, ground := Ground.guard }], guard := some (1, true) }) (by kernel_rfl) rfl rfl rfl rfl (fun K hK => ?_) (fun K hK => ?_)
          · go_simp
            have Ba : Below W2.heap.size W2 (W2.drew.alloc (Obj.cells #[Value.slice qa qn qc] 27)) := ((Below.refl _ W2).drew).alloc (Nat.le_refl _) _
            refine hK.out _ _ (fun _ => HST.out _ Ba) ?_
            clear hK
            refine wpAnyL_one' (i := 13) (o := { dst := some 74, op := Op.buildSlice 34 1 #[(0, Operand.tmp 73)], type := 34, pos := "law.go:109", after := #[{ on := 12, ground := Ground.data }, { on := 1, ground := Ground.guard }], guard := some (1, true) }) (by kernel_rfl) rfl rfl (fun K hK => ?_)
            go_simp
            obtain ⟨Bb, e1, e2⟩ := two_alloc W2 (Value.slice qa qn qc) (Value.slice la ln lc) 27
            refine hK.out _ _ (fun _ => HST.out _ Bb) ?_
            clear hK
            generalize ((W2.alloc (Obj.cells #[Value.slice qa qn qc] 27)).alloc (Obj.cells #[Value.slice la ln lc] 27)).drew = W4 at *
            try simp only [Act.put, List.setIfInBounds_toArray, List.set_cons_zero, List.set_cons_succ]
            refine wpAnyL_one' (i := 14) (o := { dst := some 75, op := Op.call { callee := Callee.value (Operand.func 24), args := #[Operand.tmp 68, Operand.tmp 74], argTypes := #[34, 34] }, type := 4, pos := "law.go:109", after := #[{ on := 7, ground := Ground.data }, { on := 13, ground := Ground.data }, { on := 1, ground := Ground.chain }, { on := 1, ground := Ground.guard }], guard := some (1, true) }) (by kernel_rfl) rfl rfl (fun K hK => ?_)
            go_simp
            refine (HWI.out rfl W4 W2.heap.size (W2.heap.size + 1) Bb e1 e2).mono ?_
            rintro e w5 ⟨rfl, hb5⟩
            have B5 := below_then Bb hb5 Bb.size
            refine hK.out _ _ (fun _ => HST.out _ B5) ?_
            clear hK
            try simp only [Act.put, List.setIfInBounds_toArray, List.set_cons_zero, List.set_cons_succ]
            refine wpAnyL_take' (i := 15) (v := ?_) (oi := { dst := some 76, op := Op.unOp UnOp.not 4 (Operand.tmp 75), type := 4, pos := "law.go:109", after := #[{ on := 14, ground := Ground.data }, { on := 1, ground := Ground.guard }], guard := some (1, true) }) rfl (by kernel_rfl) (by kernel_rfl) (by kernel_rfl) (by kernel_rfl) rfl (fun _ _ _ h => h) (Or.inl ⟨by rfl, ?_⟩) (HST.out _ B5) ?_
            rotate_left
            · intro W hSW
              go_simp
              try with_reducible rfl
            simp only [Act.put, List.setIfInBounds_toArray, List.set_cons_zero, List.set_cons_succ]
            refine wpAnyL_take' (i := 16) (v := ?_) (oi := { dst := some 77, op := Op.pick (Operand.tmp 62) (Operand.tmp 76) (Operand.const (Value.bool false)), type := 4, pos := "law.go:109", after := #[{ on := 1, ground := Ground.data }, { on := 15, ground := Ground.data }], guard := none }) rfl (by kernel_rfl) (by kernel_rfl) (by kernel_rfl) (by kernel_rfl) rfl (fun _ _ _ h => h) (Or.inl ⟨by rfl, ?_⟩) (HST.out _ B5) ?_
            rotate_left
            · intro W hSW
              go_simp
              try with_reducible rfl
            simp only [Act.put, List.setIfInBounds_toArray, List.set_cons_zero, List.set_cons_succ]
            refine wpAnyL_done (by kernel_rfl) ?_ _
            go_wp2_with fail
            go_meet
            exact ⟨rfl, B5⟩
          · go_simp
            have Ba : Below W2.heap.size W2 (W2.drew.alloc (Obj.cells #[Value.slice la ln lc] 27)) := ((Below.refl _ W2).drew).alloc (Nat.le_refl _) _
            refine hK.out _ _ (fun _ => HST.out _ Ba) ?_
            clear hK
            refine wpAnyL_one' (i := 7) (o := { dst := some 68, op := Op.buildSlice 34 1 #[(0, Operand.tmp 67)], type := 34, pos := "law.go:109", after := #[{ on := 6, ground := Ground.data }, { on := 1, ground := Ground.guard }], guard := some (1, true) }) (by kernel_rfl) rfl rfl (fun K hK => ?_)
            go_simp
            obtain ⟨Bb, e1, e2⟩ := two_alloc W2 (Value.slice la ln lc) (Value.slice qa qn qc) 27
            refine hK.out _ _ (fun _ => HST.out _ Bb) ?_
            clear hK
            generalize ((W2.alloc (Obj.cells #[Value.slice la ln lc] 27)).alloc (Obj.cells #[Value.slice qa qn qc] 27)).drew = W4 at *
            try simp only [Act.put, List.setIfInBounds_toArray, List.set_cons_zero, List.set_cons_succ]
            refine wpAnyL_one' (i := 14) (o := { dst := some 75, op := Op.call { callee := Callee.value (Operand.func 24), args := #[Operand.tmp 68, Operand.tmp 74], argTypes := #[34, 34] }, type := 4, pos := "law.go:109", after := #[{ on := 7, ground := Ground.data }, { on := 13, ground := Ground.data }, { on := 1, ground := Ground.chain }, { on := 1, ground := Ground.guard }], guard := some (1, true) }) (by kernel_rfl) rfl rfl (fun K hK => ?_)
            go_simp
            refine (HWI.out rfl W4 (W2.heap.size + 1) W2.heap.size Bb e2 e1).mono ?_
            rintro e w5 ⟨rfl, hb5⟩
            have B5 := below_then Bb hb5 Bb.size
            refine hK.out _ _ (fun _ => HST.out _ B5) ?_
            clear hK
            try simp only [Act.put, List.setIfInBounds_toArray, List.set_cons_zero, List.set_cons_succ]
            refine wpAnyL_take' (i := 15) (v := ?_) (oi := { dst := some 76, op := Op.unOp UnOp.not 4 (Operand.tmp 75), type := 4, pos := "law.go:109", after := #[{ on := 14, ground := Ground.data }, { on := 1, ground := Ground.guard }], guard := some (1, true) }) rfl (by kernel_rfl) (by kernel_rfl) (by kernel_rfl) (by kernel_rfl) rfl (fun _ _ _ h => h) (Or.inl ⟨by rfl, ?_⟩) (HST.out _ B5) ?_
            rotate_left
            · intro W hSW
              go_simp
              try with_reducible rfl
            simp only [Act.put, List.setIfInBounds_toArray, List.set_cons_zero, List.set_cons_succ]
            refine wpAnyL_take' (i := 16) (v := ?_) (oi := { dst := some 77, op := Op.pick (Operand.tmp 62) (Operand.tmp 76) (Operand.const (Value.bool false)), type := 4, pos := "law.go:109", after := #[{ on := 1, ground := Ground.data }, { on := 15, ground := Ground.data }], guard := none }) rfl (by kernel_rfl) (by kernel_rfl) (by kernel_rfl) (by kernel_rfl) rfl (fun _ _ _ h => h) (Or.inl ⟨by rfl, ?_⟩) (HST.out _ B5) ?_
            rotate_left
            · intro W hSW
              go_simp
              try with_reducible rfl
            simp only [Act.put, List.setIfInBounds_toArray, List.set_cons_zero, List.set_cons_succ]
            refine wpAnyL_done (by kernel_rfl) ?_ _
            go_wp2_with fail
            go_meet
            exact ⟨rfl, B5⟩
      case rest =>
        obtain ⟨rfl, hc⟩ := hcut
        have hc2 : Below W1.heap.size W1 wc := below_then hb2 hc hb2.size
        obtain ⟨hbc, hslc, c0, c1⟩ := HP1.out _ hc2
        have xcc : wc.cell? ⟨XB, 0, none⟩ = some (.int .i64 q) := (hc.cell (p := ⟨XB, 0, none⟩) hXBl).trans xc
        have hXBc : XB < wc.heap.size := World.block_lt_of_cell? wc _ xcc
        have HALL : Hid (allE Le (r.map fun x => x.sym.toNat) (k + 1) = (ab && onb Le q)) := by
          show _ = _
          rw [allE_succ HQ.out, HAB.out]
        clear hc xc hXBl hb2 hbw hsl q0 q1 HS2 hib
        go_upto_region 16 with fail
        go_cut [9] from 78 to 85 (fun t9 wx => t9 = .bool (ab && onb Le q) ∧ wx = wc)
        case first =>
          obtain ⟨eb, eo, hea, ce⟩ := HRE.out wc hbc q hqn
          subst hea
          cases ab with
          | true =>
            go_wp2_with fail
            go_meet
            exact ⟨by simp, rfl⟩
          | false =>
            go_wp2_with fail
            go_meet
            exact ⟨by simp, rfl⟩
        case rest =>
        obtain ⟨rfl, rfl⟩ := hcut
        go_upto_region 17 with fail
        have HAH : Hid (∀ W vl, Below wc.heap.size wc W → SlT (r.drop (k + 1)) vl W → ∀ vb, SlI (rowAt Ro l) vb W → Calls Tryd.prog 20 #[.agg #[.slice ta f.terms.length tc, .slice na f.nons.length nc, .slice pa f.prods.length pc], vl, vb] W fun e w' => ∃ v, e = .returned v ∧ HoldL (AheadP f (r.drop (k + 1)) (rowAt Ro l)) v w' ∧ Below W.heap.size W w') := fun W vl hb hv vb hvb => by
          have hbW := HB2.out _ (below_then hbc hb hbc.size)
          refine (HOK.out.pA f ⟨ta, tc, na, nc, pa, pc⟩ (r.drop (k + 1)) (rowAt Ro l) vl vb W (HFF.out _ hbW) HFP.out (HTB.out _ hbW) hv hvb (by simp; omega) (by have := row_le_gives HGF.out.2.1 (fun s t h => bound_O HFP.out h) l; omega)).mono ?_
          rintro e w' ⟨v, rfl, h1, h2⟩
          exact ⟨v, rfl, h1, h2⟩
        go_cut [12] from 86 to 97 (fun t12 wx => Below wc.heap.size wc wx ∧ ∃ sa sn sc, t12 = .slice sa sn sc ∧ HoldL (AheadP f (r.drop (k + 1)) (rowAt Ro l)) (.slice sa sn sc) wx)
        case first =>
          obtain ⟨ob, oo, vo, hoa, co, slo⟩ := HRO.out wc hbc l hln
          subst hoa
          obtain ⟨va, vc, rfl, _⟩ := id slo
          obtain ⟨z0, z1, z2⟩ := HXB.out wc hbc
          have hobl := World.block_lt_of_cell? wc _ co
          simp only at hobl
          have hPBc := World.block_lt_of_cell? wc _ c0
          simp only at hPBc
          have hwc : w.heap.size < wc.heap.size := World.block_lt_of_cell? wc _ z0
          have HSO : Hid (SlI (rowAt Ro l) (.slice va (rowAt Ro l).length vc) wc) := slo
          clear slo
          generalize (rowAt Ro l).length = vn at *
          have HS0 : Hid ((fun W => W.cell? ⟨w.heap.size, 0, none⟩ = some (.slice ta f.terms.length tc) ∧ W.cell? ⟨w.heap.size, 1, none⟩ = some (.slice na f.nons.length nc) ∧ W.cell? ⟨w.heap.size, 2, none⟩ = some (.slice pa f.prods.length pc) ∧ W.cell? ⟨PB, 0, none⟩ = some (.int .i64 l) ∧ W.cell? ⟨PB, 1, none⟩ = some (.slice (some ⟨ib, io, none⟩) r.length rc) ∧ W.cell? ⟨ob, oo + l, none⟩ = some (.slice va vn vc) ∧ Below wc.heap.size wc W) wc.drew) := ⟨z0, z1, z2, c0, c1, co, (Below.refl _ _).drew⟩
          have HST : Hid (∀ W, Below wc.heap.size wc W → (fun W => W.cell? ⟨w.heap.size, 0, none⟩ = some (.slice ta f.terms.length tc) ∧ W.cell? ⟨w.heap.size, 1, none⟩ = some (.slice na f.nons.length nc) ∧ W.cell? ⟨w.heap.size, 2, none⟩ = some (.slice pa f.prods.length pc) ∧ W.cell? ⟨PB, 0, none⟩ = some (.int .i64 l) ∧ W.cell? ⟨PB, 1, none⟩ = some (.slice (some ⟨ib, io, none⟩) r.length rc) ∧ W.cell? ⟨ob, oo + l, none⟩ = some (.slice va vn vc) ∧ Below wc.heap.size wc W) W) := fun W hb =>
            ⟨(hb.cell (p := ⟨w.heap.size, 0, none⟩) hwc).trans z0, (hb.cell (p := ⟨w.heap.size, 1, none⟩) hwc).trans z1, (hb.cell (p := ⟨w.heap.size, 2, none⟩) hwc).trans z2, (hb.cell (p := ⟨PB, 0, none⟩) hPBc).trans c0, (hb.cell (p := ⟨PB, 1, none⟩) hPBc).trans c1, (hb.cell (p := ⟨ob, oo + l, none⟩) hobl).trans co, hb⟩
          obtain ⟨_, _, e, hIr, _, hcp, _⟩ := id hslc
          cases e
          have HIr : Hid (ItsAt r (some ⟨ib, io, none⟩) wc) := hIr
          clear z0 z1 z2 co hIr
          have hwm : IntKind.i64.wrap ((k : Int) + 1) = k + 1 := IntWalk.i64_in _ (by omega)
          have hmi : (0 : Int) ≤ (k : Int) + 1 := by omega
          have hmp : (k : Int) + 1 ≤ r.length := by omega
          have hmt : ((k : Int) + 1).toNat = k + 1 := by omega
          by_cases hcm : rc = k + 1
          · subst hcm
            have hvs : SlT (r.drop (k + 1)) (.slice (some ⟨ib, io, none⟩) 0 0) wc := by
              rw [List.drop_of_length_le (by omega)]
              exact ⟨some ⟨ib, io, none⟩, 0, rfl, fun i x hi => by simp at hi, (fun h => by cases h), Nat.le_refl _, by omega⟩
            have HVS : Hid (SlT (r.drop (k + 1)) (.slice (some ⟨ib, io, none⟩) 0 0) wc) := hvs
            clear hvs
            refine wp_region_L (fun W => W.cell? ⟨w.heap.size, 0, none⟩ = some (.slice ta f.terms.length tc) ∧ W.cell? ⟨w.heap.size, 1, none⟩ = some (.slice na f.nons.length nc) ∧ W.cell? ⟨w.heap.size, 2, none⟩ = some (.slice pa f.prods.length pc) ∧ W.cell? ⟨PB, 0, none⟩ = some (.int .i64 l) ∧ W.cell? ⟨PB, 1, none⟩ = some (.slice (some ⟨ib, io, none⟩) r.length (k + 1)) ∧ W.cell? ⟨ob, oo + l, none⟩ = some (.slice va vn vc) ∧ Below wc.heap.size wc W) 13 (by kernel_rfl) 13 rfl ?_
            refine wpL_take (v := ?_) (oi := { dst := some 86, op := Op.load 25 (Operand.tmp 1), type := 25, pos := "law.go:113", after := #[], guard := none }) (by decide) rfl (by kernel_rfl) (by kernel_rfl) (by kernel_rfl) (by kernel_rfl) (fun _ _ _ h => h) (Or.inl ⟨by rfl, ?_⟩) HS0.out ?_
            rotate_left
            · intro W hSW
              go_simp
              try with_reducible rfl
            simp only [Act.put, List.setIfInBounds_toArray, List.set_cons_zero, List.set_cons_succ]
            refine wpL_take (v := ?_) (oi := { dst := some 87, op := Op.fieldAddr 45 (Operand.tmp 8) 1, type := 0, pos := "law.go:113", after := #[], guard := none }) (by decide) rfl (by kernel_rfl) (by kernel_rfl) (by kernel_rfl) (by kernel_rfl) (fun _ _ _ h => h) (Or.inl ⟨by rfl, ?_⟩) HS0.out ?_
            rotate_left
            · intro W hSW
              go_simp
              try with_reducible rfl
            simp only [Act.put, List.setIfInBounds_toArray, List.set_cons_zero, List.set_cons_succ]
            refine wpL_take (v := ?_) (oi := { dst := some 88, op := Op.load 26 (Operand.tmp 87), type := 26, pos := "law.go:113", after := #[{ on := 1, ground := Ground.data }], guard := none }) (by decide) rfl (by kernel_rfl) (by kernel_rfl) (by kernel_rfl) (by kernel_rfl) (fun _ _ _ h => h) (Or.inl ⟨by rfl, ?_⟩) HS0.out ?_
            rotate_left
            · intro W hSW
              go_simp
              try with_reducible rfl
            simp only [Act.put, List.setIfInBounds_toArray, List.set_cons_zero, List.set_cons_succ]
            refine wpL_take (v := ?_) (oi := { dst := some 89, op := Op.move (Operand.tmp 10), type := 3, pos := "law.go:113", after := #[], guard := none }) (by decide) rfl (by kernel_rfl) (by kernel_rfl) (by kernel_rfl) (by kernel_rfl) (fun _ _ _ h => h) (Or.inl ⟨by rfl, ?_⟩) HS0.out ?_
            rotate_left
            · intro W hSW
              go_simp
              try with_reducible rfl
            simp only [Act.put, List.setIfInBounds_toArray, List.set_cons_zero, List.set_cons_succ]
            refine wpL_take (v := ?_) (oi := { dst := some 90, op := Op.binOp BinOp.add 3 (Operand.tmp 89) (Operand.const (Value.int IntKind.i64 1)) 3, type := 3, pos := "law.go:113", after := #[{ on := 3, ground := Ground.data }], guard := none }) (by decide) rfl (by kernel_rfl) (by kernel_rfl) (by kernel_rfl) (by kernel_rfl) (fun _ _ _ h => h) (Or.inl ⟨by rfl, ?_⟩) HS0.out ?_
            rotate_left
            · intro W hSW
              go_simp
              try with_reducible rfl
            simp only [Act.put, List.setIfInBounds_toArray, List.set_cons_zero, List.set_cons_succ]
            refine wpL_take (v := ?_) (oi := { dst := some 91, op := Op.slice 26 (Operand.tmp 88) (some (Operand.tmp 90)) none none, type := 26, pos := "law.go:113", after := #[{ on := 2, ground := Ground.data }, { on := 4, ground := Ground.data }], guard := none }) (by decide) rfl (by kernel_rfl) (by kernel_rfl) (by kernel_rfl) (by kernel_rfl) (fun _ _ _ h => h) (Or.inl ⟨by rfl, ?_⟩) HS0.out ?_
            rotate_left
            · intro W hSW
              go_simp
              try with_reducible rfl
            simp only [Act.put, List.setIfInBounds_toArray, List.set_cons_zero, List.set_cons_succ]
            refine wpL_take (v := ?_) (oi := { dst := some 92, op := Op.move (Operand.tmp 4), type := 34, pos := "law.go:113", after := #[], guard := none }) (by decide) rfl (by kernel_rfl) (by kernel_rfl) (by kernel_rfl) (by kernel_rfl) (fun _ _ _ h => h) (Or.inl ⟨by rfl, ?_⟩) HS0.out ?_
            rotate_left
            · intro W hSW
              go_simp
              try with_reducible rfl
            simp only [Act.put, List.setIfInBounds_toArray, List.set_cons_zero, List.set_cons_succ]
            refine wpL_take (v := ?_) (oi := { dst := some 93, op := Op.fieldAddr 45 (Operand.tmp 8) 0, type := 0, pos := "law.go:113", after := #[], guard := none }) (by decide) rfl (by kernel_rfl) (by kernel_rfl) (by kernel_rfl) (by kernel_rfl) (fun _ _ _ h => h) (Or.inl ⟨by rfl, ?_⟩) HS0.out ?_
            rotate_left
            · intro W hSW
              go_simp
              try with_reducible rfl
            simp only [Act.put, List.setIfInBounds_toArray, List.set_cons_zero, List.set_cons_succ]
            refine wpL_take (v := ?_) (oi := { dst := some 94, op := Op.load 3 (Operand.tmp 93), type := 3, pos := "law.go:113", after := #[{ on := 7, ground := Ground.data }], guard := none }) (by decide) rfl (by kernel_rfl) (by kernel_rfl) (by kernel_rfl) (by kernel_rfl) (fun _ _ _ h => h) (Or.inl ⟨by rfl, ?_⟩) HS0.out ?_
            rotate_left
            · intro W hSW
              go_simp
              try with_reducible rfl
            simp only [Act.put, List.setIfInBounds_toArray, List.set_cons_zero, List.set_cons_succ]
            refine wpL_take (v := ?_) (oi := { dst := some 95, op := Op.indexAddr 34 (Operand.tmp 92) (Operand.tmp 94), type := 0, pos := "law.go:113", after := #[{ on := 6, ground := Ground.data }, { on := 8, ground := Ground.data }], guard := none }) (by decide) rfl (by kernel_rfl) (by kernel_rfl) (by kernel_rfl) (by kernel_rfl) (fun _ _ _ h => h) (Or.inl ⟨by rfl, ?_⟩) HS0.out ?_
            rotate_left
            · intro W hSW
              go_simp
              try with_reducible rfl
            simp only [Act.put, List.setIfInBounds_toArray, List.set_cons_zero, List.set_cons_succ]
            refine wpL_take (v := ?_) (oi := { dst := some 96, op := Op.load 27 (Operand.tmp 95), type := 27, pos := "law.go:113", after := #[{ on := 9, ground := Ground.data }], guard := none }) (by decide) rfl (by kernel_rfl) (by kernel_rfl) (by kernel_rfl) (by kernel_rfl) (fun _ _ _ h => h) (Or.inl ⟨by rfl, ?_⟩) HS0.out ?_
            rotate_left
            · intro W hSW
              go_simp
              try with_reducible rfl
            simp only [Act.put, List.setIfInBounds_toArray, List.set_cons_zero, List.set_cons_succ]
            refine wpL_one (o := { dst := some 97, op := Op.call { callee := Callee.value (Operand.func 20), args := #[Operand.tmp 86, Operand.tmp 91, Operand.tmp 96], argTypes := #[25, 26, 27] }, type := 27, pos := "law.go:113", after := #[{ on := 0, ground := Ground.data }, { on := 5, ground := Ground.data }, { on := 10, ground := Ground.data }], guard := none }) (by decide) (by kernel_rfl) rfl (fun K hK => ?_)
            go_simp
            refine (HAH.out wc.drew _ (Below.refl _ _).drew (HVS.out.next (Below.refl _ _).drew) _ (HSO.out.next (Below.refl _ _).drew)).mono ?_
            rintro e w5 ⟨v, rfl, h5, hb5⟩
            have B5 : Below wc.heap.size wc w5 := ((Below.refl _ wc).drew).trans hb5
            obtain ⟨L5, r1, r2, r3⟩ := id h5
            obtain ⟨sa, sc, rfl, _⟩ := id r3
            generalize L5.length = sn at *
            refine hK.out _ _ (fun _ => HST.out _ B5) ?_
            clear hK
            try simp only [Act.put, List.setIfInBounds_toArray, List.set_cons_zero, List.set_cons_succ]
            refine wpL_take (v := ?_) (oi := { dst := some 12, op := Op.assign (Operand.tmp 97), type := 27, pos := "law.go:113", after := #[{ on := 11, ground := Ground.data }, { on := 11, ground := Ground.chain }, { on := 0, ground := Ground.phase }, { on := 1, ground := Ground.phase }, { on := 2, ground := Ground.phase }, { on := 3, ground := Ground.phase }, { on := 4, ground := Ground.phase }, { on := 5, ground := Ground.phase }, { on := 6, ground := Ground.phase }, { on := 7, ground := Ground.phase }, { on := 8, ground := Ground.phase }, { on := 9, ground := Ground.phase }, { on := 10, ground := Ground.phase }, { on := 11, ground := Ground.phase }], guard := none }) (by decide) rfl (by kernel_rfl) (by kernel_rfl) (by kernel_rfl) (by kernel_rfl) (fun _ _ _ h => h) (Or.inl ⟨by rfl, ?_⟩) (HST.out _ B5) ?_
            rotate_left
            · intro W hSW
              go_simp
              try with_reducible rfl
            simp only [Act.put, List.setIfInBounds_toArray, List.set_cons_zero, List.set_cons_succ]
            refine wpAnyL_done (by kernel_rfl) ?_ _
            go_wp2_with fail
            go_meet
            exact ⟨B5, sa, sn, sc, rfl, h5⟩
          · have hvs : SlT (r.drop (k + 1)) (.slice (some ⟨ib, io + (k + 1) * 3, none⟩) (r.length - (k + 1)) (rc - (k + 1))) wc := by
              refine ⟨some ⟨ib, io + (k + 1) * 3, none⟩, rc - (k + 1), by simp, fun i x hi => ?_, (fun h => by cases h), by simp; omega, by omega⟩
              rw [List.getElem?_drop] at hi
              obtain ⟨b', o', e', y1, y2, y3, y4, y5⟩ := HIr.out _ x hi
              cases e'
              have ee : io + (k + 1) * 3 + i * 3 = io + (k + 1 + i) * 3 := by omega
              exact ⟨ib, io + (k + 1) * 3, rfl, y1, by rw [ee]; exact y2, by rw [ee]; exact y3, by rw [ee]; exact y4, y5⟩
            have HVS : Hid (SlT (r.drop (k + 1)) (.slice (some ⟨ib, io + (k + 1) * 3, none⟩) (r.length - (k + 1)) (rc - (k + 1))) wc) := hvs
            have hcm2 : ¬ rc - (k + 1) = 0 := by omega
            clear hvs
            refine wp_region_L (fun W => W.cell? ⟨w.heap.size, 0, none⟩ = some (.slice ta f.terms.length tc) ∧ W.cell? ⟨w.heap.size, 1, none⟩ = some (.slice na f.nons.length nc) ∧ W.cell? ⟨w.heap.size, 2, none⟩ = some (.slice pa f.prods.length pc) ∧ W.cell? ⟨PB, 0, none⟩ = some (.int .i64 l) ∧ W.cell? ⟨PB, 1, none⟩ = some (.slice (some ⟨ib, io, none⟩) r.length rc) ∧ W.cell? ⟨ob, oo + l, none⟩ = some (.slice va vn vc) ∧ Below wc.heap.size wc W) 13 (by kernel_rfl) 13 rfl ?_
            refine wpL_take (v := ?_) (oi := { dst := some 86, op := Op.load 25 (Operand.tmp 1), type := 25, pos := "law.go:113", after := #[], guard := none }) (by decide) rfl (by kernel_rfl) (by kernel_rfl) (by kernel_rfl) (by kernel_rfl) (fun _ _ _ h => h) (Or.inl ⟨by rfl, ?_⟩) HS0.out ?_
            rotate_left
            · intro W hSW
              go_simp
              try with_reducible rfl
            simp only [Act.put, List.setIfInBounds_toArray, List.set_cons_zero, List.set_cons_succ]
            refine wpL_take (v := ?_) (oi := { dst := some 87, op := Op.fieldAddr 45 (Operand.tmp 8) 1, type := 0, pos := "law.go:113", after := #[], guard := none }) (by decide) rfl (by kernel_rfl) (by kernel_rfl) (by kernel_rfl) (by kernel_rfl) (fun _ _ _ h => h) (Or.inl ⟨by rfl, ?_⟩) HS0.out ?_
            rotate_left
            · intro W hSW
              go_simp
              try with_reducible rfl
            simp only [Act.put, List.setIfInBounds_toArray, List.set_cons_zero, List.set_cons_succ]
            refine wpL_take (v := ?_) (oi := { dst := some 88, op := Op.load 26 (Operand.tmp 87), type := 26, pos := "law.go:113", after := #[{ on := 1, ground := Ground.data }], guard := none }) (by decide) rfl (by kernel_rfl) (by kernel_rfl) (by kernel_rfl) (by kernel_rfl) (fun _ _ _ h => h) (Or.inl ⟨by rfl, ?_⟩) HS0.out ?_
            rotate_left
            · intro W hSW
              go_simp
              try with_reducible rfl
            simp only [Act.put, List.setIfInBounds_toArray, List.set_cons_zero, List.set_cons_succ]
            refine wpL_take (v := ?_) (oi := { dst := some 89, op := Op.move (Operand.tmp 10), type := 3, pos := "law.go:113", after := #[], guard := none }) (by decide) rfl (by kernel_rfl) (by kernel_rfl) (by kernel_rfl) (by kernel_rfl) (fun _ _ _ h => h) (Or.inl ⟨by rfl, ?_⟩) HS0.out ?_
            rotate_left
            · intro W hSW
              go_simp
              try with_reducible rfl
            simp only [Act.put, List.setIfInBounds_toArray, List.set_cons_zero, List.set_cons_succ]
            refine wpL_take (v := ?_) (oi := { dst := some 90, op := Op.binOp BinOp.add 3 (Operand.tmp 89) (Operand.const (Value.int IntKind.i64 1)) 3, type := 3, pos := "law.go:113", after := #[{ on := 3, ground := Ground.data }], guard := none }) (by decide) rfl (by kernel_rfl) (by kernel_rfl) (by kernel_rfl) (by kernel_rfl) (fun _ _ _ h => h) (Or.inl ⟨by rfl, ?_⟩) HS0.out ?_
            rotate_left
            · intro W hSW
              go_simp
              try with_reducible rfl
            simp only [Act.put, List.setIfInBounds_toArray, List.set_cons_zero, List.set_cons_succ]
            refine wpL_take (v := ?_) (oi := { dst := some 91, op := Op.slice 26 (Operand.tmp 88) (some (Operand.tmp 90)) none none, type := 26, pos := "law.go:113", after := #[{ on := 2, ground := Ground.data }, { on := 4, ground := Ground.data }], guard := none }) (by decide) rfl (by kernel_rfl) (by kernel_rfl) (by kernel_rfl) (by kernel_rfl) (fun _ _ _ h => h) (Or.inl ⟨by rfl, ?_⟩) HS0.out ?_
            rotate_left
            · intro W hSW
              go_simp
              try with_reducible rfl
            simp only [Act.put, List.setIfInBounds_toArray, List.set_cons_zero, List.set_cons_succ]
            refine wpL_take (v := ?_) (oi := { dst := some 92, op := Op.move (Operand.tmp 4), type := 34, pos := "law.go:113", after := #[], guard := none }) (by decide) rfl (by kernel_rfl) (by kernel_rfl) (by kernel_rfl) (by kernel_rfl) (fun _ _ _ h => h) (Or.inl ⟨by rfl, ?_⟩) HS0.out ?_
            rotate_left
            · intro W hSW
              go_simp
              try with_reducible rfl
            simp only [Act.put, List.setIfInBounds_toArray, List.set_cons_zero, List.set_cons_succ]
            refine wpL_take (v := ?_) (oi := { dst := some 93, op := Op.fieldAddr 45 (Operand.tmp 8) 0, type := 0, pos := "law.go:113", after := #[], guard := none }) (by decide) rfl (by kernel_rfl) (by kernel_rfl) (by kernel_rfl) (by kernel_rfl) (fun _ _ _ h => h) (Or.inl ⟨by rfl, ?_⟩) HS0.out ?_
            rotate_left
            · intro W hSW
              go_simp
              try with_reducible rfl
            simp only [Act.put, List.setIfInBounds_toArray, List.set_cons_zero, List.set_cons_succ]
            refine wpL_take (v := ?_) (oi := { dst := some 94, op := Op.load 3 (Operand.tmp 93), type := 3, pos := "law.go:113", after := #[{ on := 7, ground := Ground.data }], guard := none }) (by decide) rfl (by kernel_rfl) (by kernel_rfl) (by kernel_rfl) (by kernel_rfl) (fun _ _ _ h => h) (Or.inl ⟨by rfl, ?_⟩) HS0.out ?_
            rotate_left
            · intro W hSW
              go_simp
              try with_reducible rfl
            simp only [Act.put, List.setIfInBounds_toArray, List.set_cons_zero, List.set_cons_succ]
            refine wpL_take (v := ?_) (oi := { dst := some 95, op := Op.indexAddr 34 (Operand.tmp 92) (Operand.tmp 94), type := 0, pos := "law.go:113", after := #[{ on := 6, ground := Ground.data }, { on := 8, ground := Ground.data }], guard := none }) (by decide) rfl (by kernel_rfl) (by kernel_rfl) (by kernel_rfl) (by kernel_rfl) (fun _ _ _ h => h) (Or.inl ⟨by rfl, ?_⟩) HS0.out ?_
            rotate_left
            · intro W hSW
              go_simp
              try with_reducible rfl
            simp only [Act.put, List.setIfInBounds_toArray, List.set_cons_zero, List.set_cons_succ]
            refine wpL_take (v := ?_) (oi := { dst := some 96, op := Op.load 27 (Operand.tmp 95), type := 27, pos := "law.go:113", after := #[{ on := 9, ground := Ground.data }], guard := none }) (by decide) rfl (by kernel_rfl) (by kernel_rfl) (by kernel_rfl) (by kernel_rfl) (fun _ _ _ h => h) (Or.inl ⟨by rfl, ?_⟩) HS0.out ?_
            rotate_left
            · intro W hSW
              go_simp
              try with_reducible rfl
            simp only [Act.put, List.setIfInBounds_toArray, List.set_cons_zero, List.set_cons_succ]
            refine wpL_one (o := { dst := some 97, op := Op.call { callee := Callee.value (Operand.func 20), args := #[Operand.tmp 86, Operand.tmp 91, Operand.tmp 96], argTypes := #[25, 26, 27] }, type := 27, pos := "law.go:113", after := #[{ on := 0, ground := Ground.data }, { on := 5, ground := Ground.data }, { on := 10, ground := Ground.data }], guard := none }) (by decide) (by kernel_rfl) rfl (fun K hK => ?_)
            go_simp
            refine (HAH.out wc.drew _ (Below.refl _ _).drew (HVS.out.next (Below.refl _ _).drew) _ (HSO.out.next (Below.refl _ _).drew)).mono ?_
            rintro e w5 ⟨v, rfl, h5, hb5⟩
            have B5 : Below wc.heap.size wc w5 := ((Below.refl _ wc).drew).trans hb5
            obtain ⟨L5, r1, r2, r3⟩ := id h5
            obtain ⟨sa, sc, rfl, _⟩ := id r3
            generalize L5.length = sn at *
            refine hK.out _ _ (fun _ => HST.out _ B5) ?_
            clear hK
            try simp only [Act.put, List.setIfInBounds_toArray, List.set_cons_zero, List.set_cons_succ]
            refine wpL_take (v := ?_) (oi := { dst := some 12, op := Op.assign (Operand.tmp 97), type := 27, pos := "law.go:113", after := #[{ on := 11, ground := Ground.data }, { on := 11, ground := Ground.chain }, { on := 0, ground := Ground.phase }, { on := 1, ground := Ground.phase }, { on := 2, ground := Ground.phase }, { on := 3, ground := Ground.phase }, { on := 4, ground := Ground.phase }, { on := 5, ground := Ground.phase }, { on := 6, ground := Ground.phase }, { on := 7, ground := Ground.phase }, { on := 8, ground := Ground.phase }, { on := 9, ground := Ground.phase }, { on := 10, ground := Ground.phase }, { on := 11, ground := Ground.phase }], guard := none }) (by decide) rfl (by kernel_rfl) (by kernel_rfl) (by kernel_rfl) (by kernel_rfl) (fun _ _ _ h => h) (Or.inl ⟨by rfl, ?_⟩) (HST.out _ B5) ?_
            rotate_left
            · intro W hSW
              go_simp
              try with_reducible rfl
            simp only [Act.put, List.setIfInBounds_toArray, List.set_cons_zero, List.set_cons_succ]
            refine wpAnyL_done (by kernel_rfl) ?_ _
            go_wp2_with fail
            go_meet
            exact ⟨B5, sa, sn, sc, rfl, h5⟩
        case rest =>
        obtain ⟨hx, sa, sn, sc, rfl, hL⟩ := hcut
        have hbx := below_then hbc hx hbc.size
        have hb18 := below_then hc2 hx hc2.size
        have x18 := (hx.cell (p := ⟨XB, 0, none⟩) hXBc).trans xcc
        obtain ⟨z0, z1, z2⟩ := HXB.out _ hbx
        obtain ⟨ob, oo, vo, hoa, co, slo⟩ := HRO.out _ hbx q hqn
        subst hoa
        obtain ⟨va, vc, rfl, _⟩ := id slo
        obtain ⟨L5, r1, r2, r3⟩ := hL
        have HW2 : Hid (f.terms.length ≤ q → ∀ (W : World) (b1 b2 : Nat), Below wc.heap.size wc W → W.cell? ⟨b1, 0, none⟩ = some (.slice sa sn sc) → W.cell? ⟨b2, 0, none⟩ = some (.slice va (rowAt Ro q).length vc) → Calls Tryd.prog 24 #[.slice (some ⟨b1, 0, none⟩) 1 1, .slice (some ⟨b2, 0, none⟩) 1 1] W fun e w' => e = .returned (.bool true) ∧ Below W.heap.size W w') := fun hT W b1 b2 hb e1 e2 => by
          have hfol : ∀ t ∈ L5, FolP f q t := fun t ht => closed_O HMEM.out.1 HMEM.out.2.1 HQ.out hT (fun t ht => (rowAt_gives HGF.out.2.1 hln).1 ht) ((r2 t).1 ht)
          have hq' : q < Ro.length := by rw [HGF.out.2.1.1]; exact hqn
          have hr : Rising (rowAt Ro q) := by rw [rowAt_get hq']; exact HGF.out.2.1.2.1 _ (List.getElem_mem hq')
          have hl5 := rising_length (n := 601) r1 (fun t ht => bound_O HFP.out (hfol t ht))
          have hlq := row_le_gives HGF.out.2.1 (fun s t h => bound_O HFP.out h) q
          exact within1 L5 (rowAt Ro q) _ _ b1 b2 W (r3.next hb) (slo.next hb) r1 hr (fun t ht => (rowAt_gives HGF.out.2.1 hqn).2 (hfol t ht)) (by omega) (by omega) e1 e2
        have hob := World.block_lt_of_cell? wc _ co
        simp only at hob
        have hx18 := World.block_lt_of_cell? wc _ x18
        simp only at hx18
        generalize (rowAt Ro q).length = vn at *
        clear r1 r2 r3 slo hx xcc hXBc hslc c0 c1 hbc hc2 HRF HRO HRE HXB HFF HTB HAW HB2 HP1
        by_cases hT : f.terms.length ≤ q
        · have hTi : decide ((f.terms.length : Int) ≤ (q : Int)) = true := decide_eq_true (by omega)
          have hTj : (f.terms.length : Int) ≤ (q : Int) := by omega
          have HT : Hid (f.terms.length ≤ q) := hT
          clear hT
          go_wp2_with fail
          obtain ⟨Bb, e1, e2⟩ := two_alloc' wc (.slice sa sn sc) (.slice va vn vc) 27
          generalize (wc.alloc (Obj.cells #[.slice sa sn sc] 27)).alloc (Obj.cells #[.slice va vn vc] 27) = W8 at *
          refine (HW2.out HT.out W8 wc.heap.size (wc.heap.size + 1) Bb e1 e2).mono ?_
          rintro e w9 ⟨rfl, hb9⟩
          have hB9 := below_then hb18 (below_then Bb hb9 Bb.size) hb18.size
          clear HW2 e1 e2 hb9 Bb
          go_wp2_with fail
          exact ⟨⟨k + 1, by go_num, by omega, by rw [HALL.out], hB9⟩, by simp [intOf]; omega⟩
        · have hTi : decide ((f.terms.length : Int) ≤ (q : Int)) = false := decide_eq_false (by omega)
          have hTj : ¬ (f.terms.length : Int) ≤ (q : Int) := by omega
          have hTk : (q : Int) < (f.terms.length : Int) := by omega
          clear hT
          go_wp2_with fail
          exact ⟨⟨k + 1, by go_num, by omega, by rw [HALL.out], hb18⟩, by simp [intOf]; omega⟩
    · obtain rfl : k = r.length := by omega
      have hpl : f.prods.length ≤ 400 := HFP.out.prods
      obtain ⟨hbw, hsl, q0, q1⟩ := HP1.out _ hbi
      obtain ⟨eb, eo, hea, ce⟩ := HRE.out _ hbw l hln
      subst hea
      obtain ⟨ab, hab⟩ : ∃ ab, allE Le (r.map fun x => x.sym.toNat) r.length = ab := ⟨_, rfl⟩
      rw [hab]
      have HCE : Hid (ab = true → onb Le l = true) := fun h => closed_E HMEM.out.1 hln HGF.out.2.2 (fun y hy => by
        obtain ⟨z, hz, rfl⟩ := List.mem_map.1 hy
        have := HMEM.out.2.1 z hz
        omega) (by rw [List.length_map]; exact hab.trans h)
      clear hsl q1 hab HRF HRO HRE HXB HFF HTB HAW HB2 HP1
      cases ab with
      | true =>
        rw [HCE.out rfl] at ce
        clear HCE
        go_wp2_with fail
        exact ⟨⟨j + 1, by go_num, by omega, hbw⟩, by simp [intOf]; omega⟩
      | false =>
        clear HCE
        go_wp2_with fail
        exact ⟨⟨j + 1, by go_num, by omega, hbw⟩, by simp [intOf]; omega⟩
  · obtain rfl : j = f.prods.length := by omega
    have hAW := HAW.out _ (HB2.out _ hbr)
    have hB := HB2.out _ hbr
    clear HRF HRO HRE HXB HFF HTB HAW HB2
    go_wp2_with fail
    refine hAW.mono ?_
    rintro e w9 ⟨rfl, hb9⟩
    clear hAW
    go_wp2_with fail
    go_ret
    exact ⟨rfl, below_then hB hb9 hB.size⟩
end Go.Proofs.YtckbfiigbckmeaaDoor
