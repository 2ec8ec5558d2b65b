/- Follow of the document. -/
import Derived.Test.YtckbfiigbckmeaaDoorFollowMath
namespace Go.Proofs.YtckbfiigbckmeaaDoor
open Go.RowKit

set_option maxRecDepth 100000 in
set_option maxHeartbeats 6400000 in
theorem rfollow_any (f : Fl) (a : FlA) (w : World) (hf : FlAt f a w) (hp : FitP f) :
    Calls Tryd.prog 18 #[a.val f] w fun e w' => GaveR (FolP f) f w e w' := by
  have hn : f.n ≤ 600 := hp.size
  have hS := fun W => rsize_any f a W hn
  have hE := fun W (hb : Below w.heap.size w W) => rempty_any f a W (hf.next hb) hp
  have hF := fun W (hb : Below w.heap.size w W) => rfirst_any f a W (hf.next hb) hp
  have hA := fun (l : List It) (bh : List Int) (R : List (List Int)) (Le : List Bool) (vl vb vr ve : Value) (W : World) (hl : SlT l vl W) (hb : SlI bh vb W) (hR : SlR R vr W) (hL : SlB Le ve W) (h1 : GivesR (FstP f) f.n R) (h2 : GivesB (fun _ => False) f.gr f.n Le) (hll : l.length ≤ 1000) (hbl : bh.length ≤ 1000) =>
    rahead_any f a l bh R Le vl vb vr ve W hn hl hb hR hL h1.1 h2.1 hll hbl (fun s => first_row_le hn h1 s)
  obtain ⟨i0, hi0, hz0, hz1, hz2⟩ := info_parts info27
  obtain ⟨ta, tc, na, nc, pa, pc⟩ := a
  have X0 := FBox.new f ⟨ta, tc, na, nc, pa, pc⟩ 25 w
  have B0 : Below w.heap.size w (w.alloc (fobj f ⟨ta, tc, na, nc, pa, pc⟩ 25)) := (Below.refl _ _).alloc (Nat.le_refl _) _
  obtain ⟨h0, h1, h2, h3, h4, h5, h6, h7⟩ := hf
  unfold fobj at X0 B0
  unfold FlA.val at hS hE hF hA ⊢
  simp only at *
  clear h0 h1
  have HS : Hid (∀ W, Calls Tryd.prog 28 #[.agg #[.slice ta f.terms.length tc, .slice na f.nons.length nc, .slice pa f.prods.length pc]] W fun e w' => e = .returned (.int .i64 f.n) ∧ Below W.heap.size W w') := hS
  have HE : Hid (∀ W, Below w.heap.size w W → Calls Tryd.prog 11 #[.agg #[.slice ta f.terms.length tc, .slice na f.nons.length nc, .slice pa f.prods.length pc]] W fun e w' => GaveB (fun _ => False) f W e w') := hE
  have HF : Hid (∀ W, Below w.heap.size w W → Calls Tryd.prog 16 #[.agg #[.slice ta f.terms.length tc, .slice na f.nons.length nc, .slice pa f.prods.length pc]] W fun e w' => GaveR (FstP f) f W e w') := hF
  have HA : Hid (∀ (l : List It) (bh : List Int) (R : List (List Int)) (Le : List Bool) (vl vb vr ve : Value) (W : World) (_ : SlT l vl W) (_ : SlI bh vb W) (_ : SlR R vr W) (_ : SlB Le ve W) (_ : GivesR (FstP f) f.n R) (_ : GivesB (fun _ => False) f.gr f.n Le) (_ : l.length ≤ 1000) (_ : bh.length ≤ 1000), Calls Tryd.prog 33 #[.agg #[.slice ta f.terms.length tc, .slice na f.nons.length nc, .slice pa f.prods.length pc], vl, vb, vr, ve] W fun e w' => ∃ v', e = .returned v' ∧ SlI (aheadL f.n R Le bh [] l) v' w' ∧ Apart W.heap.size v' ∧ Below W.heap.size W w') := hA
  clear hS hE hF hA
  obtain ⟨N, hN⟩ : ∃ N, f.n = N := ⟨_, rfl⟩
  rw [hN] at hn HS HA
  have HNN : Hid (f.n = N) := hN
  clear hN
  go_enter Tryd.func18, Tryd.ntmps18
  go_wp2_with fail
  refine (HS.out _).mono ?_
  rintro e w1 ⟨rfl, hb1⟩
  have X1 := X0.next hb1
  have B1 := below_then B0 hb1 B0.size
  clear X0 B0 hb1 HS
  go_wp2_with (at_make; refine wpList_make_full _ rfl _ _ 34 rfl w1.heap.size 27 i0 _ 1 Tryd.underlying34 hi0 hz0 hz1 _ _ _ _ N rfl rfl rfl rfl (by rw [hz2]; omega) (by unfold maxLen; omega) (Nat.le_refl _) ?_)
  intro w2 hown hg2
  have R0 : RowR N w1.heap.size w1 (fun _ => True) (List.replicate N []) w2 := RowR.made (by simpa using hown) hg2 trivial
  have B2 := below_then B1 ((Below.refl w1.heap.size w1).grown hg2 (Nat.le_refl _) (fun k e => by cases e)) B1.size
  clear hown hg2
  obtain ⟨G, hG⟩ : ∃ G, w1.heap.size = G := ⟨_, rfl⟩
  have hwG : w.heap.size < G := by rw [← hG]; exact X1.1
  have HX : Hid (∀ W, Below G w1 W → FBox f ⟨ta, tc, na, nc, pa, pc⟩ w.heap.size W) := fun W hb => X1.next (by rw [hG]; exact hb)
  have HP : Hid (∀ W, Below G w1 W → PrsAt f.prods pa W) := fun W hb => (h2.next B1).next (by rw [hG]; exact hb)
  have HB : Hid (∀ W, Below G w1 W → Below w.heap.size w W) := fun W hb => below_then B1 (by rw [hG]; exact hb) B1.size
  have HG : Hid (G = w1.heap.size) := hG.symm
  rw [hG] at R0 ⊢
  have HQ : Hid (FitP f) := hp
  have HR0 : Hid (RowR N G w1 (fun _ => True) (List.replicate N []) w2) := R0
  have hx2 := HX.out _ R0.below
  obtain ⟨x1, d0, d1, d2⟩ := id hx2
  simp only at d0 d1 d2
  clear X1 h2 B1 hG hp R0 hx2
  go_wp2_with fail
  refine (HE.out _ B2).mono ?_
  rintro e w3 ⟨ve, Le, rfl, hgb, hsl, hap, hb3⟩
  obtain ⟨ea, ec, rfl, _⟩ := id hsl
  have hap2 : Apart (G + 1) (.slice ea Le.length ec) := hap.mono HR0.out.lt
  have hstT : Steady G (fun _ : World => True) := ⟨fun _ _ => trivial, fun _ _ _ => trivial⟩
  have R3 := HR0.out.next hstT HG.out hb3
  have B3 := below_then B2 hb3 B2.size
  obtain ⟨x13, d03, d13, d23⟩ := HX.out _ R3.below
  simp only at d03 d13 d23
  have HR3 : Hid (RowR N G w1 (fun _ => True) (List.replicate N []) w3) := R3
  have HSL : Hid (SlB Le (.slice ea Le.length ec) w3) := hsl
  have HAP2 : Hid (Apart (G + 1) (.slice ea Le.length ec)) := hap2
  have HGB : Hid (GivesB (fun _ => False) f.gr f.n Le) := hgb
  clear hap hap2 hgb hsl hb3 B2 HE HR0 x1 d0 d1 d2 R3
  go_wp2_with fail
  refine (HF.out _ B3).mono ?_
  rintro e w4 ⟨vf, Rf, rfl, hgr, hsr, hb4⟩
  have hsr2 : SlRB (G + 1) Rf vf w4 := by
    have hlt := HR3.out.lt
    obtain ⟨b', c', e', h1', h2', h3', h4'⟩ := hsr
    exact ⟨b', c', e', by omega, h2', h3', fun i l hi => by obtain ⟨u, y1, y2, y3⟩ := h4' i l hi; exact ⟨u, y1, y2, y3.mono (by omega)⟩⟩
  obtain ⟨fb, fc, rfl, _⟩ := id hsr2
  have hst : Steady G (fun W => SlB Le (.slice ea Le.length ec) W ∧ SlRB (G + 1) Rf (.slice (some ⟨fb, 0, none⟩) Rf.length fc) W) := ⟨fun h hb => ⟨h.1.next hb, h.2.next hb⟩, fun s u h => ⟨h.1.set HAP2.out s u, h.2.set s u⟩⟩
  have HST : Hid (Steady G (fun W => SlB Le (.slice ea Le.length ec) W ∧ SlRB (G + 1) Rf (.slice (some ⟨fb, 0, none⟩) Rf.length fc) W)) := hst
  have R4 : RowR N G w1 (fun W => SlB Le (.slice ea Le.length ec) W ∧ SlRB (G + 1) Rf (.slice (some ⟨fb, 0, none⟩) Rf.length fc) W) (List.replicate N []) w4 := (HR3.out.next hstT HG.out hb4).with (fun _ => ⟨HSL.out.next hb4, hsr2⟩)
  have HR4 : Hid (RowR N G w1 (fun W => SlB Le (.slice ea Le.length ec) W ∧ SlRB (G + 1) Rf (.slice (some ⟨fb, 0, none⟩) Rf.length fc) W) (List.replicate N []) w4) := R4
  have HGR : Hid (GivesR (FstP f) f.n Rf) := hgr
  have htN : f.terms.length < N := by have h1 := HNN.out; have h2 := HQ.out.nons; unfold Fl.n at h1; omega
  obtain ⟨x1, d0, d1, d2⟩ := HX.out _ R4.below
  simp only at d0 d1 d2
  have hR2 := R4.next HST.out HG.out ((Below.refl w4.heap.size w4).alloc (Nat.le_refl _) (Obj.cells #[Value.int IntKind.i64 f.terms.length] 3))
  have hnew : SlI [(f.terms.length : Int)] (.slice (some ⟨w4.heap.size, 0, none⟩) 1 1) (w4.alloc (Obj.cells #[Value.int IntKind.i64 f.terms.length] 3)) := by
    refine ⟨some ⟨w4.heap.size, 0, none⟩, 1, rfl, fun i x hi => ⟨w4.heap.size, 0, rfl, by simp, ?_⟩, (fun h => by cases h), Nat.le_refl _, ?_⟩
    · cases i with
      | zero => simp at hi; subst hi; simp [encI]
      | succ i => simp at hi
    · intro x hx; simp at hx; subst hx; unfold i64B; omega
  have HR5 : Hid (RowR N G w1 (fun W => SlB Le (.slice ea Le.length ec) W ∧ SlRB (G + 1) Rf (.slice (some ⟨fb, 0, none⟩) Rf.length fc) W) ((List.replicate N []).set f.terms.length [(f.terms.length : Int)]) ((w4.alloc (Obj.cells #[Value.int IntKind.i64 f.terms.length] 3)).setCell ⟨G, f.terms.length, none⟩ (.slice (some ⟨w4.heap.size, 0, none⟩) 1 1))) :=
    hR2.store HST.out htN hnew (fun ad n c e => by cases e; have := R4.lt; exact this)
  have hGl := R4.lt
  rw [set_alloc w4 hGl] at HR5
  have HS5 : Hid (StO f ((List.replicate N []).set f.terms.length [(f.terms.length : Int)])) := by
    have hok0 : OkR (FolP f) f.n (List.replicate N []) := by
      refine ⟨by simp [HNN.out], fun s => ?_, fun s _ t ht => ?_⟩
      · rw [row_nils]; exact List.Pairwise.nil
      · rw [row_nils] at ht; cases ht
    refine ⟨hok0.set (by rw [HNN.out]; exact htN) (List.pairwise_singleton _ _) (fun t ht => by simp at ht; subst ht; exact .last), ?_⟩
    rw [inR_set (by simpa using htN)]
    exact .inl ⟨rfl, by simp⟩
  have hfz : w4.frozen? ⟨G, f.terms.length, none⟩ = false := R4.frozen _
  obtain ⟨u0, hcl, _⟩ := R4.get htN
  clear R4 hR2 hnew hst hsr hsr2 hgr hb4 HR4 HR3 HF B3 x13 d03 d13 d23 hstT
  go_wp2_with fail
  clear d0 d1 d2 x1 hcl hfz hGl
  go_loopg [6] (2 * (N * (N + 1) - bulk ((List.replicate N []).set f.terms.length [(f.terms.length : Int)])) + 1) (fun k ag wr => ∃ (b : Bool) (R : List (List Int)), ag = .bool b ∧ k = 2 * (N * (N + 1) - bulk R) + b2n b ∧ RowR N G w1 (fun W => SlB Le (.slice ea Le.length ec) W ∧ SlRB (G + 1) Rf (.slice (some ⟨fb, 0, none⟩) Rf.length fc) W) R wr ∧ StO f R ∧ (b = false → ∀ q ∈ f.gr, ClosedO (EmpP f) (FstP f) f.terms.length R q))
  case atStart => exact ⟨true, _, rfl, rfl, HR5.out, HS5.out, by simp⟩
  case round =>
    obtain ⟨b, R, rfl, rfl, hR, hst, hc⟩ := hrel
    clear HR5 HS5
    cases b with
    | false =>
      have HZ : Hid (GivesR (FolP f) f.n R ∧ RowR N G w1 (fun W => SlB Le (.slice ea Le.length ec) W ∧ SlRB (G + 1) Rf (.slice (some ⟨fb, 0, none⟩) Rf.length fc) W) R wr) := ⟨hst.ok.gives (fun s _ t h => complete_O hst.basic (hc rfl) h), hR⟩
      clear hR hc hst
      go_wp2_with fail
      go_ret
      obtain ⟨z1, z2⟩ := HZ.out
      exact ⟨_, R, rfl, z1, z2.slRB (Nat.le_of_lt hwG), HB.out _ z2.below⟩
    | true =>
    have HRb : Hid (RowR N G w1 (fun W => SlB Le (.slice ea Le.length ec) W ∧ SlRB (G + 1) Rf (.slice (some ⟨fb, 0, none⟩) Rf.length fc) W) R wr) := hR
    have HSb : Hid (StO f R) := hst
    clear hR hc hst
    go_wp2_with fail
    go_loopw [6, 7] (fun ag i wx => ∃ (b : Bool) (j : Nat) (R' : List (List Int)), ag = .bool b ∧ i = .int .i64 j ∧ j ≤ f.prods.length ∧ RowR N G w1 (fun W => SlB Le (.slice ea Le.length ec) W ∧ SlRB (G + 1) Rf (.slice (some ⟨fb, 0, none⟩) Rf.length fc) W) R' wx ∧ StO f R' ∧ RoundR (ClosedO (EmpP f) (FstP f) f.terms.length) f.gr R R' b j) (fun _ i _ => f.prods.length - (intOf i).toNat)
    case atStart => exact ⟨false, 0, R, rfl, rfl, Nat.zero_le _, HRb.out, HSb.out, RoundR.start _ _ R⟩
    case round =>
      obtain ⟨b, j, R', rfl, rfl, hj, hR, hst, hr⟩ := hrel
      obtain ⟨x1, d0, d1, d2⟩ := HX.out _ hR.below
      simp only at d0 d1 d2
      by_cases hlt : j < f.prods.length
      · obtain ⟨pb, off, v, rfl, hb, c0, c1, c2, hv, hl, hpr⟩ := (HP.out w1 (Below.refl _ _)).at (Below.refl _ _) hlt
        obtain ⟨ra, rc, rfl, hI, hra, hr1, hr2⟩ := hv
        rw [← HG.out] at hb
        replace c0 := (hR.below.cell (p := ⟨pb, off + j * 3, none⟩) hb).trans c0
        replace c1 := (hR.below.cell (p := ⟨pb, off + j * 3 + 1, none⟩) hb).trans c1
        replace c2 := (hR.below.cell (p := ⟨pb, off + j * 3 + 2, none⟩) hb).trans c2
        have hlf := HQ.out.left _ (List.getElem_mem hlt)
        have hrl := HQ.out.right _ (List.getElem_mem hlt)
        have hsy := HQ.out.sym _ (List.getElem_mem hlt)
        have HM : Hid ((f.prods[j].left.toNat, f.prods[j].syms) ∈ f.gr) := gr_mem hlt
        have HTK : Hid (f.gr.take (j + 1) = f.gr.take j ++ [(f.prods[j].left.toNat, f.prods[j].syms)]) := gr_take hlt
        have HI : Hid (∀ W, Below G w1 W → ItsAt f.prods[j].right ra W) := fun W hW => hI.next (by rw [← HG.out]; exact hW)
        have hln : (f.terms.length + f.nons.length : Nat) = N := HNN.out
        rw [hln] at hlf hsy
        clear hI
        generalize f.prods[j] = p at *
        obtain ⟨pl, pr, pp⟩ := p
        simp only at *
        obtain ⟨l, rfl⟩ : ∃ l : Nat, pl = l := ⟨pl.toNat, by omega⟩
        simp only [Int.toNat_natCast] at HM HTK
        have hlN : l < N := by omega
        obtain ⟨sy, hsyd⟩ : ∃ sy, (⟨(l : Int), pr, pp⟩ : Pr).syms = sy := ⟨_, rfl⟩
        rw [hsyd] at HM HTK
        have HSY : Hid (pr.map (fun x => x.sym.toNat) = sy) := hsyd
        have hsl : sy.length = pr.length := by rw [← hsyd]; unfold Pr.syms; simp
        have HSN : Hid (∀ x ∈ sy, x < N) := by
          intro x hx
          rw [← hsyd] at hx
          unfold Pr.syms at hx
          obtain ⟨y, hy, rfl⟩ := List.mem_map.1 hx
          have := hsy y hy
          omega
        clear hsyd hln
        have HW : Hid (RowR N G w1 (fun W => SlB Le (.slice ea Le.length ec) W ∧ SlRB (G + 1) Rf (.slice (some ⟨fb, 0, none⟩) Rf.length fc) W) R' (wr.alloc (Obj.cells #[Value.int IntKind.i64 l, Value.slice ra pr.length rc, Value.int IntKind.i64 pp] 45))) := hR.next HST.out HG.out ((Below.refl _ _).alloc (Nat.le_refl _) _)
        have E : (wr.alloc (Obj.cells #[Value.int IntKind.i64 l, Value.slice ra pr.length rc, Value.int IntKind.i64 pp] 45)).cell? ⟨wr.heap.size, 0, none⟩ = some (.int .i64 l) ∧ (wr.alloc (Obj.cells #[Value.int IntKind.i64 l, Value.slice ra pr.length rc, Value.int IntKind.i64 pp] 45)).cell? ⟨wr.heap.size, 1, none⟩ = some (.slice ra pr.length rc) ∧ wr.heap.size < (wr.alloc (Obj.cells #[Value.int IntKind.i64 l, Value.slice ra pr.length rc, Value.int IntKind.i64 pp] 45)).heap.size := by refine ⟨?_, ?_, ?_⟩ <;> simp
        have hZG : wr.heap.size ≠ G := by have := hR.lt; omega
        have HSc : Hid (StO f R') := hst
        have HRr : Hid (RoundI f R R' b j l sy 0) := RoundI.start hr
        clear hR hst hr HP
        go_wp2_with fail
        generalize wr.alloc (Obj.cells #[Value.int IntKind.i64 l, Value.slice ra pr.length rc, Value.int IntKind.i64 pp] 45) = Wp at *
        obtain ⟨e0, e1, e2⟩ := E
        generalize wr.heap.size = Z at e0 e1 e2 hZG ⊢
        clear c0 c1 c2 d0 d1 d2 hb x1
        have HC : Hid (Steady G (fun W => (SlB Le (.slice ea Le.length ec) W ∧ SlRB (G + 1) Rf (.slice (some ⟨fb, 0, none⟩) Rf.length fc) W) ∧ W.cell? ⟨Z, 0, none⟩ = some (.int .i64 l) ∧ W.cell? ⟨Z, 1, none⟩ = some (.slice ra pr.length rc) ∧ Z < W.heap.size)) := by
          refine ⟨fun h hb => ⟨HST.out.next h.1 hb, (hb.cell (p := ⟨Z, 0, none⟩) h.2.2.2).trans h.2.1, (hb.cell (p := ⟨Z, 1, none⟩) h.2.2.2).trans h.2.2.1, Nat.lt_of_lt_of_le h.2.2.2 hb.size⟩, fun s u h => ⟨HST.out.set s u h.1, ?_, ?_, ?_⟩⟩
          · rw [cell_set_other _ _ hZG]; exact h.2.1
          · rw [cell_set_other _ _ hZG]; exact h.2.2.1
          · simpa using h.2.2.2
        have HW2 : Hid (RowR N G w1 (fun W => (SlB Le (.slice ea Le.length ec) W ∧ SlRB (G + 1) Rf (.slice (some ⟨fb, 0, none⟩) Rf.length fc) W) ∧ W.cell? ⟨Z, 0, none⟩ = some (.int .i64 l) ∧ W.cell? ⟨Z, 1, none⟩ = some (.slice ra pr.length rc) ∧ Z < W.heap.size) R' Wp) := HW.out.with (fun h => ⟨h, e0, e1, e2⟩)
        clear e0 e1 e2 HW
        go_loopw [6, 9] (fun ag k wq => ∃ (b : Bool) (m : Nat) (R' : List (List Int)), ag = .bool b ∧ k = .int .i64 m ∧ m ≤ pr.length ∧ RowR N G w1 (fun W => (SlB Le (.slice ea Le.length ec) W ∧ SlRB (G + 1) Rf (.slice (some ⟨fb, 0, none⟩) Rf.length fc) W) ∧ W.cell? ⟨Z, 0, none⟩ = some (.int .i64 l) ∧ W.cell? ⟨Z, 1, none⟩ = some (.slice ra pr.length rc) ∧ Z < W.heap.size) R' wq ∧ StO f R' ∧ RoundI f R R' b j l sy m) (fun _ k _ => pr.length - (intOf k).toNat)
        case atStart => exact ⟨b, 0, R', rfl, rfl, Nat.zero_le _, HW2.out, HSc.out, HRr.out⟩
        case round =>
          clear HW2 HSc HRr
          obtain ⟨b, m, R', rfl, rfl, hm, hR, hst, hr⟩ := hrel
          obtain ⟨⟨hsb, hsf⟩, e0, e1, e2⟩ := hR.ctx
          obtain ⟨x1, d0, d1, d2⟩ := HX.out _ hR.below
          simp only at d0 d1 d2
          by_cases hml : m < pr.length
          · obtain ⟨bi, oi, rfl, hbi, q0, _, _, si, _⟩ := (HI.out _ hR.below).at (Below.refl _ _) hml
            have hs := hsy _ (List.getElem_mem hml)
            have HX1 : Hid (sy[m]? = some pr[m].sym.toNat) := by show _ = _; have := HSY.out; subst this; simp [hml]
            generalize pr[m] = x at *
            obtain ⟨xs, xf, xa⟩ := x
            simp only at *
            obtain ⟨q, rfl⟩ : ∃ q : Nat, xs = q := ⟨xs.toNat, by omega⟩
            simp only [Int.toNat_natCast] at HX1
            have hqN : q < N := by omega
            by_cases hqt : q < f.terms.length
            · have HR2 : Hid (RoundI f R R' b j l sy (m + 1)) := hr.skip (fun x hx => by rw [HX1.out] at hx; cases hx; exact hqt)
              have HRx : Hid (RowR N G w1 ((fun W => (SlB Le (.slice ea Le.length ec) W ∧ SlRB (G + 1) Rf (.slice (some ⟨fb, 0, none⟩) Rf.length fc) W) ∧ W.cell? ⟨Z, 0, none⟩ = some (.int .i64 l) ∧ W.cell? ⟨Z, 1, none⟩ = some (.slice (some ⟨bi, oi, none⟩) pr.length rc) ∧ Z < W.heap.size)) R' wr ∧ StO f R') := ⟨hR, hst⟩
              clear hr hR hst hsb hsf
              go_wp2_with fail
              exact ⟨⟨b, m + 1, R', rfl, by go_num, by omega, HRx.out.1, HRx.out.2, HR2.out⟩, by simp [intOf]; omega⟩
            obtain ⟨v1, hv1, hs1, ha1⟩ := hR.get hqN
            obtain ⟨v2, hv2, hs2, ha2⟩ := hR.get hlN
            obtain ⟨v1a, v1c, rfl, _⟩ := id hs1
            go_upto_region 18 with fail
            have hGl := hR.lt
            have hrow : ∀ s, s < N → (rowAt R' s).length ≤ 601 := fun s hs => by
              refine rising_length (n := 601) (hst.ok.rise s) (fun t ht => ?_)
              have h1 := fol_le (hst.ok.sound s (by rw [HNN.out]; exact hs) t ht)
              omega
            have hrl1 := hrow q hqN
            have hrl2 := hrow l hlN
            clear hrow
            obtain ⟨nq, hnq⟩ : ∃ nq, (rowAt R' q).length = nq := ⟨_, rfl⟩
            rw [hnq] at hv1 hs1 ha1 hrl1 ⊢
            have HNQ : Hid ((rowAt R' q).length = nq) := hnq
            obtain ⟨B, hBd⟩ : ∃ B, aheadL N Rf Le (rowAt R' l) [] (pr.drop (m + 1)) = B := ⟨_, rfl⟩
            have hBm : ∀ t, t ∈ B ↔ Beg (EmpP f) (FstP f) (fun t => t ∈ rowAt R' l) (sy.drop (m + 1)) t := by
              intro t
              rw [← hBd, aheadL_mem (emp := EmpP f) (fst := FstP f) (fun s hs t => rowAt_gives HGR.out (by rw [HNN.out]; exact hs)) (fun s hs => onb_gives HGB.out (by rw [HNN.out]; exact hs)), symsN_all (fun x hx => hsy x (List.mem_of_mem_drop hx)), List.map_drop, HSY.out]
              simp
            have hBr : Rising B := by rw [← hBd]; exact aheadL_rise List.Pairwise.nil
            have hBl : B.length ≤ 601 := by
              refine rising_length (n := 601) hBr (fun t ht => ?_)
              rcases beg_iff.1 ((hBm t).1 ht) with h1 | h1
              · have h2 := beg_lt (n := f.terms.length) (fun s t h => fst_lt h) h1; omega
              · have h2 := fol_le (hst.ok.sound l (by rw [HNN.out]; exact hlN) t h1.2); omega
            obtain ⟨A, hAd⟩ : ∃ A, unionL (rowAt R' q) B = A := ⟨_, rfl⟩
            have HFS : Hid (StO f (R'.set q A) ∧ RoundI f R (R'.set q A) (b || decide ((nq : Int) < A.length)) j l sy (m + 1)) := hr.step hst HM.out HX1.out (by omega) (by rw [HNN.out]; exact hqN) (by rw [HNN.out]; exact hlN) hBm hAd hnq
            have hAl2 := (length_unionL (rowAt R' q) B).2
            rw [hAd, hnq] at hAl2
            clear hBm hBr hnq
            have HRL : Hid (R'.length = N) := hR.len
            have HS0 : Hid (wr.drew.cell? ⟨G, q, none⟩ = some (.slice v1a nq v1c) ∧ wr.drew.cell? ⟨G, l, none⟩ = some v2 ∧ wr.drew.cell? ⟨w.heap.size, 0, none⟩ = some (.slice ta f.terms.length tc) ∧ wr.drew.cell? ⟨w.heap.size, 1, none⟩ = some (.slice na f.nons.length nc) ∧ wr.drew.cell? ⟨w.heap.size, 2, none⟩ = some (.slice (some ⟨pb, off, none⟩) f.prods.length pc) ∧ wr.drew.cell? ⟨Z, 0, none⟩ = some (.int .i64 l) ∧ wr.drew.cell? ⟨Z, 1, none⟩ = some (.slice (some ⟨bi, oi, none⟩) pr.length rc) ∧ wr.drew.frozen? ⟨G, q, none⟩ = false ∧ Below wr.heap.size wr wr.drew) := ⟨hv1, hv2, d0, d1, d2, e0, e1, hR.frozen q, (Below.refl _ _).drew⟩
            have HXX : Hid (∀ W, Below wr.heap.size wr W → FBox f ⟨ta, tc, na, nc, some ⟨pb, off, none⟩, pc⟩ w.heap.size W) := fun W hb => HX.out _ (below_then hR.below hb (by rw [HG.out]; exact hR.below.size))
            have hstep : ∀ W W', W.cell? ⟨G, q, none⟩ = some (.slice v1a nq v1c) ∧ W.cell? ⟨G, l, none⟩ = some v2 ∧ W.cell? ⟨w.heap.size, 0, none⟩ = some (.slice ta f.terms.length tc) ∧ W.cell? ⟨w.heap.size, 1, none⟩ = some (.slice na f.nons.length nc) ∧ W.cell? ⟨w.heap.size, 2, none⟩ = some (.slice (some ⟨pb, off, none⟩) f.prods.length pc) ∧ W.cell? ⟨Z, 0, none⟩ = some (.int .i64 l) ∧ W.cell? ⟨Z, 1, none⟩ = some (.slice (some ⟨bi, oi, none⟩) pr.length rc) ∧ W.frozen? ⟨G, q, none⟩ = false ∧ Below wr.heap.size wr W → Below W.heap.size W W' → W'.cell? ⟨G, q, none⟩ = some (.slice v1a nq v1c) ∧ W'.cell? ⟨G, l, none⟩ = some v2 ∧ W'.cell? ⟨w.heap.size, 0, none⟩ = some (.slice ta f.terms.length tc) ∧ W'.cell? ⟨w.heap.size, 1, none⟩ = some (.slice na f.nons.length nc) ∧ W'.cell? ⟨w.heap.size, 2, none⟩ = some (.slice (some ⟨pb, off, none⟩) f.prods.length pc) ∧ W'.cell? ⟨Z, 0, none⟩ = some (.int .i64 l) ∧ W'.cell? ⟨Z, 1, none⟩ = some (.slice (some ⟨bi, oi, none⟩) pr.length rc) ∧ W'.frozen? ⟨G, q, none⟩ = false ∧ Below wr.heap.size wr W' := by
              rintro W W' ⟨z0, z1, z2, z3, z4, z5, z6, z7, hbW⟩ hb'
              have hbz := hbW.size
              have hB' := below_then hbW hb' hbz
              obtain ⟨_, y0, y1, y2⟩ := HXX.out _ hB'
              exact ⟨(hb'.cell (p := ⟨G, q, none⟩) (by show G < _; omega)).trans z0, (hb'.cell (p := ⟨G, l, none⟩) (by show G < _; omega)).trans z1, y0, y1, y2, (hb'.cell (p := ⟨Z, 0, none⟩) (by show Z < _; omega)).trans z5, (hb'.cell (p := ⟨Z, 1, none⟩) (by show Z < _; omega)).trans z6, (hb'.frozen (p := ⟨G, q, none⟩) (by show G < _; omega)).trans z7, hB'⟩
            have HRx : Hid (RowR N G w1 (fun W => (SlB Le (.slice ea Le.length ec) W ∧ SlRB (G + 1) Rf (.slice (some ⟨fb, 0, none⟩) Rf.length fc) W) ∧ W.cell? ⟨Z, 0, none⟩ = some (.int .i64 l) ∧ W.cell? ⟨Z, 1, none⟩ = some (.slice (some ⟨bi, oi, none⟩) pr.length rc) ∧ Z < W.heap.size) R' wr) := hR
            have hwm : IntKind.i64.wrap ((m : Int) + 1) = m + 1 := IntWalk.i64_in _ (by omega)
            have hmi : (0 : Int) ≤ (m : Int) + 1 := by omega
            have hmp : (m : Int) + 1 ≤ pr.length := by omega
            have HIa := HI.out _ hR.below
            by_cases hcm : rc = m + 1
            · subst hcm
              have hvs : SlT (pr.drop (m + 1)) (.slice (some ⟨bi, oi, none⟩) 0 0) wr := by
                rw [List.drop_of_length_le (by omega)]
                exact ⟨some ⟨bi, oi, none⟩, 0, rfl, fun i x hi => by simp at hi, (fun h => by cases h), Nat.le_refl _, by omega⟩
              clear HIa
              have hA3 : ∀ W, W.cell? ⟨G, q, none⟩ = some (.slice v1a nq v1c) ∧ W.cell? ⟨G, l, none⟩ = some v2 ∧ W.cell? ⟨w.heap.size, 0, none⟩ = some (.slice ta f.terms.length tc) ∧ W.cell? ⟨w.heap.size, 1, none⟩ = some (.slice na f.nons.length nc) ∧ W.cell? ⟨w.heap.size, 2, none⟩ = some (.slice (some ⟨pb, off, none⟩) f.prods.length pc) ∧ W.cell? ⟨Z, 0, none⟩ = some (.int .i64 l) ∧ W.cell? ⟨Z, 1, none⟩ = some (.slice (some ⟨bi, oi, none⟩) pr.length (m + 1)) ∧ W.frozen? ⟨G, q, none⟩ = false ∧ Below wr.heap.size wr W → Calls Tryd.prog 33 #[.agg #[.slice ta f.terms.length tc, .slice na f.nons.length nc, .slice (some ⟨pb, off, none⟩) f.prods.length pc], .slice (some ⟨bi, oi, none⟩) 0 0, v2, .slice (some ⟨fb, 0, none⟩) Rf.length fc, .slice ea Le.length ec] W fun e w' => ∃ v3a v3c, e = .returned (.slice v3a B.length v3c) ∧ Hid (SlI B (.slice v3a B.length v3c) w') ∧ (w'.cell? ⟨G, q, none⟩ = some (.slice v1a nq v1c) ∧ w'.cell? ⟨G, l, none⟩ = some v2 ∧ w'.cell? ⟨w.heap.size, 0, none⟩ = some (.slice ta f.terms.length tc) ∧ w'.cell? ⟨w.heap.size, 1, none⟩ = some (.slice na f.nons.length nc) ∧ w'.cell? ⟨w.heap.size, 2, none⟩ = some (.slice (some ⟨pb, off, none⟩) f.prods.length pc) ∧ w'.cell? ⟨Z, 0, none⟩ = some (.int .i64 l) ∧ w'.cell? ⟨Z, 1, none⟩ = some (.slice (some ⟨bi, oi, none⟩) pr.length (m + 1)) ∧ w'.frozen? ⟨G, q, none⟩ = false ∧ Below wr.heap.size wr w') := by
                intro W hS
                refine (HA.out (pr.drop (m + 1)) (rowAt R' l) Rf Le _ v2 _ _ W (hvs.next hS.2.2.2.2.2.2.2.2) (hs2.next hS.2.2.2.2.2.2.2.2) (hsf.slR.next hS.2.2.2.2.2.2.2.2) (hsb.next hS.2.2.2.2.2.2.2.2) (by rw [← HNN.out]; exact HGR.out) (by rw [← HNN.out]; exact HGB.out) (by simp; omega) (by omega)).mono ?_
                rintro e w' ⟨v3, rfl, h1, _, h3⟩
                rw [hBd] at h1
                obtain ⟨v3a, v3c, rfl, _⟩ := id h1
                exact ⟨v3a, v3c, rfl, h1, hstep _ _ hS h3⟩
              have hU3 : ∀ W v3a v3c, W.cell? ⟨G, q, none⟩ = some (.slice v1a nq v1c) ∧ W.cell? ⟨G, l, none⟩ = some v2 ∧ W.cell? ⟨w.heap.size, 0, none⟩ = some (.slice ta f.terms.length tc) ∧ W.cell? ⟨w.heap.size, 1, none⟩ = some (.slice na f.nons.length nc) ∧ W.cell? ⟨w.heap.size, 2, none⟩ = some (.slice (some ⟨pb, off, none⟩) f.prods.length pc) ∧ W.cell? ⟨Z, 0, none⟩ = some (.int .i64 l) ∧ W.cell? ⟨Z, 1, none⟩ = some (.slice (some ⟨bi, oi, none⟩) pr.length (m + 1)) ∧ W.frozen? ⟨G, q, none⟩ = false ∧ Below wr.heap.size wr W → Hid (SlI B (.slice v3a B.length v3c) W) → Calls Tryd.prog 31 #[.slice v1a nq v1c, .slice v3a B.length v3c] W fun e w' => ∃ va vc, e = .returned (.slice va A.length vc) ∧ Hid (SlI A (.slice va A.length vc) w' ∧ Apart (G + 1) (.slice va A.length vc)) ∧ (w'.cell? ⟨G, q, none⟩ = some (.slice v1a nq v1c) ∧ w'.cell? ⟨G, l, none⟩ = some v2 ∧ w'.cell? ⟨w.heap.size, 0, none⟩ = some (.slice ta f.terms.length tc) ∧ w'.cell? ⟨w.heap.size, 1, none⟩ = some (.slice na f.nons.length nc) ∧ w'.cell? ⟨w.heap.size, 2, none⟩ = some (.slice (some ⟨pb, off, none⟩) f.prods.length pc) ∧ w'.cell? ⟨Z, 0, none⟩ = some (.int .i64 l) ∧ w'.cell? ⟨Z, 1, none⟩ = some (.slice (some ⟨bi, oi, none⟩) pr.length (m + 1)) ∧ w'.frozen? ⟨G, q, none⟩ = false ∧ Below wr.heap.size wr w') := by
                intro W v3a v3c hS hB3
                refine (union_any (rowAt R' q) B _ _ W (hs1.next hS.2.2.2.2.2.2.2.2) hB3.out (by have := HNQ.out; omega)).mono ?_
                rintro e w' ⟨v', rfl, h1, h2, h3⟩
                rw [hAd] at h1
                obtain ⟨va, vc, rfl, _⟩ := id h1
                refine ⟨va, vc, rfl, ⟨h1, ?_⟩, hstep _ _ hS h3⟩
                rcases h2 with e | e
                · rw [e]; exact ha1
                · exact e.mono (by have := hS.2.2.2.2.2.2.2.2.size; omega)
              have HA3 : Hid (∀ W, W.cell? ⟨G, q, none⟩ = some (.slice v1a nq v1c) ∧ W.cell? ⟨G, l, none⟩ = some v2 ∧ W.cell? ⟨w.heap.size, 0, none⟩ = some (.slice ta f.terms.length tc) ∧ W.cell? ⟨w.heap.size, 1, none⟩ = some (.slice na f.nons.length nc) ∧ W.cell? ⟨w.heap.size, 2, none⟩ = some (.slice (some ⟨pb, off, none⟩) f.prods.length pc) ∧ W.cell? ⟨Z, 0, none⟩ = some (.int .i64 l) ∧ W.cell? ⟨Z, 1, none⟩ = some (.slice (some ⟨bi, oi, none⟩) pr.length (m + 1)) ∧ W.frozen? ⟨G, q, none⟩ = false ∧ Below wr.heap.size wr W → Calls Tryd.prog 33 #[.agg #[.slice ta f.terms.length tc, .slice na f.nons.length nc, .slice (some ⟨pb, off, none⟩) f.prods.length pc], .slice (some ⟨bi, oi, none⟩) 0 0, v2, .slice (some ⟨fb, 0, none⟩) Rf.length fc, .slice ea Le.length ec] W fun e w' => ∃ v3a v3c, e = .returned (.slice v3a B.length v3c) ∧ Hid (SlI B (.slice v3a B.length v3c) w') ∧ (w'.cell? ⟨G, q, none⟩ = some (.slice v1a nq v1c) ∧ w'.cell? ⟨G, l, none⟩ = some v2 ∧ w'.cell? ⟨w.heap.size, 0, none⟩ = some (.slice ta f.terms.length tc) ∧ w'.cell? ⟨w.heap.size, 1, none⟩ = some (.slice na f.nons.length nc) ∧ w'.cell? ⟨w.heap.size, 2, none⟩ = some (.slice (some ⟨pb, off, none⟩) f.prods.length pc) ∧ w'.cell? ⟨Z, 0, none⟩ = some (.int .i64 l) ∧ w'.cell? ⟨Z, 1, none⟩ = some (.slice (some ⟨bi, oi, none⟩) pr.length (m + 1)) ∧ w'.frozen? ⟨G, q, none⟩ = false ∧ Below wr.heap.size wr w')) := hA3
              have HU3 : Hid (∀ W v3a v3c, W.cell? ⟨G, q, none⟩ = some (.slice v1a nq v1c) ∧ W.cell? ⟨G, l, none⟩ = some v2 ∧ W.cell? ⟨w.heap.size, 0, none⟩ = some (.slice ta f.terms.length tc) ∧ W.cell? ⟨w.heap.size, 1, none⟩ = some (.slice na f.nons.length nc) ∧ W.cell? ⟨w.heap.size, 2, none⟩ = some (.slice (some ⟨pb, off, none⟩) f.prods.length pc) ∧ W.cell? ⟨Z, 0, none⟩ = some (.int .i64 l) ∧ W.cell? ⟨Z, 1, none⟩ = some (.slice (some ⟨bi, oi, none⟩) pr.length (m + 1)) ∧ W.frozen? ⟨G, q, none⟩ = false ∧ Below wr.heap.size wr W → Hid (SlI B (.slice v3a B.length v3c) W) → Calls Tryd.prog 31 #[.slice v1a nq v1c, .slice v3a B.length v3c] W fun e w' => ∃ va vc, e = .returned (.slice va A.length vc) ∧ Hid (SlI A (.slice va A.length vc) w' ∧ Apart (G + 1) (.slice va A.length vc)) ∧ (w'.cell? ⟨G, q, none⟩ = some (.slice v1a nq v1c) ∧ w'.cell? ⟨G, l, none⟩ = some v2 ∧ w'.cell? ⟨w.heap.size, 0, none⟩ = some (.slice ta f.terms.length tc) ∧ w'.cell? ⟨w.heap.size, 1, none⟩ = some (.slice na f.nons.length nc) ∧ w'.cell? ⟨w.heap.size, 2, none⟩ = some (.slice (some ⟨pb, off, none⟩) f.prods.length pc) ∧ w'.cell? ⟨Z, 0, none⟩ = some (.int .i64 l) ∧ w'.cell? ⟨Z, 1, none⟩ = some (.slice (some ⟨bi, oi, none⟩) pr.length (m + 1)) ∧ w'.frozen? ⟨G, q, none⟩ = false ∧ Below wr.heap.size wr w')) := hU3
              clear hA3 hU3 hs1 hs2 ha1 ha2 hsb hsf hvs hR hst hr hv1 hv2 d0 d1 d2 e0 e1 hstep hBd hAd
              refine wp_region_L (fun W => W.cell? ⟨G, q, none⟩ = some (.slice v1a nq v1c) ∧ W.cell? ⟨G, l, none⟩ = some v2 ∧ W.cell? ⟨w.heap.size, 0, none⟩ = some (.slice ta f.terms.length tc) ∧ W.cell? ⟨w.heap.size, 1, none⟩ = some (.slice na f.nons.length nc) ∧ W.cell? ⟨w.heap.size, 2, none⟩ = some (.slice (some ⟨pb, off, none⟩) f.prods.length pc) ∧ W.cell? ⟨Z, 0, none⟩ = some (.int .i64 l) ∧ W.cell? ⟨Z, 1, none⟩ = some (.slice (some ⟨bi, oi, none⟩) pr.length (m + 1)) ∧ W.frozen? ⟨G, q, none⟩ = false ∧ Below wr.heap.size wr W) 21 (by kernel_rfl) 23 rfl ?_
              refine wpL_take (v := ?_) (oi := { dst := some 64, op := Op.move (Operand.tmp 3), type := 34, pos := "ref.go:136", after := #[], guard := none }) (by decide) rfl (by kernel_rfl) (by kernel_rfl) (by kernel_rfl) (by kernel_rfl) (fun _ _ _ h => h) (Or.inl ⟨by rfl, ?_⟩) HS0.out ?_
              rotate_left
              · intro W hSW
                go_simp
                try with_reducible rfl
              simp only [Act.put, List.setIfInBounds_toArray, List.set_cons_zero, List.set_cons_succ]
              refine wpL_take (v := ?_) (oi := { dst := some 65, op := Op.move (Operand.tmp 10), type := 3, pos := "ref.go:136", after := #[], guard := none }) (by decide) rfl (by kernel_rfl) (by kernel_rfl) (by kernel_rfl) (by kernel_rfl) (fun _ _ _ h => h) (Or.inl ⟨by rfl, ?_⟩) HS0.out ?_
              rotate_left
              · intro W hSW
                go_simp
                try with_reducible rfl
              simp only [Act.put, List.setIfInBounds_toArray, List.set_cons_zero, List.set_cons_succ]
              refine wpL_take (v := ?_) (oi := { dst := some 66, op := Op.move (Operand.tmp 3), type := 34, pos := "ref.go:136", after := #[], guard := none }) (by decide) rfl (by kernel_rfl) (by kernel_rfl) (by kernel_rfl) (by kernel_rfl) (fun _ _ _ h => h) (Or.inl ⟨by rfl, ?_⟩) HS0.out ?_
              rotate_left
              · intro W hSW
                go_simp
                try with_reducible rfl
              simp only [Act.put, List.setIfInBounds_toArray, List.set_cons_zero, List.set_cons_succ]
              refine wpL_take (v := ?_) (oi := { dst := some 67, op := Op.move (Operand.tmp 10), type := 3, pos := "ref.go:136", after := #[], guard := none }) (by decide) rfl (by kernel_rfl) (by kernel_rfl) (by kernel_rfl) (by kernel_rfl) (fun _ _ _ h => h) (Or.inl ⟨by rfl, ?_⟩) HS0.out ?_
              rotate_left
              · intro W hSW
                go_simp
                try with_reducible rfl
              simp only [Act.put, List.setIfInBounds_toArray, List.set_cons_zero, List.set_cons_succ]
              refine wpL_take (v := ?_) (oi := { dst := some 68, op := Op.indexAddr 34 (Operand.tmp 66) (Operand.tmp 67), type := 0, pos := "ref.go:136", after := #[{ on := 2, ground := Ground.data }, { on := 3, ground := Ground.data }], guard := none }) (by decide) rfl (by kernel_rfl) (by kernel_rfl) (by kernel_rfl) (by kernel_rfl) (fun _ _ _ h => h) (Or.inl ⟨by rfl, ?_⟩) HS0.out ?_
              rotate_left
              · intro W hSW
                go_simp
                try with_reducible rfl
              simp only [Act.put, List.setIfInBounds_toArray, List.set_cons_zero, List.set_cons_succ]
              refine wpL_take (v := ?_) (oi := { dst := some 69, op := Op.load 27 (Operand.tmp 68), type := 27, pos := "ref.go:136", after := #[{ on := 4, ground := Ground.data }], guard := none }) (by decide) rfl (by kernel_rfl) (by kernel_rfl) (by kernel_rfl) (by kernel_rfl) (fun _ _ _ h => h) (Or.inl ⟨by rfl, ?_⟩) HS0.out ?_
              rotate_left
              · intro W hSW
                go_simp
                try with_reducible rfl
              simp only [Act.put, List.setIfInBounds_toArray, List.set_cons_zero, List.set_cons_succ]
              refine wpL_take (v := ?_) (oi := { dst := some 70, op := Op.load 25 (Operand.tmp 1), type := 25, pos := "ref.go:136", after := #[], guard := none }) (by decide) rfl (by kernel_rfl) (by kernel_rfl) (by kernel_rfl) (by kernel_rfl) (fun _ _ _ h => h) (Or.inl ⟨by rfl, ?_⟩) HS0.out ?_
              rotate_left
              · intro W hSW
                go_simp
                try with_reducible rfl
              simp only [Act.put, List.setIfInBounds_toArray, List.set_cons_zero, List.set_cons_succ]
              refine wpL_take (v := ?_) (oi := { dst := some 71, op := Op.fieldAddr 45 (Operand.tmp 8) 1, type := 0, pos := "ref.go:136", after := #[], guard := none }) (by decide) rfl (by kernel_rfl) (by kernel_rfl) (by kernel_rfl) (by kernel_rfl) (fun _ _ _ h => h) (Or.inl ⟨by rfl, ?_⟩) HS0.out ?_
              rotate_left
              · intro W hSW
                go_simp
                try with_reducible rfl
              simp only [Act.put, List.setIfInBounds_toArray, List.set_cons_zero, List.set_cons_succ]
              refine wpL_take (v := ?_) (oi := { dst := some 72, op := Op.load 26 (Operand.tmp 71), type := 26, pos := "ref.go:136", after := #[{ on := 7, ground := Ground.data }], guard := none }) (by decide) rfl (by kernel_rfl) (by kernel_rfl) (by kernel_rfl) (by kernel_rfl) (fun _ _ _ h => h) (Or.inl ⟨by rfl, ?_⟩) HS0.out ?_
              rotate_left
              · intro W hSW
                go_simp
                try with_reducible rfl
              simp only [Act.put, List.setIfInBounds_toArray, List.set_cons_zero, List.set_cons_succ]
              refine wpL_take (v := ?_) (oi := { dst := some 73, op := Op.move (Operand.tmp 9), type := 3, pos := "ref.go:136", after := #[], guard := none }) (by decide) rfl (by kernel_rfl) (by kernel_rfl) (by kernel_rfl) (by kernel_rfl) (fun _ _ _ h => h) (Or.inl ⟨by rfl, ?_⟩) HS0.out ?_
              rotate_left
              · intro W hSW
                go_simp
                try with_reducible rfl
              simp only [Act.put, List.setIfInBounds_toArray, List.set_cons_zero, List.set_cons_succ]
              refine wpL_take (v := ?_) (oi := { dst := some 74, op := Op.binOp BinOp.add 3 (Operand.tmp 73) (Operand.const (Value.int IntKind.i64 1)) 3, type := 3, pos := "ref.go:136", after := #[{ on := 9, ground := Ground.data }], guard := none }) (by decide) rfl (by kernel_rfl) (by kernel_rfl) (by kernel_rfl) (by kernel_rfl) (fun _ _ _ h => h) (Or.inl ⟨by rfl, ?_⟩) HS0.out ?_
              rotate_left
              · intro W hSW
                go_simp
                try with_reducible rfl
              simp only [Act.put, List.setIfInBounds_toArray, List.set_cons_zero, List.set_cons_succ]
              refine wpL_take (v := ?_) (oi := { dst := some 75, op := Op.slice 26 (Operand.tmp 72) (some (Operand.tmp 74)) none none, type := 26, pos := "ref.go:136", after := #[{ on := 8, ground := Ground.data }, { on := 10, ground := Ground.data }], guard := none }) (by decide) rfl (by kernel_rfl) (by kernel_rfl) (by kernel_rfl) (by kernel_rfl) (fun _ _ _ h => h) (Or.inl ⟨by rfl, ?_⟩) HS0.out ?_
              rotate_left
              · intro W hSW
                go_simp
                try with_reducible rfl
              simp only [Act.put, List.setIfInBounds_toArray, List.set_cons_zero, List.set_cons_succ]
              refine wpL_take (v := ?_) (oi := { dst := some 76, op := Op.move (Operand.tmp 3), type := 34, pos := "ref.go:136", after := #[], guard := none }) (by decide) rfl (by kernel_rfl) (by kernel_rfl) (by kernel_rfl) (by kernel_rfl) (fun _ _ _ h => h) (Or.inl ⟨by rfl, ?_⟩) HS0.out ?_
              rotate_left
              · intro W hSW
                go_simp
                try with_reducible rfl
              simp only [Act.put, List.setIfInBounds_toArray, List.set_cons_zero, List.set_cons_succ]
              refine wpL_take (v := ?_) (oi := { dst := some 77, op := Op.fieldAddr 45 (Operand.tmp 8) 0, type := 0, pos := "ref.go:136", after := #[], guard := none }) (by decide) rfl (by kernel_rfl) (by kernel_rfl) (by kernel_rfl) (by kernel_rfl) (fun _ _ _ h => h) (Or.inl ⟨by rfl, ?_⟩) HS0.out ?_
              rotate_left
              · intro W hSW
                go_simp
                try with_reducible rfl
              simp only [Act.put, List.setIfInBounds_toArray, List.set_cons_zero, List.set_cons_succ]
              refine wpL_take (v := ?_) (oi := { dst := some 78, op := Op.load 3 (Operand.tmp 77), type := 3, pos := "ref.go:136", after := #[{ on := 13, ground := Ground.data }], guard := none }) (by decide) rfl (by kernel_rfl) (by kernel_rfl) (by kernel_rfl) (by kernel_rfl) (fun _ _ _ h => h) (Or.inl ⟨by rfl, ?_⟩) HS0.out ?_
              rotate_left
              · intro W hSW
                go_simp
                try with_reducible rfl
              simp only [Act.put, List.setIfInBounds_toArray, List.set_cons_zero, List.set_cons_succ]
              refine wpL_take (v := ?_) (oi := { dst := some 79, op := Op.indexAddr 34 (Operand.tmp 76) (Operand.tmp 78), type := 0, pos := "ref.go:136", after := #[{ on := 12, ground := Ground.data }, { on := 14, ground := Ground.data }], guard := none }) (by decide) rfl (by kernel_rfl) (by kernel_rfl) (by kernel_rfl) (by kernel_rfl) (fun _ _ _ h => h) (Or.inl ⟨by rfl, ?_⟩) HS0.out ?_
              rotate_left
              · intro W hSW
                go_simp
                try with_reducible rfl
              simp only [Act.put, List.setIfInBounds_toArray, List.set_cons_zero, List.set_cons_succ]
              refine wpL_take (v := ?_) (oi := { dst := some 80, op := Op.load 27 (Operand.tmp 79), type := 27, pos := "ref.go:136", after := #[{ on := 15, ground := Ground.data }], guard := none }) (by decide) rfl (by kernel_rfl) (by kernel_rfl) (by kernel_rfl) (by kernel_rfl) (fun _ _ _ h => h) (Or.inl ⟨by rfl, ?_⟩) HS0.out ?_
              rotate_left
              · intro W hSW
                go_simp
                try with_reducible rfl
              simp only [Act.put, List.setIfInBounds_toArray, List.set_cons_zero, List.set_cons_succ]
              refine wpL_take (v := ?_) (oi := { dst := some 81, op := Op.move (Operand.tmp 5), type := 34, pos := "ref.go:136", after := #[], guard := none }) (by decide) rfl (by kernel_rfl) (by kernel_rfl) (by kernel_rfl) (by kernel_rfl) (fun _ _ _ h => h) (Or.inl ⟨by rfl, ?_⟩) HS0.out ?_
              rotate_left
              · intro W hSW
                go_simp
                try with_reducible rfl
              simp only [Act.put, List.setIfInBounds_toArray, List.set_cons_zero, List.set_cons_succ]
              refine wpL_take (v := ?_) (oi := { dst := some 82, op := Op.move (Operand.tmp 4), type := 31, pos := "ref.go:136", after := #[], guard := none }) (by decide) rfl (by kernel_rfl) (by kernel_rfl) (by kernel_rfl) (by kernel_rfl) (fun _ _ _ h => h) (Or.inl ⟨by rfl, ?_⟩) HS0.out ?_
              rotate_left
              · intro W hSW
                go_simp
                try with_reducible rfl
              simp only [Act.put, List.setIfInBounds_toArray, List.set_cons_zero, List.set_cons_succ]
              refine wpL_one (o := { dst := some 83, op := Op.call { callee := Callee.value (Operand.func 33), args := #[Operand.tmp 70, Operand.tmp 75, Operand.tmp 80, Operand.tmp 81, Operand.tmp 82], argTypes := #[25, 26, 27, 34, 31] }, type := 27, pos := "ref.go:136", after := #[{ on := 6, ground := Ground.data }, { on := 11, ground := Ground.data }, { on := 16, ground := Ground.data }, { on := 17, ground := Ground.data }, { on := 18, ground := Ground.data }], guard := none }) (by decide) (by kernel_rfl) rfl (fun K hK => ?_)
              go_simp
              refine (HA3.out _ HS0.out).mono ?_
              rintro e w5 ⟨v3a, v3c, rfl, hB3, hS5⟩
              refine hK.out _ _ (fun _ => hS5) ?_
              clear hK
              refine wpL_one (o := { dst := some 84, op := Op.call { callee := Callee.value (Operand.func 31), args := #[Operand.tmp 69, Operand.tmp 83], argTypes := #[27, 27] }, type := 27, pos := "ref.go:136", after := #[{ on := 5, ground := Ground.data }, { on := 19, ground := Ground.data }, { on := 19, ground := Ground.chain }], guard := none }) (by decide) (by kernel_rfl) rfl (fun K hK => ?_)
              go_simp
              refine (HU3.out _ _ _ hS5 hB3).mono ?_
              rintro e w' ⟨va, vc, rfl, hV, hS1⟩
              refine hK.out _ _ (fun _ => hS1) ?_
              obtain ⟨z0, z1, z2, z3, z4, z5, z6, z7, hbW⟩ := hS1
              clear hK hS5 hB3 HA3 HU3
              refine wpL_one (o := { dst := some 85, op := Op.indexAddr 34 (Operand.tmp 64) (Operand.tmp 65), type := 0, pos := "ref.go:136", after := #[{ on := 0, ground := Ground.data }, { on := 1, ground := Ground.data }, { on := 0, ground := Ground.phase }, { on := 1, ground := Ground.phase }, { on := 2, ground := Ground.phase }, { on := 3, ground := Ground.phase }, { on := 4, ground := Ground.phase }, { on := 5, ground := Ground.phase }, { on := 6, ground := Ground.phase }, { on := 7, ground := Ground.phase }, { on := 8, ground := Ground.phase }, { on := 9, ground := Ground.phase }, { on := 10, ground := Ground.phase }, { on := 11, ground := Ground.phase }, { on := 12, ground := Ground.phase }, { on := 13, ground := Ground.phase }, { on := 14, ground := Ground.phase }, { on := 15, ground := Ground.phase }, { on := 16, ground := Ground.phase }, { on := 17, ground := Ground.phase }, { on := 18, ground := Ground.phase }, { on := 19, ground := Ground.phase }, { on := 20, ground := Ground.phase }], guard := none }) (by decide) (by kernel_rfl) rfl (fun K2 hK2 => ?_)
              go_simp
              refine hK2.out _ _ (fun h => absurd h (by decide)) ?_
              clear hK2
              refine wpL_one (o := { dst := none, op := Op.store 27 (Operand.tmp 85) (Operand.tmp 84), type := 0, pos := "ref.go:136", after := #[{ on := 21, ground := Ground.data }, { on := 20, ground := Ground.data }, { on := 20, ground := Ground.chain }, { on := 0, ground := Ground.phase }, { on := 1, ground := Ground.phase }, { on := 2, ground := Ground.phase }, { on := 3, ground := Ground.phase }, { on := 4, ground := Ground.phase }, { on := 5, ground := Ground.phase }, { on := 6, ground := Ground.phase }, { on := 7, ground := Ground.phase }, { on := 8, ground := Ground.phase }, { on := 9, ground := Ground.phase }, { on := 10, ground := Ground.phase }, { on := 11, ground := Ground.phase }, { on := 12, ground := Ground.phase }, { on := 13, ground := Ground.phase }, { on := 14, ground := Ground.phase }, { on := 15, ground := Ground.phase }, { on := 16, ground := Ground.phase }, { on := 17, ground := Ground.phase }, { on := 18, ground := Ground.phase }, { on := 19, ground := Ground.phase }, { on := 20, ground := Ground.phase }], guard := none }) (by decide) (by kernel_rfl) rfl (fun K3 hK3 => ?_)
              go_simp
              refine hK3.out _ _ (fun h => absurd h (by decide)) ?_
              clear hK3
              refine wpAnyL_done (by kernel_rfl) ?_ _
              have hR5 : RowR N G w1 (fun W => (SlB Le (.slice ea Le.length ec) W ∧ SlRB (G + 1) Rf (.slice (some ⟨fb, 0, none⟩) Rf.length fc) W) ∧ W.cell? ⟨Z, 0, none⟩ = some (.int .i64 l) ∧ W.cell? ⟨Z, 1, none⟩ = some (.slice (some ⟨bi, oi, none⟩) pr.length (m + 1)) ∧ Z < W.heap.size) (R'.set q A) (w'.setCell ⟨G, q, none⟩ (.slice va A.length vc)) := (HRx.out.next HC.out HG.out hbW).store HC.out hqN hV.out.1 hV.out.2
              clear HRx hV z0 z1 z2 z3 z4 z5 z6 z7 hbW
              generalize w'.setCell ⟨G, q, none⟩ (.slice va A.length vc) = W2 at *
              obtain ⟨v5, hv5, hs5, ha5⟩ := hR5.get hqN
              rw [rowAt_set (by rw [HRL.out]; exact hqN), if_pos rfl] at hs5
              obtain ⟨a5, k5, rfl, _⟩ := hs5
              have HR6 : Hid (RowR N G w1 (fun W => (SlB Le (.slice ea Le.length ec) W ∧ SlRB (G + 1) Rf (.slice (some ⟨fb, 0, none⟩) Rf.length fc) W) ∧ W.cell? ⟨Z, 0, none⟩ = some (.int .i64 l) ∧ W.cell? ⟨Z, 1, none⟩ = some (.slice (some ⟨bi, oi, none⟩) pr.length (m + 1)) ∧ Z < W.heap.size) (R'.set q A) W2) := hR5
              clear hR5 ha5
              cases b with
              | true =>
                go_wp2_with fail
                exact ⟨⟨true, m + 1, R'.set q A, rfl, by go_num, by omega, HR6.out, HFS.out.1, HFS.out.2⟩, by simp [intOf]; omega⟩
              | false =>
                go_wp2_with fail
                exact ⟨⟨decide ((nq : Int) < A.length), m + 1, R'.set q A, (by congr 1; simp), by go_num, by omega, HR6.out, HFS.out.1, HFS.out.2⟩, by simp [intOf]; omega⟩
            · have hvs : SlT (pr.drop (m + 1)) (.slice (some ⟨bi, oi + (m + 1) * 3, none⟩) (pr.length - (m + 1)) (rc - (m + 1))) wr := by
                refine ⟨some ⟨bi, oi + (m + 1) * 3, none⟩, rc - (m + 1), by simp, fun i x hi => ?_, (fun h => by cases h), by simp; omega, by omega⟩
                rw [List.getElem?_drop] at hi
                obtain ⟨b', o', e', y1, y2, y3, y4, y5⟩ := HIa _ x hi
                cases e'
                have ee : oi + (m + 1) * 3 + i * 3 = oi + (m + 1 + i) * 3 := by omega
                exact ⟨bi, oi + (m + 1) * 3, rfl, y1, by rw [ee]; exact y2, by rw [ee]; exact y3, by rw [ee]; exact y4, y5⟩
              have hcm2 : ¬ rc - (m + 1) = 0 := by omega
              clear HIa
              have hA3 : ∀ W, W.cell? ⟨G, q, none⟩ = some (.slice v1a nq v1c) ∧ W.cell? ⟨G, l, none⟩ = some v2 ∧ W.cell? ⟨w.heap.size, 0, none⟩ = some (.slice ta f.terms.length tc) ∧ W.cell? ⟨w.heap.size, 1, none⟩ = some (.slice na f.nons.length nc) ∧ W.cell? ⟨w.heap.size, 2, none⟩ = some (.slice (some ⟨pb, off, none⟩) f.prods.length pc) ∧ W.cell? ⟨Z, 0, none⟩ = some (.int .i64 l) ∧ W.cell? ⟨Z, 1, none⟩ = some (.slice (some ⟨bi, oi, none⟩) pr.length rc) ∧ W.frozen? ⟨G, q, none⟩ = false ∧ Below wr.heap.size wr W → Calls Tryd.prog 33 #[.agg #[.slice ta f.terms.length tc, .slice na f.nons.length nc, .slice (some ⟨pb, off, none⟩) f.prods.length pc], .slice (some ⟨bi, oi + (m + 1) * 3, none⟩) (pr.length - (m + 1)) (rc - (m + 1)), v2, .slice (some ⟨fb, 0, none⟩) Rf.length fc, .slice ea Le.length ec] W fun e w' => ∃ v3a v3c, e = .returned (.slice v3a B.length v3c) ∧ Hid (SlI B (.slice v3a B.length v3c) w') ∧ (w'.cell? ⟨G, q, none⟩ = some (.slice v1a nq v1c) ∧ w'.cell? ⟨G, l, none⟩ = some v2 ∧ w'.cell? ⟨w.heap.size, 0, none⟩ = some (.slice ta f.terms.length tc) ∧ w'.cell? ⟨w.heap.size, 1, none⟩ = some (.slice na f.nons.length nc) ∧ w'.cell? ⟨w.heap.size, 2, none⟩ = some (.slice (some ⟨pb, off, none⟩) f.prods.length pc) ∧ w'.cell? ⟨Z, 0, none⟩ = some (.int .i64 l) ∧ w'.cell? ⟨Z, 1, none⟩ = some (.slice (some ⟨bi, oi, none⟩) pr.length rc) ∧ w'.frozen? ⟨G, q, none⟩ = false ∧ Below wr.heap.size wr w') := by
                intro W hS
                refine (HA.out (pr.drop (m + 1)) (rowAt R' l) Rf Le _ v2 _ _ W (hvs.next hS.2.2.2.2.2.2.2.2) (hs2.next hS.2.2.2.2.2.2.2.2) (hsf.slR.next hS.2.2.2.2.2.2.2.2) (hsb.next hS.2.2.2.2.2.2.2.2) (by rw [← HNN.out]; exact HGR.out) (by rw [← HNN.out]; exact HGB.out) (by simp; omega) (by omega)).mono ?_
                rintro e w' ⟨v3, rfl, h1, _, h3⟩
                rw [hBd] at h1
                obtain ⟨v3a, v3c, rfl, _⟩ := id h1
                exact ⟨v3a, v3c, rfl, h1, hstep _ _ hS h3⟩
              have hU3 : ∀ W v3a v3c, W.cell? ⟨G, q, none⟩ = some (.slice v1a nq v1c) ∧ W.cell? ⟨G, l, none⟩ = some v2 ∧ W.cell? ⟨w.heap.size, 0, none⟩ = some (.slice ta f.terms.length tc) ∧ W.cell? ⟨w.heap.size, 1, none⟩ = some (.slice na f.nons.length nc) ∧ W.cell? ⟨w.heap.size, 2, none⟩ = some (.slice (some ⟨pb, off, none⟩) f.prods.length pc) ∧ W.cell? ⟨Z, 0, none⟩ = some (.int .i64 l) ∧ W.cell? ⟨Z, 1, none⟩ = some (.slice (some ⟨bi, oi, none⟩) pr.length rc) ∧ W.frozen? ⟨G, q, none⟩ = false ∧ Below wr.heap.size wr W → Hid (SlI B (.slice v3a B.length v3c) W) → Calls Tryd.prog 31 #[.slice v1a nq v1c, .slice v3a B.length v3c] W fun e w' => ∃ va vc, e = .returned (.slice va A.length vc) ∧ Hid (SlI A (.slice va A.length vc) w' ∧ Apart (G + 1) (.slice va A.length vc)) ∧ (w'.cell? ⟨G, q, none⟩ = some (.slice v1a nq v1c) ∧ w'.cell? ⟨G, l, none⟩ = some v2 ∧ w'.cell? ⟨w.heap.size, 0, none⟩ = some (.slice ta f.terms.length tc) ∧ w'.cell? ⟨w.heap.size, 1, none⟩ = some (.slice na f.nons.length nc) ∧ w'.cell? ⟨w.heap.size, 2, none⟩ = some (.slice (some ⟨pb, off, none⟩) f.prods.length pc) ∧ w'.cell? ⟨Z, 0, none⟩ = some (.int .i64 l) ∧ w'.cell? ⟨Z, 1, none⟩ = some (.slice (some ⟨bi, oi, none⟩) pr.length rc) ∧ w'.frozen? ⟨G, q, none⟩ = false ∧ Below wr.heap.size wr w') := by
                intro W v3a v3c hS hB3
                refine (union_any (rowAt R' q) B _ _ W (hs1.next hS.2.2.2.2.2.2.2.2) hB3.out (by have := HNQ.out; omega)).mono ?_
                rintro e w' ⟨v', rfl, h1, h2, h3⟩
                rw [hAd] at h1
                obtain ⟨va, vc, rfl, _⟩ := id h1
                refine ⟨va, vc, rfl, ⟨h1, ?_⟩, hstep _ _ hS h3⟩
                rcases h2 with e | e
                · rw [e]; exact ha1
                · exact e.mono (by have := hS.2.2.2.2.2.2.2.2.size; omega)
              have HA3 : Hid (∀ W, W.cell? ⟨G, q, none⟩ = some (.slice v1a nq v1c) ∧ W.cell? ⟨G, l, none⟩ = some v2 ∧ W.cell? ⟨w.heap.size, 0, none⟩ = some (.slice ta f.terms.length tc) ∧ W.cell? ⟨w.heap.size, 1, none⟩ = some (.slice na f.nons.length nc) ∧ W.cell? ⟨w.heap.size, 2, none⟩ = some (.slice (some ⟨pb, off, none⟩) f.prods.length pc) ∧ W.cell? ⟨Z, 0, none⟩ = some (.int .i64 l) ∧ W.cell? ⟨Z, 1, none⟩ = some (.slice (some ⟨bi, oi, none⟩) pr.length rc) ∧ W.frozen? ⟨G, q, none⟩ = false ∧ Below wr.heap.size wr W → Calls Tryd.prog 33 #[.agg #[.slice ta f.terms.length tc, .slice na f.nons.length nc, .slice (some ⟨pb, off, none⟩) f.prods.length pc], .slice (some ⟨bi, oi + (m + 1) * 3, none⟩) (pr.length - (m + 1)) (rc - (m + 1)), v2, .slice (some ⟨fb, 0, none⟩) Rf.length fc, .slice ea Le.length ec] W fun e w' => ∃ v3a v3c, e = .returned (.slice v3a B.length v3c) ∧ Hid (SlI B (.slice v3a B.length v3c) w') ∧ (w'.cell? ⟨G, q, none⟩ = some (.slice v1a nq v1c) ∧ w'.cell? ⟨G, l, none⟩ = some v2 ∧ w'.cell? ⟨w.heap.size, 0, none⟩ = some (.slice ta f.terms.length tc) ∧ w'.cell? ⟨w.heap.size, 1, none⟩ = some (.slice na f.nons.length nc) ∧ w'.cell? ⟨w.heap.size, 2, none⟩ = some (.slice (some ⟨pb, off, none⟩) f.prods.length pc) ∧ w'.cell? ⟨Z, 0, none⟩ = some (.int .i64 l) ∧ w'.cell? ⟨Z, 1, none⟩ = some (.slice (some ⟨bi, oi, none⟩) pr.length rc) ∧ w'.frozen? ⟨G, q, none⟩ = false ∧ Below wr.heap.size wr w')) := hA3
              have HU3 : Hid (∀ W v3a v3c, W.cell? ⟨G, q, none⟩ = some (.slice v1a nq v1c) ∧ W.cell? ⟨G, l, none⟩ = some v2 ∧ W.cell? ⟨w.heap.size, 0, none⟩ = some (.slice ta f.terms.length tc) ∧ W.cell? ⟨w.heap.size, 1, none⟩ = some (.slice na f.nons.length nc) ∧ W.cell? ⟨w.heap.size, 2, none⟩ = some (.slice (some ⟨pb, off, none⟩) f.prods.length pc) ∧ W.cell? ⟨Z, 0, none⟩ = some (.int .i64 l) ∧ W.cell? ⟨Z, 1, none⟩ = some (.slice (some ⟨bi, oi, none⟩) pr.length rc) ∧ W.frozen? ⟨G, q, none⟩ = false ∧ Below wr.heap.size wr W → Hid (SlI B (.slice v3a B.length v3c) W) → Calls Tryd.prog 31 #[.slice v1a nq v1c, .slice v3a B.length v3c] W fun e w' => ∃ va vc, e = .returned (.slice va A.length vc) ∧ Hid (SlI A (.slice va A.length vc) w' ∧ Apart (G + 1) (.slice va A.length vc)) ∧ (w'.cell? ⟨G, q, none⟩ = some (.slice v1a nq v1c) ∧ w'.cell? ⟨G, l, none⟩ = some v2 ∧ w'.cell? ⟨w.heap.size, 0, none⟩ = some (.slice ta f.terms.length tc) ∧ w'.cell? ⟨w.heap.size, 1, none⟩ = some (.slice na f.nons.length nc) ∧ w'.cell? ⟨w.heap.size, 2, none⟩ = some (.slice (some ⟨pb, off, none⟩) f.prods.length pc) ∧ w'.cell? ⟨Z, 0, none⟩ = some (.int .i64 l) ∧ w'.cell? ⟨Z, 1, none⟩ = some (.slice (some ⟨bi, oi, none⟩) pr.length rc) ∧ w'.frozen? ⟨G, q, none⟩ = false ∧ Below wr.heap.size wr w')) := hU3
              clear hA3 hU3 hs1 hs2 ha1 ha2 hsb hsf hvs hR hst hr hv1 hv2 d0 d1 d2 e0 e1 hstep hBd hAd
              refine wp_region_L (fun W => W.cell? ⟨G, q, none⟩ = some (.slice v1a nq v1c) ∧ W.cell? ⟨G, l, none⟩ = some v2 ∧ W.cell? ⟨w.heap.size, 0, none⟩ = some (.slice ta f.terms.length tc) ∧ W.cell? ⟨w.heap.size, 1, none⟩ = some (.slice na f.nons.length nc) ∧ W.cell? ⟨w.heap.size, 2, none⟩ = some (.slice (some ⟨pb, off, none⟩) f.prods.length pc) ∧ W.cell? ⟨Z, 0, none⟩ = some (.int .i64 l) ∧ W.cell? ⟨Z, 1, none⟩ = some (.slice (some ⟨bi, oi, none⟩) pr.length rc) ∧ W.frozen? ⟨G, q, none⟩ = false ∧ Below wr.heap.size wr W) 21 (by kernel_rfl) 23 rfl ?_
              refine wpL_take (v := ?_) (oi := { dst := some 64, op := Op.move (Operand.tmp 3), type := 34, pos := "ref.go:136", after := #[], guard := none }) (by decide) rfl (by kernel_rfl) (by kernel_rfl) (by kernel_rfl) (by kernel_rfl) (fun _ _ _ h => h) (Or.inl ⟨by rfl, ?_⟩) HS0.out ?_
              rotate_left
              · intro W hSW
                go_simp
                try with_reducible rfl
              simp only [Act.put, List.setIfInBounds_toArray, List.set_cons_zero, List.set_cons_succ]
              refine wpL_take (v := ?_) (oi := { dst := some 65, op := Op.move (Operand.tmp 10), type := 3, pos := "ref.go:136", after := #[], guard := none }) (by decide) rfl (by kernel_rfl) (by kernel_rfl) (by kernel_rfl) (by kernel_rfl) (fun _ _ _ h => h) (Or.inl ⟨by rfl, ?_⟩) HS0.out ?_
              rotate_left
              · intro W hSW
                go_simp
                try with_reducible rfl
              simp only [Act.put, List.setIfInBounds_toArray, List.set_cons_zero, List.set_cons_succ]
              refine wpL_take (v := ?_) (oi := { dst := some 66, op := Op.move (Operand.tmp 3), type := 34, pos := "ref.go:136", after := #[], guard := none }) (by decide) rfl (by kernel_rfl) (by kernel_rfl) (by kernel_rfl) (by kernel_rfl) (fun _ _ _ h => h) (Or.inl ⟨by rfl, ?_⟩) HS0.out ?_
              rotate_left
              · intro W hSW
                go_simp
                try with_reducible rfl
              simp only [Act.put, List.setIfInBounds_toArray, List.set_cons_zero, List.set_cons_succ]
              refine wpL_take (v := ?_) (oi := { dst := some 67, op := Op.move (Operand.tmp 10), type := 3, pos := "ref.go:136", after := #[], guard := none }) (by decide) rfl (by kernel_rfl) (by kernel_rfl) (by kernel_rfl) (by kernel_rfl) (fun _ _ _ h => h) (Or.inl ⟨by rfl, ?_⟩) HS0.out ?_
              rotate_left
              · intro W hSW
                go_simp
                try with_reducible rfl
              simp only [Act.put, List.setIfInBounds_toArray, List.set_cons_zero, List.set_cons_succ]
              refine wpL_take (v := ?_) (oi := { dst := some 68, op := Op.indexAddr 34 (Operand.tmp 66) (Operand.tmp 67), type := 0, pos := "ref.go:136", after := #[{ on := 2, ground := Ground.data }, { on := 3, ground := Ground.data }], guard := none }) (by decide) rfl (by kernel_rfl) (by kernel_rfl) (by kernel_rfl) (by kernel_rfl) (fun _ _ _ h => h) (Or.inl ⟨by rfl, ?_⟩) HS0.out ?_
              rotate_left
              · intro W hSW
                go_simp
                try with_reducible rfl
              simp only [Act.put, List.setIfInBounds_toArray, List.set_cons_zero, List.set_cons_succ]
              refine wpL_take (v := ?_) (oi := { dst := some 69, op := Op.load 27 (Operand.tmp 68), type := 27, pos := "ref.go:136", after := #[{ on := 4, ground := Ground.data }], guard := none }) (by decide) rfl (by kernel_rfl) (by kernel_rfl) (by kernel_rfl) (by kernel_rfl) (fun _ _ _ h => h) (Or.inl ⟨by rfl, ?_⟩) HS0.out ?_
              rotate_left
              · intro W hSW
                go_simp
                try with_reducible rfl
              simp only [Act.put, List.setIfInBounds_toArray, List.set_cons_zero, List.set_cons_succ]
              refine wpL_take (v := ?_) (oi := { dst := some 70, op := Op.load 25 (Operand.tmp 1), type := 25, pos := "ref.go:136", after := #[], guard := none }) (by decide) rfl (by kernel_rfl) (by kernel_rfl) (by kernel_rfl) (by kernel_rfl) (fun _ _ _ h => h) (Or.inl ⟨by rfl, ?_⟩) HS0.out ?_
              rotate_left
              · intro W hSW
                go_simp
                try with_reducible rfl
              simp only [Act.put, List.setIfInBounds_toArray, List.set_cons_zero, List.set_cons_succ]
              refine wpL_take (v := ?_) (oi := { dst := some 71, op := Op.fieldAddr 45 (Operand.tmp 8) 1, type := 0, pos := "ref.go:136", after := #[], guard := none }) (by decide) rfl (by kernel_rfl) (by kernel_rfl) (by kernel_rfl) (by kernel_rfl) (fun _ _ _ h => h) (Or.inl ⟨by rfl, ?_⟩) HS0.out ?_
              rotate_left
              · intro W hSW
                go_simp
                try with_reducible rfl
              simp only [Act.put, List.setIfInBounds_toArray, List.set_cons_zero, List.set_cons_succ]
              refine wpL_take (v := ?_) (oi := { dst := some 72, op := Op.load 26 (Operand.tmp 71), type := 26, pos := "ref.go:136", after := #[{ on := 7, ground := Ground.data }], guard := none }) (by decide) rfl (by kernel_rfl) (by kernel_rfl) (by kernel_rfl) (by kernel_rfl) (fun _ _ _ h => h) (Or.inl ⟨by rfl, ?_⟩) HS0.out ?_
              rotate_left
              · intro W hSW
                go_simp
                try with_reducible rfl
              simp only [Act.put, List.setIfInBounds_toArray, List.set_cons_zero, List.set_cons_succ]
              refine wpL_take (v := ?_) (oi := { dst := some 73, op := Op.move (Operand.tmp 9), type := 3, pos := "ref.go:136", after := #[], guard := none }) (by decide) rfl (by kernel_rfl) (by kernel_rfl) (by kernel_rfl) (by kernel_rfl) (fun _ _ _ h => h) (Or.inl ⟨by rfl, ?_⟩) HS0.out ?_
              rotate_left
              · intro W hSW
                go_simp
                try with_reducible rfl
              simp only [Act.put, List.setIfInBounds_toArray, List.set_cons_zero, List.set_cons_succ]
              refine wpL_take (v := ?_) (oi := { dst := some 74, op := Op.binOp BinOp.add 3 (Operand.tmp 73) (Operand.const (Value.int IntKind.i64 1)) 3, type := 3, pos := "ref.go:136", after := #[{ on := 9, ground := Ground.data }], guard := none }) (by decide) rfl (by kernel_rfl) (by kernel_rfl) (by kernel_rfl) (by kernel_rfl) (fun _ _ _ h => h) (Or.inl ⟨by rfl, ?_⟩) HS0.out ?_
              rotate_left
              · intro W hSW
                go_simp
                try with_reducible rfl
              simp only [Act.put, List.setIfInBounds_toArray, List.set_cons_zero, List.set_cons_succ]
              refine wpL_take (v := ?_) (oi := { dst := some 75, op := Op.slice 26 (Operand.tmp 72) (some (Operand.tmp 74)) none none, type := 26, pos := "ref.go:136", after := #[{ on := 8, ground := Ground.data }, { on := 10, ground := Ground.data }], guard := none }) (by decide) rfl (by kernel_rfl) (by kernel_rfl) (by kernel_rfl) (by kernel_rfl) (fun _ _ _ h => h) (Or.inl ⟨by rfl, ?_⟩) HS0.out ?_
              rotate_left
              · intro W hSW
                go_simp
                try with_reducible rfl
              simp only [Act.put, List.setIfInBounds_toArray, List.set_cons_zero, List.set_cons_succ]
              refine wpL_take (v := ?_) (oi := { dst := some 76, op := Op.move (Operand.tmp 3), type := 34, pos := "ref.go:136", after := #[], guard := none }) (by decide) rfl (by kernel_rfl) (by kernel_rfl) (by kernel_rfl) (by kernel_rfl) (fun _ _ _ h => h) (Or.inl ⟨by rfl, ?_⟩) HS0.out ?_
              rotate_left
              · intro W hSW
                go_simp
                try with_reducible rfl
              simp only [Act.put, List.setIfInBounds_toArray, List.set_cons_zero, List.set_cons_succ]
              refine wpL_take (v := ?_) (oi := { dst := some 77, op := Op.fieldAddr 45 (Operand.tmp 8) 0, type := 0, pos := "ref.go:136", after := #[], guard := none }) (by decide) rfl (by kernel_rfl) (by kernel_rfl) (by kernel_rfl) (by kernel_rfl) (fun _ _ _ h => h) (Or.inl ⟨by rfl, ?_⟩) HS0.out ?_
              rotate_left
              · intro W hSW
                go_simp
                try with_reducible rfl
              simp only [Act.put, List.setIfInBounds_toArray, List.set_cons_zero, List.set_cons_succ]
              refine wpL_take (v := ?_) (oi := { dst := some 78, op := Op.load 3 (Operand.tmp 77), type := 3, pos := "ref.go:136", after := #[{ on := 13, ground := Ground.data }], guard := none }) (by decide) rfl (by kernel_rfl) (by kernel_rfl) (by kernel_rfl) (by kernel_rfl) (fun _ _ _ h => h) (Or.inl ⟨by rfl, ?_⟩) HS0.out ?_
              rotate_left
              · intro W hSW
                go_simp
                try with_reducible rfl
              simp only [Act.put, List.setIfInBounds_toArray, List.set_cons_zero, List.set_cons_succ]
              refine wpL_take (v := ?_) (oi := { dst := some 79, op := Op.indexAddr 34 (Operand.tmp 76) (Operand.tmp 78), type := 0, pos := "ref.go:136", after := #[{ on := 12, ground := Ground.data }, { on := 14, ground := Ground.data }], guard := none }) (by decide) rfl (by kernel_rfl) (by kernel_rfl) (by kernel_rfl) (by kernel_rfl) (fun _ _ _ h => h) (Or.inl ⟨by rfl, ?_⟩) HS0.out ?_
              rotate_left
              · intro W hSW
                go_simp
                try with_reducible rfl
              simp only [Act.put, List.setIfInBounds_toArray, List.set_cons_zero, List.set_cons_succ]
              refine wpL_take (v := ?_) (oi := { dst := some 80, op := Op.load 27 (Operand.tmp 79), type := 27, pos := "ref.go:136", after := #[{ on := 15, ground := Ground.data }], guard := none }) (by decide) rfl (by kernel_rfl) (by kernel_rfl) (by kernel_rfl) (by kernel_rfl) (fun _ _ _ h => h) (Or.inl ⟨by rfl, ?_⟩) HS0.out ?_
              rotate_left
              · intro W hSW
                go_simp
                try with_reducible rfl
              simp only [Act.put, List.setIfInBounds_toArray, List.set_cons_zero, List.set_cons_succ]
              refine wpL_take (v := ?_) (oi := { dst := some 81, op := Op.move (Operand.tmp 5), type := 34, pos := "ref.go:136", after := #[], guard := none }) (by decide) rfl (by kernel_rfl) (by kernel_rfl) (by kernel_rfl) (by kernel_rfl) (fun _ _ _ h => h) (Or.inl ⟨by rfl, ?_⟩) HS0.out ?_
              rotate_left
              · intro W hSW
                go_simp
                try with_reducible rfl
              simp only [Act.put, List.setIfInBounds_toArray, List.set_cons_zero, List.set_cons_succ]
              refine wpL_take (v := ?_) (oi := { dst := some 82, op := Op.move (Operand.tmp 4), type := 31, pos := "ref.go:136", after := #[], guard := none }) (by decide) rfl (by kernel_rfl) (by kernel_rfl) (by kernel_rfl) (by kernel_rfl) (fun _ _ _ h => h) (Or.inl ⟨by rfl, ?_⟩) HS0.out ?_
              rotate_left
              · intro W hSW
                go_simp
                try with_reducible rfl
              simp only [Act.put, List.setIfInBounds_toArray, List.set_cons_zero, List.set_cons_succ]
              refine wpL_one (o := { dst := some 83, op := Op.call { callee := Callee.value (Operand.func 33), args := #[Operand.tmp 70, Operand.tmp 75, Operand.tmp 80, Operand.tmp 81, Operand.tmp 82], argTypes := #[25, 26, 27, 34, 31] }, type := 27, pos := "ref.go:136", after := #[{ on := 6, ground := Ground.data }, { on := 11, ground := Ground.data }, { on := 16, ground := Ground.data }, { on := 17, ground := Ground.data }, { on := 18, ground := Ground.data }], guard := none }) (by decide) (by kernel_rfl) rfl (fun K hK => ?_)
              go_simp
              refine (HA3.out _ HS0.out).mono ?_
              rintro e w5 ⟨v3a, v3c, rfl, hB3, hS5⟩
              refine hK.out _ _ (fun _ => hS5) ?_
              clear hK
              refine wpL_one (o := { dst := some 84, op := Op.call { callee := Callee.value (Operand.func 31), args := #[Operand.tmp 69, Operand.tmp 83], argTypes := #[27, 27] }, type := 27, pos := "ref.go:136", after := #[{ on := 5, ground := Ground.data }, { on := 19, ground := Ground.data }, { on := 19, ground := Ground.chain }], guard := none }) (by decide) (by kernel_rfl) rfl (fun K hK => ?_)
              go_simp
              refine (HU3.out _ _ _ hS5 hB3).mono ?_
              rintro e w' ⟨va, vc, rfl, hV, hS1⟩
              refine hK.out _ _ (fun _ => hS1) ?_
              obtain ⟨z0, z1, z2, z3, z4, z5, z6, z7, hbW⟩ := hS1
              clear hK hS5 hB3 HA3 HU3
              refine wpL_one (o := { dst := some 85, op := Op.indexAddr 34 (Operand.tmp 64) (Operand.tmp 65), type := 0, pos := "ref.go:136", after := #[{ on := 0, ground := Ground.data }, { on := 1, ground := Ground.data }, { on := 0, ground := Ground.phase }, { on := 1, ground := Ground.phase }, { on := 2, ground := Ground.phase }, { on := 3, ground := Ground.phase }, { on := 4, ground := Ground.phase }, { on := 5, ground := Ground.phase }, { on := 6, ground := Ground.phase }, { on := 7, ground := Ground.phase }, { on := 8, ground := Ground.phase }, { on := 9, ground := Ground.phase }, { on := 10, ground := Ground.phase }, { on := 11, ground := Ground.phase }, { on := 12, ground := Ground.phase }, { on := 13, ground := Ground.phase }, { on := 14, ground := Ground.phase }, { on := 15, ground := Ground.phase }, { on := 16, ground := Ground.phase }, { on := 17, ground := Ground.phase }, { on := 18, ground := Ground.phase }, { on := 19, ground := Ground.phase }, { on := 20, ground := Ground.phase }], guard := none }) (by decide) (by kernel_rfl) rfl (fun K2 hK2 => ?_)
              go_simp
              refine hK2.out _ _ (fun h => absurd h (by decide)) ?_
              clear hK2
              refine wpL_one (o := { dst := none, op := Op.store 27 (Operand.tmp 85) (Operand.tmp 84), type := 0, pos := "ref.go:136", after := #[{ on := 21, ground := Ground.data }, { on := 20, ground := Ground.data }, { on := 20, ground := Ground.chain }, { on := 0, ground := Ground.phase }, { on := 1, ground := Ground.phase }, { on := 2, ground := Ground.phase }, { on := 3, ground := Ground.phase }, { on := 4, ground := Ground.phase }, { on := 5, ground := Ground.phase }, { on := 6, ground := Ground.phase }, { on := 7, ground := Ground.phase }, { on := 8, ground := Ground.phase }, { on := 9, ground := Ground.phase }, { on := 10, ground := Ground.phase }, { on := 11, ground := Ground.phase }, { on := 12, ground := Ground.phase }, { on := 13, ground := Ground.phase }, { on := 14, ground := Ground.phase }, { on := 15, ground := Ground.phase }, { on := 16, ground := Ground.phase }, { on := 17, ground := Ground.phase }, { on := 18, ground := Ground.phase }, { on := 19, ground := Ground.phase }, { on := 20, ground := Ground.phase }], guard := none }) (by decide) (by kernel_rfl) rfl (fun K3 hK3 => ?_)
              go_simp
              refine hK3.out _ _ (fun h => absurd h (by decide)) ?_
              clear hK3
              refine wpAnyL_done (by kernel_rfl) ?_ _
              have hR5 : RowR N G w1 (fun W => (SlB Le (.slice ea Le.length ec) W ∧ SlRB (G + 1) Rf (.slice (some ⟨fb, 0, none⟩) Rf.length fc) W) ∧ W.cell? ⟨Z, 0, none⟩ = some (.int .i64 l) ∧ W.cell? ⟨Z, 1, none⟩ = some (.slice (some ⟨bi, oi, none⟩) pr.length rc) ∧ Z < W.heap.size) (R'.set q A) (w'.setCell ⟨G, q, none⟩ (.slice va A.length vc)) := (HRx.out.next HC.out HG.out hbW).store HC.out hqN hV.out.1 hV.out.2
              clear HRx hV z0 z1 z2 z3 z4 z5 z6 z7 hbW
              generalize w'.setCell ⟨G, q, none⟩ (.slice va A.length vc) = W2 at *
              obtain ⟨v5, hv5, hs5, ha5⟩ := hR5.get hqN
              rw [rowAt_set (by rw [HRL.out]; exact hqN), if_pos rfl] at hs5
              obtain ⟨a5, k5, rfl, _⟩ := hs5
              have HR6 : Hid (RowR N G w1 (fun W => (SlB Le (.slice ea Le.length ec) W ∧ SlRB (G + 1) Rf (.slice (some ⟨fb, 0, none⟩) Rf.length fc) W) ∧ W.cell? ⟨Z, 0, none⟩ = some (.int .i64 l) ∧ W.cell? ⟨Z, 1, none⟩ = some (.slice (some ⟨bi, oi, none⟩) pr.length rc) ∧ Z < W.heap.size) (R'.set q A) W2) := hR5
              clear hR5 ha5
              cases b with
              | true =>
                go_wp2_with fail
                exact ⟨⟨true, m + 1, R'.set q A, rfl, by go_num, by omega, HR6.out, HFS.out.1, HFS.out.2⟩, by simp [intOf]; omega⟩
              | false =>
                go_wp2_with fail
                exact ⟨⟨decide ((nq : Int) < A.length), m + 1, R'.set q A, (by congr 1; simp), by go_num, by omega, HR6.out, HFS.out.1, HFS.out.2⟩, by simp [intOf]; omega⟩
          · obtain rfl : m = pr.length := by omega
            have HRr : Hid (RoundR (ClosedO (EmpP f) (FstP f) f.terms.length) f.gr R R' b (j + 1)) := by
              rw [← hsl] at hr
              exact hr.done HTK.out hst (by rw [HNN.out]; exact hlN) (by rw [HNN.out]; exact HSN.out)
            have HR6 : Hid (RowR N G w1 (fun W => SlB Le (.slice ea Le.length ec) W ∧ SlRB (G + 1) Rf (.slice (some ⟨fb, 0, none⟩) Rf.length fc) W) R' wr ∧ StO f R') := ⟨hR.with (fun h => h.1), hst⟩
            clear hr hR hst hsb hsf HC
            go_wp2_with fail
            exact ⟨⟨b, j + 1, R', rfl, by go_num, by omega, HR6.out.1, HR6.out.2, HRr.out⟩, by simp [intOf]; omega⟩
      · obtain rfl : j = f.prods.length := by omega
        have hbR := HSb.out.ok.bulk_max (fun s t h => by have := fol_le h; rw [HNN.out]; omega)
        have hbR' := hst.ok.bulk_max (fun s t h => by have := fol_le h; rw [HNN.out]; omega)
        rw [HNN.out] at hbR hbR'
        have HE2 : Hid ((b = false → ∀ q ∈ f.gr, ClosedO (EmpP f) (FstP f) f.terms.length R' q) ∧ 2 * (N * (N + 1) - bulk R') + b2n b < 2 * (N * (N + 1) - bulk R) + b2n true) := by
          refine ⟨fun hb q hq => ?_, ?_⟩
          · rw [(hr.2.2 hb).1]
            exact (hr.2.2 hb).2 q (by rw [List.take_of_length_le (by unfold Fl.gr; simp)]; exact hq)
          · generalize N * (N + 1) = M at *
            cases b with
            | true => have := hr.2.1 rfl; simp [b2n]; omega
            | false => rw [(hr.2.2 rfl).1]; simp [b2n]
        have HW2 : Hid (RowR N G w1 (fun W => SlB Le (.slice ea Le.length ec) W ∧ SlRB (G + 1) Rf (.slice (some ⟨fb, 0, none⟩) Rf.length fc) W) R' wr) := hR
        have HST2 : Hid (StO f R') := hst
        clear hr hR hst hbR hbR'
        go_wp2_with fail
        go_roundg (2 * (N * (N + 1) - bulk R') + b2n b)
        case measure => exact HE2.out.2
        case rel => exact ⟨b, R', rfl, rfl, HW2.out, HST2.out, HE2.out.1⟩
end Go.Proofs.YtckbfiigbckmeaaDoor
