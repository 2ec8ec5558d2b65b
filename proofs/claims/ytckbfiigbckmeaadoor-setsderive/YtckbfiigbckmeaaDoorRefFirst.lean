/- First of the document. -/
import Derived.Test.YtckbfiigbckmeaaDoorRowsR
import Derived.Test.YtckbfiigbckmeaaDoorHeld
namespace Go.Proofs.YtckbfiigbckmeaaDoor
open Go.RowKit

def EmpP (f : Fl) : Nat → Prop := Der (fun _ => False) f.gr
def FstP (f : Fl) : Nat → Int → Prop := Fst (EmpP f) f.terms.length f.gr

/-- Rows that came back: all of it lies from block B on. -/
def SlRB (B : Nat) (R : List (List Int)) (v : Value) (W : World) : Prop :=
  ∃ b cap, v = .slice (some ⟨b, 0, none⟩) R.length cap ∧ B ≤ b ∧ b < W.heap.size ∧ R.length ≤ cap ∧ ∀ (i : Nat) (l : List Int), R[i]? = some l → ∃ u, W.cell? ⟨b, i, none⟩ = some u ∧ SlI l u W ∧ Apart B u
def GaveR (P : Nat → Int → Prop) (f : Fl) (w : World) (e : Ending) (w' : World) : Prop := ∃ v R, e = .returned v ∧ GivesR P f.n R ∧ SlRB w.heap.size R v w' ∧ Below w.heap.size w w'
theorem SlRB.slR {B R v W} (h : SlRB B R v W) : SlR R v W := by
  obtain ⟨b, cap, rfl, h1, h2, h3, h4⟩ := h
  refine ⟨some ⟨b, 0, none⟩, cap, rfl, fun i l hi => ?_, (fun h => by cases h), h3⟩
  obtain ⟨u, h5, h6, _⟩ := h4 i l hi
  exact ⟨b, 0, u, rfl, h2, by simpa using h5, h6⟩
theorem SlRB.next {B R v W W'} (h : SlRB B R v W) (hb : Below W.heap.size W W') : SlRB B R v W' := by
  obtain ⟨b, cap, rfl, h1, h2, h3, h4⟩ := h
  refine ⟨b, cap, rfl, h1, Nat.lt_of_lt_of_le h2 hb.size, h3, fun i l hi => ?_⟩
  obtain ⟨u, h5, h6, h7⟩ := h4 i l hi
  exact ⟨u, (hb.cell (p := ⟨b, i, none⟩) h2).trans h5, h6.next hb, h7⟩
theorem SlRB.set {G R v W} (h : SlRB (G + 1) R v W) (s : Nat) (u : Value) : SlRB (G + 1) R v (W.setCell ⟨G, s, none⟩ u) := by
  obtain ⟨b, cap, rfl, h1, h2, h3, h4⟩ := h
  refine ⟨b, cap, rfl, h1, by simpa using h2, h3, fun i l hi => ?_⟩
  obtain ⟨x, h5, h6, h7⟩ := h4 i l hi
  exact ⟨x, (cell_set_other W u (by omega)).trans h5, h6.set h7 s u, h7⟩
theorem RowR.slRB {N G B w1 C R W} (h : RowR N G w1 C R W) (hB : B ≤ G) : SlRB B R (.slice (some ⟨G, 0, none⟩) N N) W := by
  have hlen := h.len
  refine ⟨G, N, by rw [hlen], hB, h.lt, by rw [hlen]; exact Nat.le_refl _, fun i l hi => ?_⟩
  have hi2 : i < R.length := (List.getElem?_eq_some_iff.1 hi).1
  obtain ⟨v, h1, h2, h3⟩ := h.get (s := i) (by omega)
  rw [rowAt_get hi2] at h2
  rw [List.getElem?_eq_getElem hi2] at hi
  cases hi
  exact ⟨v, h1, h2, h3.mono (by omega)⟩
theorem RowR.with {N G w1 R W} {C C' : World → Prop} (h : RowR N G w1 C R W) (hC : C W → C' W) : RowR N G w1 C' R W := by
  obtain ⟨vs, h0, h1, h2, h3, h4, h5⟩ := h
  exact ⟨vs, h0, h1, h2, h3, h4, hC h5⟩

/-- All blocks that were there but block G are as they were. -/
structure KeptBut (G : Nat) (w w' : World) : Prop where
  size : w.heap.size ≤ w'.heap.size
  block : ∀ k, k < w.heap.size → k ≠ G → w'.heap[k]? = w.heap[k]?
theorem KeptBut.drew {G : Nat} (w : World) : KeptBut G w w.drew := ⟨Nat.le_refl _, fun _ _ _ => rfl⟩
theorem KeptBut.below {G : Nat} {w W W' : World} (h : KeptBut G w W) (hb : Below W.heap.size W W') : KeptBut G w W' :=
  ⟨Nat.le_trans h.size hb.size, fun k hk hg => (hb.block k (Nat.lt_of_lt_of_le hk h.size)).trans (h.block k hk hg)⟩
theorem KeptBut.set {G : Nat} {w W : World} (h : KeptBut G w W) (s : Nat) (u : Value) : KeptBut G w (W.setCell ⟨G, s, none⟩ u) :=
  ⟨by simpa using h.size, fun k hk hg => (Below.heap_setCell W ⟨G, s, none⟩ u k hg).trans (h.block k hk hg)⟩
theorem KeptBut.slI {G : Nat} {w W : World} {l : List Int} {v : Value} (h : KeptBut G w W) (hs : SlI l v w) (ha : Apart (G + 1) v) : SlI l v W := by
  obtain ⟨ao, cap, rfl, h1, h2, h3, h4⟩ := hs
  refine ⟨ao, cap, rfl, fun i x hi => ?_, h2, h3, h4⟩
  obtain ⟨b, off, rfl, hb, hc⟩ := h1 i x hi
  have hg := ha _ _ _ rfl
  simp only at hg
  exact ⟨b, off, rfl, Nat.lt_of_lt_of_le hb h.size, (World.cell?_of_block (w := w) (h.block b hb (by omega))).trans hc⟩
theorem frozen_set (W : World) (a b : Addr) (u : Value) : (W.setCell a u).frozen? b = W.frozen? b := by simp
theorem set_alloc (W : World) {G s : Nat} (h : G < W.heap.size) {o : Obj} {v : Value} : (W.alloc o).setCell ⟨G, s, none⟩ v = (W.setCell ⟨G, s, none⟩ v).alloc o := World.setCell_alloc_past o G s v h
theorem row_nils (N s : Nat) : rowAt (List.replicate N []) s = [] := by
  unfold rowAt; rw [List.getD_eq_getElem?_getD, List.getElem?_replicate]; split <;> rfl

/-- First's state. -/
structure StF (f : Fl) (R : List (List Int)) : Prop where
  ok : OkR (FstP f) f.n R
  basic : ∀ t : Nat, t < f.terms.length → InR R t t

theorem first_step {f : Fl} {R R' : List (List Int)} {b : Bool} {j l m nl : Nat} {sy : List Nat} {A : List Int} (hst : StF f R') (hr : RoundR (ClosedF (EmpP f)) f.gr R R' b j) (htk : f.gr.take (j + 1) = f.gr.take j ++ [(l, sy)])
    (hin : InnF (EmpP f) (FstP f) R' l sy m A) (hend : m = sy.length ∨ ∃ y ∈ sy.take m, ¬ EmpP f y) (hl : l < f.n) (hlt : f.terms.length ≤ l) (hsy : ∀ x ∈ sy, x < f.n) (hnl : (rowAt R' l).length = nl) :
    StF f (R'.set l A) ∧ RoundR (ClosedF (EmpP f)) f.gr R (R'.set l A) (b || decide ((nl : Int) < A.length)) (j + 1) := by
  have hll : l < R'.length := by rw [hst.ok.len]; exact hl
  have hb := bulk_set_row (A := A) hll
  have hle := hin.len hst.ok
  rw [hnl] at hb hle
  refine ⟨⟨hst.ok.set hl hin.rise hin.sub, fun t ht => ?_⟩, hr.step htk (by omega) (fun e => ?_) (fun e => ?_)⟩
  · rw [inR_set hll]
    exact .inr ⟨by omega, hst.basic t ht⟩
  · rw [Bool.or_eq_true, decide_eq_true_eq] at e
    exact e.imp id (fun h => by omega)
  · rw [Bool.or_eq_false_iff, decide_eq_false_iff_not] at e
    obtain ⟨hA, hc⟩ := hin.closed hst.ok hl hsy (by rw [hnl]; omega) hend
    exact ⟨e.1, by rw [hA]; exact set_rowAt hll, hc⟩

set_option maxRecDepth 100000 in
set_option maxHeartbeats 3200000 in
theorem rfirst_any (f : Fl) (a : FlA) (w : World) (hf : FlAt f a w) (hp : FitP f) :
    Calls Tryd.prog 16 #[a.val f] w fun e w' => GaveR (FstP f) f w e w' := by
  have hn : f.n ≤ 600 := hp.size
  have hS := fun W => rsize_any f a W hn
  have hE := fun W (hb : Below w.heap.size w W) => rempty_any f a W (hf.next hb) hp
  obtain ⟨i0, hi0, hz0, hz1, hz2⟩ := info_parts info27
  obtain ⟨ta, tc, na, nc, pa, pc⟩ := a
  have X0 := FBox.new f ⟨ta, tc, na, nc, pa, pc⟩ 25 w
  have B0 : Below w.heap.size w (w.alloc (fobj f ⟨ta, tc, na, nc, pa, pc⟩ 25)) := (Below.refl _ _).alloc (Nat.le_refl _) _
  obtain ⟨h0, h1, h2, h3, h4, h5, h6, h7⟩ := hf
  unfold fobj at X0 B0
  unfold FlA.val at hS hE ⊢
  simp only at *
  clear h0 h1
  have HS : Hid (∀ W, Calls Tryd.prog 28 #[.agg #[.slice ta f.terms.length tc, .slice na f.nons.length nc, .slice pa f.prods.length pc]] W fun e w' => e = .returned (.int .i64 f.n) ∧ Below W.heap.size W w') := hS
  have HE : Hid (∀ W, Below w.heap.size w W → Calls Tryd.prog 11 #[.agg #[.slice ta f.terms.length tc, .slice na f.nons.length nc, .slice pa f.prods.length pc]] W fun e w' => GaveB (fun _ => False) f W e w') := hE
  clear hS hE
  obtain ⟨N, hN⟩ : ∃ N, f.n = N := ⟨_, rfl⟩
  rw [hN] at hn HS
  have HNN : Hid (f.n = N) := hN
  clear hN
  go_enter Tryd.func16, Tryd.ntmps16
  go_wp2_with fail
  refine (HS.out _).mono ?_
  rintro e w1 ⟨rfl, hb1⟩
  have X1 := X0.next hb1
  have B1 := below_then B0 hb1 B0.size
  clear X0 B0 hb1 HS
  go_wp2_with (at_make; refine wpList_make_full _ rfl _ _ 34 rfl w1.heap.size 27 i0 _ 1 Tryd.underlying34 hi0 hz0 hz1 _ _ _ _ N rfl rfl rfl rfl (by rw [hz2]; omega) (by unfold maxLen; omega) (Nat.le_refl _) ?_)
  intro w2 hown hg2
  have R0 : RowR N w1.heap.size w1 (fun _ => True) (List.replicate N []) w2 := RowR.made (by simpa using hown) hg2 trivial
  have B2 := below_then B1 ((Below.refl w1.heap.size w1).grown hg2 (Nat.le_refl _) (fun k e => by cases e)) B1.size
  clear hown hg2
  obtain ⟨G, hG⟩ : ∃ G, w1.heap.size = G := ⟨_, rfl⟩
  have hwG : w.heap.size < G := by rw [← hG]; exact X1.1
  have HX : Hid (∀ W, Below G w1 W → FBox f ⟨ta, tc, na, nc, pa, pc⟩ w.heap.size W) := fun W hb => X1.next (by rw [hG]; exact hb)
  have HP : Hid (∀ W, Below G w1 W → PrsAt f.prods pa W) := fun W hb => (h2.next B1).next (by rw [hG]; exact hb)
  have HB : Hid (∀ W, Below G w1 W → Below w.heap.size w W) := fun W hb => below_then B1 (by rw [hG]; exact hb) B1.size
  have HG : Hid (G = w1.heap.size) := hG.symm
  rw [hG] at R0 ⊢
  have HQ : Hid (FitP f) := hp
  have HR0 : Hid (RowR N G w1 (fun _ => True) (List.replicate N []) w2) := R0
  have hx2 := HX.out _ R0.below
  obtain ⟨x1, d0, d1, d2⟩ := id hx2
  simp only at d0 d1 d2
  clear X1 h2 B1 hG hp R0 hx2
  go_wp2_with fail
  refine (HE.out _ B2).mono ?_
  rintro e w3 ⟨ve, Le, rfl, hgb, hsl, hap, hb3⟩
  obtain ⟨ea, ec, rfl, _⟩ := id hsl
  have hap2 : Apart (G + 1) (.slice ea Le.length ec) := hap.mono HR0.out.lt
  have hst : Steady G (fun W => SlB Le (.slice ea Le.length ec) W) := ⟨fun h hb => h.next hb, fun s u h => h.set hap2 s u⟩
  have HST : Hid (Steady G (fun W => SlB Le (.slice ea Le.length ec) W)) := hst
  have R3 : RowR N G w1 (fun W => SlB Le (.slice ea Le.length ec) W) (List.replicate N []) w3 := (HR0.out.next (C := fun _ => True) ⟨fun _ _ => trivial, fun _ _ _ => trivial⟩ HG.out hb3).with (fun _ => hsl)
  have HR3 : Hid (RowR N G w1 (fun W => SlB Le (.slice ea Le.length ec) W) (List.replicate N []) w3) := R3
  have HGB : Hid (GivesB (fun _ => False) f.gr f.n Le) := hgb
  clear hst hap hap2 hgb hsl hb3 B2 HE HR0 x1 d0 d1 d2 R3
  go_wp2_with fail
  have HF0 : Hid (OkR (FstP f) f.n (List.replicate N [])) := by
    refine ⟨by simp [HNN.out], fun s => ?_, fun s _ t ht => ?_⟩
    · rw [row_nils]; exact List.Pairwise.nil
    · rw [row_nils] at ht; cases ht
  go_loopw [5] (fun i wr => ∃ (j : Nat) (R : List (List Int)), i = .int .i64 j ∧ j ≤ f.terms.length ∧ RowR N G w1 (fun W => SlB Le (.slice ea Le.length ec) W) R wr ∧ OkR (FstP f) f.n R ∧ ∀ t : Nat, t < j → InR R t t) (fun i _ => f.terms.length - (intOf i).toNat)
  case atStart => exact ⟨0, _, rfl, Nat.zero_le _, HR3.out, HF0.out, by simp⟩
  case round =>
  clear HR3 HF0
  obtain ⟨j, R, rfl, hj, hR, hok, hbas⟩ := hrel
  obtain ⟨x1, d0, d1, d2⟩ := HX.out _ hR.below
  simp only at d0 d1 d2
  have htN : f.terms.length ≤ N := by have := HNN.out; unfold Fl.n at this; omega
  have hRl := hR.len
  by_cases hlt : j < f.terms.length
  · have hR2 := hR.next HST.out HG.out ((Below.refl wr.heap.size wr).alloc (Nat.le_refl _) (Obj.cells #[Value.int IntKind.i64 j] 3))
    have hnew : SlI [(j : Int)] (.slice (some ⟨wr.heap.size, 0, none⟩) 1 1) (wr.alloc (Obj.cells #[Value.int IntKind.i64 j] 3)) := by
      refine ⟨some ⟨wr.heap.size, 0, none⟩, 1, rfl, fun i x hi => ⟨wr.heap.size, 0, rfl, by simp, ?_⟩, (fun h => by cases h), Nat.le_refl _, ?_⟩
      · cases i with
        | zero => simp at hi; subst hi; simp [encI]
        | succ i => simp at hi
      · intro x hx; simp at hx; subst hx; unfold i64B; omega
    have HR4 : Hid (RowR N G w1 (fun W => SlB Le (.slice ea Le.length ec) W) (R.set j [(j : Int)]) ((wr.alloc (Obj.cells #[Value.int IntKind.i64 j] 3)).setCell ⟨G, j, none⟩ (.slice (some ⟨wr.heap.size, 0, none⟩) 1 1))) :=
      hR2.store HST.out (by omega) hnew (fun ad n c e => by cases e; have := hR.lt; exact this)
    have HO4 : Hid (OkR (FstP f) f.n (R.set j [(j : Int)])) := hok.set (by rw [HNN.out]; omega) (List.pairwise_singleton _ _) (fun t ht => by simp at ht; subst ht; exact .term hlt)
    have HB4 : Hid (∀ t : Nat, t < j + 1 → InR (R.set j [(j : Int)]) t t) := fun t ht => by
      rw [inR_set (by rw [hRl]; omega)]
      by_cases e : t = j
      · subst e; exact .inl ⟨rfl, by simp⟩
      · exact .inr ⟨e, hbas t (by omega)⟩
    have hfz : wr.frozen? ⟨G, j, none⟩ = false := hR.frozen j
    obtain ⟨u, hcl, _⟩ := hR.get (s := j) (by omega)
    have hGl := hR.lt
    rw [set_alloc wr hGl] at HR4
    clear hR hok hbas hR2 hnew
    go_wp2_with fail
    exact ⟨⟨j + 1, R.set j [(j : Int)], by go_num, by omega, HR4.out, HO4.out, HB4.out⟩, by simp [intOf]; omega⟩
  obtain rfl : j = f.terms.length := by omega
  have HRa : Hid (RowR N G w1 (fun W => SlB Le (.slice ea Le.length ec) W) R wr) := hR
  have HSa : Hid (StF f R) := ⟨hok, hbas⟩
  clear hR hok hbas
  go_wp2_with fail
  clear d0 d1 d2 x1
  go_loopg [6] (2 * (N * (N + 1) - bulk R) + 1) (fun k ag wr => ∃ (b : Bool) (R : List (List Int)), ag = .bool b ∧ k = 2 * (N * (N + 1) - bulk R) + b2n b ∧ RowR N G w1 (fun W => SlB Le (.slice ea Le.length ec) W) R wr ∧ StF f R ∧ (b = false → ∀ q ∈ f.gr, ClosedF (EmpP f) R q))
  case atStart => exact ⟨true, _, rfl, rfl, HRa.out, HSa.out, by simp⟩
  case round =>
    obtain ⟨b, R, rfl, rfl, hR, hst, hc⟩ := hrel
    clear HRa HSa
    cases b with
    | false =>
      have HZ : Hid (GivesR (FstP f) f.n R ∧ RowR N G w1 (fun W => SlB Le (.slice ea Le.length ec) W) R wr) := ⟨hst.ok.gives (fun s _ t h => complete_F hst.basic (hc rfl) h), hR⟩
      clear hR hc hst
      go_wp2_with fail
      go_ret
      obtain ⟨z1, z2⟩ := HZ.out
      exact ⟨_, R, rfl, z1, z2.slRB (Nat.le_of_lt hwG), HB.out _ z2.below⟩
    | true =>
    have HRb : Hid (RowR N G w1 (fun W => SlB Le (.slice ea Le.length ec) W) R wr) := hR
    have HSb : Hid (StF f R) := hst
    clear hR hc hst
    go_wp2_with fail
    go_loopw [6, 7] (fun ag i wx => ∃ (b : Bool) (j : Nat) (R' : List (List Int)), ag = .bool b ∧ i = .int .i64 j ∧ j ≤ f.prods.length ∧ RowR N G w1 (fun W => SlB Le (.slice ea Le.length ec) W) R' wx ∧ StF f R' ∧ RoundR (ClosedF (EmpP f)) f.gr R R' b j) (fun _ i _ => f.prods.length - (intOf i).toNat)
    case atStart => exact ⟨false, 0, R, rfl, rfl, Nat.zero_le _, HRb.out, HSb.out, RoundR.start _ _ R⟩
    case round =>
      obtain ⟨b, j, R', rfl, rfl, hj, hR, hst, hr⟩ := hrel
      obtain ⟨x1, d0, d1, d2⟩ := HX.out _ hR.below
      simp only at d0 d1 d2
      by_cases hlt : j < f.prods.length
      · obtain ⟨pb, off, v, rfl, hb, c0, c1, c2, hv, hl, hpr⟩ := (HP.out w1 (Below.refl _ _)).at (Below.refl _ _) hlt
        obtain ⟨ra, rc, rfl, hI, _, hr1, hr2⟩ := hv
        rw [← HG.out] at hb
        replace c0 := (hR.below.cell (p := ⟨pb, off + j * 3, none⟩) hb).trans c0
        replace c1 := (hR.below.cell (p := ⟨pb, off + j * 3 + 1, none⟩) hb).trans c1
        replace c2 := (hR.below.cell (p := ⟨pb, off + j * 3 + 2, none⟩) hb).trans c2
        have hlf := HQ.out.left _ (List.getElem_mem hlt)
        have hrl := HQ.out.right _ (List.getElem_mem hlt)
        have hsy := HQ.out.sym _ (List.getElem_mem hlt)
        have HM : Hid ((f.prods[j].left.toNat, f.prods[j].syms) ∈ f.gr) := gr_mem hlt
        have HTK : Hid (f.gr.take (j + 1) = f.gr.take j ++ [(f.prods[j].left.toNat, f.prods[j].syms)]) := gr_take hlt
        have HI : Hid (∀ W, Below G w1 W → ItsAt f.prods[j].right ra W) := fun W hW => hI.next (by rw [← HG.out]; exact hW)
        have hln : (f.terms.length + f.nons.length : Nat) = N := HNN.out
        rw [hln] at hlf hsy
        clear hI
        generalize f.prods[j] = p at *
        obtain ⟨pl, pr, pp⟩ := p
        simp only at *
        obtain ⟨l, rfl⟩ : ∃ l : Nat, pl = l := ⟨pl.toNat, by omega⟩
        simp only [Int.toNat_natCast] at HM HTK
        have hlN : l < N := by omega
        obtain ⟨sy, hsyd⟩ : ∃ sy, (⟨(l : Int), pr, pp⟩ : Pr).syms = sy := ⟨_, rfl⟩
        rw [hsyd] at HM HTK
        have HSY : Hid (pr.map (fun x => x.sym.toNat) = sy) := hsyd
        have hsl : sy.length = pr.length := by rw [← hsyd]; unfold Pr.syms; simp
        have HSN : Hid (∀ x ∈ sy, x < N) := by
          intro x hx
          rw [← hsyd] at hx
          unfold Pr.syms at hx
          obtain ⟨y, hy, rfl⟩ := List.mem_map.1 hx
          have := hsy y hy
          omega
        clear hsyd
        have HW : Hid (RowR N G w1 (fun W => SlB Le (.slice ea Le.length ec) W) R' (wr.alloc (Obj.cells #[Value.int IntKind.i64 l, Value.slice ra pr.length rc, Value.int IntKind.i64 pp] 45))) := hR.next HST.out HG.out ((Below.refl _ _).alloc (Nat.le_refl _) _)
        have E : (wr.alloc (Obj.cells #[Value.int IntKind.i64 l, Value.slice ra pr.length rc, Value.int IntKind.i64 pp] 45)).cell? ⟨wr.heap.size, 0, none⟩ = some (.int .i64 l) ∧ (wr.alloc (Obj.cells #[Value.int IntKind.i64 l, Value.slice ra pr.length rc, Value.int IntKind.i64 pp] 45)).cell? ⟨wr.heap.size, 1, none⟩ = some (.slice ra pr.length rc) ∧ wr.heap.size < (wr.alloc (Obj.cells #[Value.int IntKind.i64 l, Value.slice ra pr.length rc, Value.int IntKind.i64 pp] 45)).heap.size := by refine ⟨?_, ?_, ?_⟩ <;> simp
        have hZG : wr.heap.size ≠ G := by have := hR.lt; omega
        have HSc : Hid (StF f R') := hst
        have HRr : Hid (RoundR (ClosedF (EmpP f)) f.gr R R' b j) := hr
        clear hR hst hr HP
        go_upto_region 14 with fail
        generalize wr.alloc (Obj.cells #[Value.int IntKind.i64 l, Value.slice ra pr.length rc, Value.int IntKind.i64 pp] 45) = Wp at *
        obtain ⟨e0, e1, e2⟩ := E
        generalize wr.heap.size = Z at e0 e1 e2 hZG ⊢
        clear c0 c1 c2 d0 d1 d2 hb x1
        obtain ⟨vl, hvl, hvs, hva⟩ := HW.out.get hlN
        obtain ⟨la, lc, rfl, _⟩ := id hvs
        have HC : Hid (Steady G (fun W => SlB Le (.slice ea Le.length ec) W ∧ W.cell? ⟨Z, 0, none⟩ = some (.int .i64 l) ∧ W.cell? ⟨Z, 1, none⟩ = some (.slice ra pr.length rc) ∧ Z < W.heap.size)) := by
          refine ⟨fun h hb => ⟨HST.out.next h.1 hb, (hb.cell (p := ⟨Z, 0, none⟩) h.2.2.2).trans h.2.1, (hb.cell (p := ⟨Z, 1, none⟩) h.2.2.2).trans h.2.2.1, Nat.lt_of_lt_of_le h.2.2.2 hb.size⟩, fun s u h => ⟨HST.out.set s u h.1, ?_, ?_, ?_⟩⟩
          · rw [cell_set_other _ _ hZG]; exact h.2.1
          · rw [cell_set_other _ _ hZG]; exact h.2.2.1
          · simpa using h.2.2.2
        have HW2 : Hid (RowR N G w1 (fun W => SlB Le (.slice ea Le.length ec) W ∧ W.cell? ⟨Z, 0, none⟩ = some (.int .i64 l) ∧ W.cell? ⟨Z, 1, none⟩ = some (.slice ra pr.length rc) ∧ Z < W.heap.size) (R'.set l (rowAt R' l)) Wp) := by
          show RowR _ _ _ _ _ _
          rw [set_rowAt (by rw [HW.out.len]; exact hlN)]
          exact HW.out.with (fun h => ⟨h, e0, e1, e2⟩)
        have HIn : Hid (InnF (EmpP f) (FstP f) R' l sy 0 (rowAt R' l)) := InnF.start HSc.out.ok (by rw [HNN.out]; exact hlN)
        have HRL : Hid (R'.length = N) := HW.out.len
        generalize hnl : (rowAt R' l).length = nl at *
        have HNL : Hid ((rowAt R' l).length = nl) := hnl
        clear hnl hvs hva
        go_wp2_with fail
        clear hvl e0 e1 e2 HW
        go_loopw [10] (fun k wq => ∃ (m : Nat) (A : List Int), k = .int .i64 m ∧ m ≤ pr.length ∧ RowR N G w1 (fun W => SlB Le (.slice ea Le.length ec) W ∧ W.cell? ⟨Z, 0, none⟩ = some (.int .i64 l) ∧ W.cell? ⟨Z, 1, none⟩ = some (.slice ra pr.length rc) ∧ Z < W.heap.size) (R'.set l A) wq ∧ InnF (EmpP f) (FstP f) R' l sy m A ∧ (∀ y ∈ sy.take m, EmpP f y)) (fun k _ => pr.length - (intOf k).toNat)
        case atStart => exact ⟨0, _, rfl, Nat.zero_le _, HW2.out, HIn.out, by simp⟩
        case round =>
          clear HW2 HIn
          obtain ⟨m, A, rfl, hm, hR, hin, hem⟩ := hrel
          obtain ⟨hsb, e0, e1, e2⟩ := hR.ctx
          by_cases hml : m < pr.length
          · obtain ⟨bi, oi, rfl, hbi, q0, _, _, si, _⟩ := (HI.out _ hR.below).at (Below.refl _ _) hml
            have hs := hsy _ (List.getElem_mem hml)
            have HX1 : Hid (sy[m]'(by omega) = pr[m].sym.toNat) := by show _ = _; have := HSY.out; subst this; simp
            have HIQ : Hid (∀ W, Below G w1 W → W.cell? ⟨bi, oi + m * 3, none⟩ = some (.int .i64 pr[m].sym)) := fun W hW => by
              obtain ⟨bi', oi', e', _, q', _⟩ := (HI.out _ hW).at (Below.refl _ _) hml
              cases e'
              exact q'
            generalize pr[m] = x at *
            obtain ⟨xs, xf, xa⟩ := x
            simp only at *
            obtain ⟨q, rfl⟩ : ∃ q : Nat, xs = q := ⟨xs.toNat, by omega⟩
            simp only [Int.toNat_natCast] at HX1
            have hqN : q < N := by omega
            have HEQ : Hid (∀ W, SlB Le (.slice ea Le.length ec) W → ∃ eb eo, ea = some ⟨eb, eo, none⟩ ∧ W.cell? ⟨eb, eo + q, none⟩ = some (.bool (onb Le q))) := fun W hW => by
              obtain ⟨ea', ec', e', h1, _⟩ := hW
              cases e'
              have hql : q < Le.length := by rw [HGB.out.1, HNN.out]; exact hqN
              obtain ⟨eb, eo, e2, _, h2⟩ := h1.at (Below.refl _ _) hql
              exact ⟨eb, eo, e2, by rw [h2, onb_get hql]; rfl⟩
            have hLn : q < Le.length := by rw [HGB.out.1, HNN.out]; exact hqN
            have HEE : Hid (onb Le q = true ↔ EmpP f q) := by
              show _ ↔ _
              rw [onb_iff]
              exact HGB.out.2 q (by rw [HNN.out]; exact hqN)
            obtain ⟨v1, hv1, hs1, ha1⟩ := hR.get hlN
            obtain ⟨v2, hv2, hs2, ha2⟩ := hR.get hqN
            rw [rowAt_set (by rw [HRL.out]; exact hlN), if_pos rfl] at hs1
            go_upto_region 18 with fail
            have hGl := hR.lt
            have hAl : A.length ≤ 601 := by
              have := rising_length (n := 601) hin.rise (fun t ht => by have h1 := fst_lt (hin.sub t ht); omega)
              exact this
            have hBl : (rowAt (R'.set l A) q).length ≤ 601 := by
              rw [rowAt_set (by rw [HRL.out]; exact hlN)]
              split
              · exact hAl
              · exact rising_length (n := 601) (HSc.out.ok.rise q) (fun t ht => by have h1 := fst_lt (HSc.out.ok.sound q (by rw [HNN.out]; exact hqN) t ht); omega)
            obtain ⟨A2, hA2⟩ : ∃ A2, unionL A (rowAt (R'.set l A) q) = A2 := ⟨_, rfl⟩
            have HA2 : Hid (unionL A (rowAt (R'.set l A) q) = A2) := hA2
            have hu : ∀ W, W.cell? ⟨Z, 0, none⟩ = some (.int .i64 l) ∧ W.cell? ⟨Z, 1, none⟩ = some (.slice (some ⟨bi, oi, none⟩) pr.length rc) ∧ W.cell? ⟨bi, oi + m * 3, none⟩ = some (.int .i64 q) ∧ W.cell? ⟨G, l, none⟩ = some v1 ∧ W.cell? ⟨G, q, none⟩ = some v2 ∧ W.frozen? ⟨G, l, none⟩ = false ∧ Below wr.heap.size wr W → Calls Tryd.prog 31 #[v1, v2] W fun e w' => ∃ va vc, e = .returned (.slice va A2.length vc) ∧ Hid (SlI A2 (.slice va A2.length vc) w' ∧ Apart (G + 1) (.slice va A2.length vc)) ∧ (w'.cell? ⟨Z, 0, none⟩ = some (.int .i64 l) ∧ w'.cell? ⟨Z, 1, none⟩ = some (.slice (some ⟨bi, oi, none⟩) pr.length rc) ∧ w'.cell? ⟨bi, oi + m * 3, none⟩ = some (.int .i64 q) ∧ w'.cell? ⟨G, l, none⟩ = some v1 ∧ w'.cell? ⟨G, q, none⟩ = some v2 ∧ w'.frozen? ⟨G, l, none⟩ = false ∧ Below wr.heap.size wr w') := by
              intro W hS
              obtain ⟨z0, z1, z2, z3, z4, z5, hbW⟩ := hS
              refine (union_any A _ v1 v2 W (hs1.next hbW) (hs2.next hbW) (by omega)).mono ?_
              rintro e w' ⟨v', rfl, hv', hap', hb'⟩
              rw [hA2] at hv'
              obtain ⟨va, vc, rfl, _⟩ := id hv'
              have hBz := hbW.size
              refine ⟨va, vc, rfl, ⟨hv', ?_⟩, (hb'.cell (p := ⟨Z, 0, none⟩) (by show Z < _; omega)).trans z0, (hb'.cell (p := ⟨Z, 1, none⟩) (by show Z < _; omega)).trans z1, (hb'.cell (p := ⟨bi, oi + m * 3, none⟩) (by show bi < _; omega)).trans z2, (hb'.cell (p := ⟨G, l, none⟩) (by show G < _; omega)).trans z3, (hb'.cell (p := ⟨G, q, none⟩) (by show G < _; omega)).trans z4, (hb'.frozen (p := ⟨G, l, none⟩) (by show G < _; omega)).trans z5, below_then hbW hb' hBz⟩
              rcases hap' with e | e
              · rw [e]; exact ha1
              · exact e.mono (by omega)
            have HS0 : Hid (wr.drew.cell? ⟨Z, 0, none⟩ = some (.int .i64 l) ∧ wr.drew.cell? ⟨Z, 1, none⟩ = some (.slice (some ⟨bi, oi, none⟩) pr.length rc) ∧ wr.drew.cell? ⟨bi, oi + m * 3, none⟩ = some (.int .i64 q) ∧ wr.drew.cell? ⟨G, l, none⟩ = some v1 ∧ wr.drew.cell? ⟨G, q, none⟩ = some v2 ∧ wr.drew.frozen? ⟨G, l, none⟩ = false ∧ Below wr.heap.size wr wr.drew) := ⟨e0, e1, q0, hv1, hv2, hR.frozen l, (Below.refl _ _).drew⟩
            have HRx : Hid (RowR N G w1 (fun W => SlB Le (.slice ea Le.length ec) W ∧ W.cell? ⟨Z, 0, none⟩ = some (.int .i64 l) ∧ W.cell? ⟨Z, 1, none⟩ = some (.slice (some ⟨bi, oi, none⟩) pr.length rc) ∧ Z < W.heap.size) (R'.set l A) wr) := hR
            have HInx : Hid (InnF (EmpP f) (FstP f) R' l sy m A ∧ (∀ y ∈ sy.take m, EmpP f y)) := ⟨hin, hem⟩
            clear hR hin hem hs1 hs2 ha1 ha2 hA2 hsb
            refine wp_region_L (fun W => W.cell? ⟨Z, 0, none⟩ = some (.int .i64 l) ∧ W.cell? ⟨Z, 1, none⟩ = some (.slice (some ⟨bi, oi, none⟩) pr.length rc) ∧ W.cell? ⟨bi, oi + m * 3, none⟩ = some (.int .i64 q) ∧ W.cell? ⟨G, l, none⟩ = some v1 ∧ W.cell? ⟨G, q, none⟩ = some v2 ∧ W.frozen? ⟨G, l, none⟩ = false ∧ Below wr.heap.size wr W) 18 (by kernel_rfl) 20 rfl ?_
            refine wpL_take (v := ?_) (oi := { dst := some 54, op := Op.move (Operand.tmp 3), type := 34, pos := "ref.go:89", after := #[], guard := none }) (by decide) rfl (by kernel_rfl) (by kernel_rfl) (by kernel_rfl) (by kernel_rfl) (fun _ _ _ h => h) (Or.inl ⟨by rfl, ?_⟩) HS0.out ?_
            rotate_left
            · intro W hSW
              go_simp
              try with_reducible rfl
            simp only [Act.put, List.setIfInBounds_toArray, List.set_cons_zero, List.set_cons_succ]
            refine wpL_take (v := ?_) (oi := { dst := some 55, op := Op.fieldAddr 45 (Operand.tmp 8) 0, type := 0, pos := "ref.go:89", after := #[], guard := none }) (by decide) rfl (by kernel_rfl) (by kernel_rfl) (by kernel_rfl) (by kernel_rfl) (fun _ _ _ h => h) (Or.inl ⟨by rfl, ?_⟩) HS0.out ?_
            rotate_left
            · intro W hSW
              go_simp
              try with_reducible rfl
            simp only [Act.put, List.setIfInBounds_toArray, List.set_cons_zero, List.set_cons_succ]
            refine wpL_take (v := ?_) (oi := { dst := some 56, op := Op.load 3 (Operand.tmp 55), type := 3, pos := "ref.go:89", after := #[{ on := 1, ground := Ground.data }], guard := none }) (by decide) rfl (by kernel_rfl) (by kernel_rfl) (by kernel_rfl) (by kernel_rfl) (fun _ _ _ h => h) (Or.inl ⟨by rfl, ?_⟩) HS0.out ?_
            rotate_left
            · intro W hSW
              go_simp
              try with_reducible rfl
            simp only [Act.put, List.setIfInBounds_toArray, List.set_cons_zero, List.set_cons_succ]
            refine wpL_take (v := ?_) (oi := { dst := some 57, op := Op.move (Operand.tmp 3), type := 34, pos := "ref.go:89", after := #[], guard := none }) (by decide) rfl (by kernel_rfl) (by kernel_rfl) (by kernel_rfl) (by kernel_rfl) (fun _ _ _ h => h) (Or.inl ⟨by rfl, ?_⟩) HS0.out ?_
            rotate_left
            · intro W hSW
              go_simp
              try with_reducible rfl
            simp only [Act.put, List.setIfInBounds_toArray, List.set_cons_zero, List.set_cons_succ]
            refine wpL_take (v := ?_) (oi := { dst := some 58, op := Op.fieldAddr 45 (Operand.tmp 8) 0, type := 0, pos := "ref.go:89", after := #[], guard := none }) (by decide) rfl (by kernel_rfl) (by kernel_rfl) (by kernel_rfl) (by kernel_rfl) (fun _ _ _ h => h) (Or.inl ⟨by rfl, ?_⟩) HS0.out ?_
            rotate_left
            · intro W hSW
              go_simp
              try with_reducible rfl
            simp only [Act.put, List.setIfInBounds_toArray, List.set_cons_zero, List.set_cons_succ]
            refine wpL_take (v := ?_) (oi := { dst := some 59, op := Op.load 3 (Operand.tmp 58), type := 3, pos := "ref.go:89", after := #[{ on := 4, ground := Ground.data }], guard := none }) (by decide) rfl (by kernel_rfl) (by kernel_rfl) (by kernel_rfl) (by kernel_rfl) (fun _ _ _ h => h) (Or.inl ⟨by rfl, ?_⟩) HS0.out ?_
            rotate_left
            · intro W hSW
              go_simp
              try with_reducible rfl
            simp only [Act.put, List.setIfInBounds_toArray, List.set_cons_zero, List.set_cons_succ]
            refine wpL_take (v := ?_) (oi := { dst := some 60, op := Op.indexAddr 34 (Operand.tmp 57) (Operand.tmp 59), type := 0, pos := "ref.go:89", after := #[{ on := 3, ground := Ground.data }, { on := 5, ground := Ground.data }], guard := none }) (by decide) rfl (by kernel_rfl) (by kernel_rfl) (by kernel_rfl) (by kernel_rfl) (fun _ _ _ h => h) (Or.inl ⟨by rfl, ?_⟩) HS0.out ?_
            rotate_left
            · intro W hSW
              go_simp
              try with_reducible rfl
            simp only [Act.put, List.setIfInBounds_toArray, List.set_cons_zero, List.set_cons_succ]
            refine wpL_take (v := ?_) (oi := { dst := some 61, op := Op.load 27 (Operand.tmp 60), type := 27, pos := "ref.go:89", after := #[{ on := 6, ground := Ground.data }], guard := none }) (by decide) rfl (by kernel_rfl) (by kernel_rfl) (by kernel_rfl) (by kernel_rfl) (fun _ _ _ h => h) (Or.inl ⟨by rfl, ?_⟩) HS0.out ?_
            rotate_left
            · intro W hSW
              go_simp
              try with_reducible rfl
            simp only [Act.put, List.setIfInBounds_toArray, List.set_cons_zero, List.set_cons_succ]
            refine wpL_take (v := ?_) (oi := { dst := some 62, op := Op.move (Operand.tmp 3), type := 34, pos := "ref.go:89", after := #[], guard := none }) (by decide) rfl (by kernel_rfl) (by kernel_rfl) (by kernel_rfl) (by kernel_rfl) (fun _ _ _ h => h) (Or.inl ⟨by rfl, ?_⟩) HS0.out ?_
            rotate_left
            · intro W hSW
              go_simp
              try with_reducible rfl
            simp only [Act.put, List.setIfInBounds_toArray, List.set_cons_zero, List.set_cons_succ]
            refine wpL_take (v := ?_) (oi := { dst := some 63, op := Op.fieldAddr 45 (Operand.tmp 8) 1, type := 0, pos := "ref.go:89", after := #[], guard := none }) (by decide) rfl (by kernel_rfl) (by kernel_rfl) (by kernel_rfl) (by kernel_rfl) (fun _ _ _ h => h) (Or.inl ⟨by rfl, ?_⟩) HS0.out ?_
            rotate_left
            · intro W hSW
              go_simp
              try with_reducible rfl
            simp only [Act.put, List.setIfInBounds_toArray, List.set_cons_zero, List.set_cons_succ]
            refine wpL_take (v := ?_) (oi := { dst := some 64, op := Op.load 26 (Operand.tmp 63), type := 26, pos := "ref.go:89", after := #[{ on := 9, ground := Ground.data }], guard := none }) (by decide) rfl (by kernel_rfl) (by kernel_rfl) (by kernel_rfl) (by kernel_rfl) (fun _ _ _ h => h) (Or.inl ⟨by rfl, ?_⟩) HS0.out ?_
            rotate_left
            · intro W hSW
              go_simp
              try with_reducible rfl
            simp only [Act.put, List.setIfInBounds_toArray, List.set_cons_zero, List.set_cons_succ]
            refine wpL_take (v := ?_) (oi := { dst := some 65, op := Op.move (Operand.tmp 10), type := 3, pos := "ref.go:89", after := #[], guard := none }) (by decide) rfl (by kernel_rfl) (by kernel_rfl) (by kernel_rfl) (by kernel_rfl) (fun _ _ _ h => h) (Or.inl ⟨by rfl, ?_⟩) HS0.out ?_
            rotate_left
            · intro W hSW
              go_simp
              try with_reducible rfl
            simp only [Act.put, List.setIfInBounds_toArray, List.set_cons_zero, List.set_cons_succ]
            refine wpL_take (v := ?_) (oi := { dst := some 66, op := Op.indexAddr 26 (Operand.tmp 64) (Operand.tmp 65), type := 0, pos := "ref.go:89", after := #[{ on := 10, ground := Ground.data }, { on := 11, ground := Ground.data }], guard := none }) (by decide) rfl (by kernel_rfl) (by kernel_rfl) (by kernel_rfl) (by kernel_rfl) (fun _ _ _ h => h) (Or.inl ⟨by rfl, ?_⟩) HS0.out ?_
            rotate_left
            · intro W hSW
              go_simp
              try with_reducible rfl
            simp only [Act.put, List.setIfInBounds_toArray, List.set_cons_zero, List.set_cons_succ]
            refine wpL_take (v := ?_) (oi := { dst := some 67, op := Op.fieldAddr 48 (Operand.tmp 66) 0, type := 0, pos := "ref.go:89", after := #[{ on := 12, ground := Ground.data }], guard := none }) (by decide) rfl (by kernel_rfl) (by kernel_rfl) (by kernel_rfl) (by kernel_rfl) (fun _ _ _ h => h) (Or.inl ⟨by rfl, ?_⟩) HS0.out ?_
            rotate_left
            · intro W hSW
              go_simp
              try with_reducible rfl
            simp only [Act.put, List.setIfInBounds_toArray, List.set_cons_zero, List.set_cons_succ]
            refine wpL_take (v := ?_) (oi := { dst := some 68, op := Op.load 3 (Operand.tmp 67), type := 3, pos := "ref.go:89", after := #[{ on := 13, ground := Ground.data }], guard := none }) (by decide) rfl (by kernel_rfl) (by kernel_rfl) (by kernel_rfl) (by kernel_rfl) (fun _ _ _ h => h) (Or.inl ⟨by rfl, ?_⟩) HS0.out ?_
            rotate_left
            · intro W hSW
              go_simp
              try with_reducible rfl
            simp only [Act.put, List.setIfInBounds_toArray, List.set_cons_zero, List.set_cons_succ]
            refine wpL_take (v := ?_) (oi := { dst := some 69, op := Op.indexAddr 34 (Operand.tmp 62) (Operand.tmp 68), type := 0, pos := "ref.go:89", after := #[{ on := 8, ground := Ground.data }, { on := 14, ground := Ground.data }], guard := none }) (by decide) rfl (by kernel_rfl) (by kernel_rfl) (by kernel_rfl) (by kernel_rfl) (fun _ _ _ h => h) (Or.inl ⟨by rfl, ?_⟩) HS0.out ?_
            rotate_left
            · intro W hSW
              go_simp
              try with_reducible rfl
            simp only [Act.put, List.setIfInBounds_toArray, List.set_cons_zero, List.set_cons_succ]
            refine wpL_take (v := ?_) (oi := { dst := some 70, op := Op.load 27 (Operand.tmp 69), type := 27, pos := "ref.go:89", after := #[{ on := 15, ground := Ground.data }], guard := none }) (by decide) rfl (by kernel_rfl) (by kernel_rfl) (by kernel_rfl) (by kernel_rfl) (fun _ _ _ h => h) (Or.inl ⟨by rfl, ?_⟩) HS0.out ?_
            rotate_left
            · intro W hSW
              go_simp
              try with_reducible rfl
            simp only [Act.put, List.setIfInBounds_toArray, List.set_cons_zero, List.set_cons_succ]
            refine wpL_one (o := { dst := some 71, op := Op.call { callee := Callee.value (Operand.func 31), args := #[Operand.tmp 61, Operand.tmp 70], argTypes := #[27, 27] }, type := 27, pos := "ref.go:89", after := #[{ on := 7, ground := Ground.data }, { on := 16, ground := Ground.data }], guard := none }) (by decide) (by kernel_rfl) rfl (fun K hK => ?_)
            go_simp
            refine (hu _ HS0.out).mono ?_
            rintro e w' ⟨va, vc, rfl, hV, hS1⟩
            have HS1 := hS1
            obtain ⟨z0, z1, z2, z3, z4, z5, hbW⟩ := hS1
            refine hK.out _ _ (fun _ => HS1) ?_
            clear hK
            refine wpL_one (o := { dst := some 72, op := Op.indexAddr 34 (Operand.tmp 54) (Operand.tmp 56), type := 0, pos := "ref.go:89", after := #[{ on := 0, ground := Ground.data }, { on := 2, ground := Ground.data }, { on := 0, ground := Ground.phase }, { on := 1, ground := Ground.phase }, { on := 2, ground := Ground.phase }, { on := 3, ground := Ground.phase }, { on := 4, ground := Ground.phase }, { on := 5, ground := Ground.phase }, { on := 6, ground := Ground.phase }, { on := 7, ground := Ground.phase }, { on := 8, ground := Ground.phase }, { on := 9, ground := Ground.phase }, { on := 10, ground := Ground.phase }, { on := 11, ground := Ground.phase }, { on := 12, ground := Ground.phase }, { on := 13, ground := Ground.phase }, { on := 14, ground := Ground.phase }, { on := 15, ground := Ground.phase }, { on := 16, ground := Ground.phase }, { on := 17, ground := Ground.phase }], guard := none }) (by decide) (by kernel_rfl) rfl (fun K2 hK2 => ?_)
            go_simp
            refine hK2.out _ _ (fun h => absurd h (by decide)) ?_
            clear hK2
            refine wpL_one (o := { dst := none, op := Op.store 27 (Operand.tmp 72) (Operand.tmp 71), type := 0, pos := "ref.go:89", after := #[{ on := 18, ground := Ground.data }, { on := 17, ground := Ground.data }, { on := 17, ground := Ground.chain }, { on := 0, ground := Ground.phase }, { on := 1, ground := Ground.phase }, { on := 2, ground := Ground.phase }, { on := 3, ground := Ground.phase }, { on := 4, ground := Ground.phase }, { on := 5, ground := Ground.phase }, { on := 6, ground := Ground.phase }, { on := 7, ground := Ground.phase }, { on := 8, ground := Ground.phase }, { on := 9, ground := Ground.phase }, { on := 10, ground := Ground.phase }, { on := 11, ground := Ground.phase }, { on := 12, ground := Ground.phase }, { on := 13, ground := Ground.phase }, { on := 14, ground := Ground.phase }, { on := 15, ground := Ground.phase }, { on := 16, ground := Ground.phase }, { on := 17, ground := Ground.phase }], guard := none }) (by decide) (by kernel_rfl) rfl (fun K3 hK3 => ?_)
            go_simp
            refine hK3.out _ _ (fun h => absurd h (by decide)) ?_
            clear hK3
            refine wpAnyL_done (by kernel_rfl) ?_ _
            have hR5 : RowR N G w1 (fun W => SlB Le (.slice ea Le.length ec) W ∧ W.cell? ⟨Z, 0, none⟩ = some (.int .i64 l) ∧ W.cell? ⟨Z, 1, none⟩ = some (.slice (some ⟨bi, oi, none⟩) pr.length rc) ∧ Z < W.heap.size) (R'.set l A2) (w'.setCell ⟨G, l, none⟩ (.slice va A2.length vc)) := by
              have h5 := (HRx.out.next HC.out HG.out hbW).store HC.out hlN hV.out.1 hV.out.2
              rw [List.set_set] at h5
              exact h5
            have hin5 : InnF (EmpP f) (FstP f) R' l sy (m + 1) A2 := by
              have h5 := HInx.out.1.step HSc.out.ok HM.out (by omega) (by rw [HNN.out]; exact hlN) (by rw [HX1.out, HNN.out]; exact hqN) HInx.out.2
              rw [HX1.out, HA2.out] at h5
              exact h5
            generalize w'.setCell ⟨G, l, none⟩ (.slice va A2.length vc) = W2 at *
            obtain ⟨hsb5, e05, e15, e25⟩ := hR5.ctx
            have q05 := HIQ.out _ hR5.below
            obtain ⟨eb, eo, rfl, c5⟩ := HEQ.out _ hsb5
            have HR5 : Hid (RowR N G w1 (fun W => SlB Le (.slice (some ⟨eb, eo, none⟩) Le.length ec) W ∧ W.cell? ⟨Z, 0, none⟩ = some (.int .i64 l) ∧ W.cell? ⟨Z, 1, none⟩ = some (.slice (some ⟨bi, oi, none⟩) pr.length rc) ∧ Z < W.heap.size) (R'.set l A2) W2) := hR5
            have HI5 : Hid (InnF (EmpP f) (FstP f) R' l sy (m + 1) A2) := hin5
            have HEM : Hid (∀ y ∈ sy.take m, EmpP f y) := HInx.out.2
            clear hR5 hin5 hsb5 hu HS1 z0 z1 z2 z3 z4 z5 hbW hV HRx HInx HS0 HEQ
            obtain ⟨v5, hv5, hs5, ha5⟩ := HR5.out.get hlN
            rw [rowAt_set (by rw [HRL.out]; exact hlN), if_pos rfl] at hs5
            obtain ⟨a5, k5, rfl, _⟩ := hs5
            have hA5 : A2.length ≤ 601 := rising_length (n := 601) HI5.out.rise (fun t ht => by have h1 := fst_lt (HI5.out.sub t ht); omega)
            cases ho : onb Le q with
            | true =>
              rw [ho] at c5
              have HEM2 : Hid (∀ y ∈ sy.take (m + 1), EmpP f y) := fun y hy => by
                rcases take_succ_mem (by omega) hy with h | h
                · exact HEM.out y h
                · rw [h, HX1.out]; exact HEE.out.1 ho
              clear ho HEM HEE hv5 ha5 hA5
              go_wp2_with fail
              exact ⟨⟨m + 1, A2, by go_num, by omega, HR5.out, HI5.out, HEM2.out⟩, by simp [intOf]; omega⟩
            | false =>
              rw [ho] at c5
              have HNE : Hid (∃ y ∈ sy.take (m + 1), ¬ EmpP f y) := by
                refine ⟨q, ?_, fun h => by rw [HEE.out.2 h] at ho; cases ho⟩
                rw [List.take_succ_eq_append_getElem (by omega), HX1.out]
                simp
              have HFS : Hid (StF f (R'.set l A2) ∧ RoundR (ClosedF (EmpP f)) f.gr R (R'.set l A2) (b || decide ((nl : Int) < A2.length)) (j + 1)) :=
                first_step HSc.out HRr.out HTK.out HI5.out (.inr HNE.out) (by rw [HNN.out]; exact hlN) (by omega) (by rw [HNN.out]; exact HSN.out) HNL.out
              have HR6 : Hid (RowR N G w1 (fun W => SlB Le (.slice (some ⟨eb, eo, none⟩) Le.length ec) W) (R'.set l A2) W2) := HR5.out.with (fun h => h.1)
              clear ho HEM HEE HNE HR5
              cases b with
              | true =>
                go_wp2_with fail
                exact ⟨⟨true, j + 1, R'.set l A2, rfl, by go_num, by omega, HR6.out, HFS.out.1, HFS.out.2⟩, by simp [intOf]; omega⟩
              | false =>
                go_wp2_with fail
                exact ⟨⟨decide ((nl : Int) < A2.length), j + 1, R'.set l A2, (by congr 1; simp), by go_num, by omega, HR6.out, HFS.out.1, HFS.out.2⟩, by simp [intOf]; omega⟩
          · have hml2 : m = pr.length := by omega
            have HFS : Hid (StF f (R'.set l A) ∧ RoundR (ClosedF (EmpP f)) f.gr R (R'.set l A) (b || decide ((nl : Int) < A.length)) (j + 1)) :=
              first_step HSc.out HRr.out HTK.out hin (.inl (by omega)) (by rw [HNN.out]; exact hlN) (by omega) (by rw [HNN.out]; exact HSN.out) HNL.out
            obtain ⟨v5, hv5, hs5, ha5⟩ := hR.get hlN
            rw [rowAt_set (by rw [HRL.out]; exact hlN), if_pos rfl] at hs5
            obtain ⟨a5, k5, rfl, _⟩ := hs5
            have HR6 : Hid (RowR N G w1 (fun W => SlB Le (.slice ea Le.length ec) W) (R'.set l A) wr) := hR.with (fun h => h.1)
            clear hin hem hR hsb HC
            cases b with
            | true =>
              go_wp2_with fail
              exact ⟨⟨true, j + 1, R'.set l A, rfl, by go_num, by omega, HR6.out, HFS.out.1, HFS.out.2⟩, by simp [intOf]; omega⟩
            | false =>
              go_wp2_with fail
              exact ⟨⟨decide ((nl : Int) < A.length), j + 1, R'.set l A, (by congr 1; simp), by go_num, by omega, HR6.out, HFS.out.1, HFS.out.2⟩, by simp [intOf]; omega⟩
      · obtain rfl : j = f.prods.length := by omega
        have hbR := HSb.out.ok.bulk_max (fun s t h => by have := fst_lt h; rw [HNN.out]; omega)
        have hbR' := hst.ok.bulk_max (fun s t h => by have := fst_lt h; rw [HNN.out]; omega)
        rw [HNN.out] at hbR hbR'
        have HE : Hid ((b = false → ∀ q ∈ f.gr, ClosedF (EmpP f) R' q) ∧ 2 * (N * (N + 1) - bulk R') + b2n b < 2 * (N * (N + 1) - bulk R) + b2n true) := by
          refine ⟨fun hb q hq => ?_, ?_⟩
          · rw [(hr.2.2 hb).1]
            exact (hr.2.2 hb).2 q (by rw [List.take_of_length_le (by unfold Fl.gr; simp)]; exact hq)
          · generalize N * (N + 1) = M at *
            cases b with
            | true => have := hr.2.1 rfl; simp [b2n]; omega
            | false => rw [(hr.2.2 rfl).1]; simp [b2n]
        have HW2 : Hid (RowR N G w1 (fun W => SlB Le (.slice ea Le.length ec) W) R' wr) := hR
        have HST2 : Hid (StF f R') := hst
        clear hr hR hst hbR hbR'
        go_wp2_with fail
        go_roundg (2 * (N * (N + 1) - bulk R') + b2n b)
        case measure => exact HE.out.2
        case rel => exact ⟨b, R', rfl, rfl, HW2.out, HST2.out, HE.out.1⟩
end Go.Proofs.YtckbfiigbckmeaaDoor
