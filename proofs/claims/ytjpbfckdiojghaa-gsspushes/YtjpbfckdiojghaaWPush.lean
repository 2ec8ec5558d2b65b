/- Stacks: the document's Push. -/
import Derived.Test.YtjpbfckdiojghaaWCopy
namespace Go.Proofs.Ytjpbfckdiojghaa
open Go.RowKit

/-- What Push tells. -/
def ToldP (l : List Gn) (f st pl : Int) (m : List Gn) (p : Int) (b : Bool) : Prop := (pushB l f st pl → m = pushL l f st pl ∧ p = (posG l (pl, st) : Nat) ∧ b = newB l f st pl) ∧ (¬ pushB l f st pl → m = l ∧ p = -1 ∧ b = false)
theorem fit_lk {l : List Gn} (h : fitP l) : ∀ x ∈ l, x.links.length ≤ 1000000 ∧ ∀ y ∈ x.links, 0 ≤ y ∧ y < 1000000 := fun x hx => ⟨by have := h.len hx; omega, fun y hy => by have := h.links x hx y hy; have := h.1; omega⟩
theorem putL_len {x : Int} {l : List Int} : (putL x l).length = if isAt l x then l.length else l.length + 1 := by
  rw [putL_pos]
  split
  · rfl
  · have := posL_le l x
    simp; omega
theorem putL_at {x : Int} {l : List Int} (h : isAt l x = true) : putL x l = l := by rw [putL_pos, if_pos h]

set_option maxRecDepth 100000 in
set_option maxHeartbeats 8000000 in
theorem rpush_any (l : List Gn) (v : Value) (f st pl : Int) (w : World) (hl : SlN l v w) (hf : fitP l) :
    Calls Try.prog 9 #[.agg #[v], .int .i64 f, .int .i64 st, .int .i64 pl] w fun e w' => ∃ m ma mc p b, e = .returned (.tuple #[.agg #[.slice ma (List.length m) mc], .int .i64 p, .bool b]) ∧ SlN m (.slice ma m.length mc) w' ∧ ToldP l f st pl m p b ∧ Below w.heap.size w w' := by
  have HL : Hid (∀ W, Below w.heap.size w W → SlN l v W) := fun W hb => hl.next hb
  have HFT : Hid (fitP l) := hf
  have hlen := hf.1
  clear hf
  obtain ⟨la, lc, rfl, _⟩ := hl
  obtain ⟨w0, hw0⟩ : ∃ w0, w0 = (w.alloc (Obj.cells #[.slice la l.length lc] 24)).alloc (Obj.cells #[.slice none 0 0] 24) := ⟨_, rfl⟩
  have B0 : Below w.heap.size w w0 := by rw [hw0]; exact ((Below.refl _ _).alloc (Nat.le_refl _) _).alloc (by simp) _
  have k0 : w0.heap[w.heap.size]? = some (Obj.cells #[.slice la l.length lc] 24) := by rw [hw0]; exact blk_new (heap_alloc_new _ _)
  have k1 : w0.heap[w.heap.size + 1]? = some (Obj.cells #[.slice none 0 0] 24) := by rw [hw0]; simpa using heap_alloc_new (w.alloc (Obj.cells #[.slice la l.length lc] 24)) (Obj.cells #[.slice none 0 0] 24)
  have HZ0 : Hid (w0.heap.size = w.heap.size + 2) := by show _ = _; rw [hw0]; simp
  have HB0 : Hid (Below w.heap.size w w0) := B0
  have HK0 : Hid (w0.heap[w.heap.size]? = some (Obj.cells #[.slice la l.length lc] 24) ∧ w0.heap[w.heap.size + 1]? = some (Obj.cells #[.slice none 0 0] 24)) := ⟨k0, k1⟩
  have c0 : w0.cell? ⟨w.heap.size, 0, none⟩ = some (.slice la l.length lc) := by rw [Lib.cell_of_heap k0]; rfl
  have HN1 := gnum_any st w0
  have HN2 := gnum_any pl w0
  go_enter Try.func9, Try.ntmps9
  go_upto_region 1 with fail
  rw [← hw0]
  clear hw0 k0 k1 B0
  go_cut [45] from 17 to 45 (fun t45 wx => ∃ G : Bool, t45 = .bool G ∧ Hid (G = false → hasB l f = true ∧ (∀ y, l[f.toNat]? = some y → y.pl ≤ pl) ∧ numB st = true ∧ numB pl = true) ∧ Hid (G = true → ¬ pushB l f st pl) ∧ wx = w0)
  case first =>
    by_cases hf0 : f < 0
    · have d0 : decide (f < 0) = true := decide_eq_true hf0
      go_wp2_with fail
      go_meet
      exact ⟨true, rfl, fun h => (by cases h), fun _ hp => by have := hp.2.1; unfold hasB at this; simp at this; omega, rfl⟩
    have d0 : decide (f < 0) = false := decide_eq_false hf0
    obtain ⟨j, rfl⟩ : ∃ j : Nat, f = j := ⟨f.toNat, by omega⟩
    by_cases hfl : j < l.length
    case neg =>
      have d1 : decide ((j : Int) ≥ l.length) = true := decide_eq_true (by omega)
      go_wp2_with fail
      go_meet
      exact ⟨true, rfl, fun h => (by cases h), fun _ hp => by have := hp.2.1; unfold hasB at this; simp at this; omega, rfl⟩
    have d1 : decide ((j : Int) ≥ l.length) = false := decide_eq_false (by omega)
    have d1n : decide (l.length ≤ j) = false := decide_eq_false (by omega)
    obtain ⟨_, _, e0, hgn, _⟩ := HL.out _ HB0.out
    cases e0
    obtain ⟨b2, o2, u, rfl, hb2, q0, q1, q2, _⟩ := hgn.at (Below.refl _ _) hfl
    have HJ : Hid (l[j]? = some l[j]) := List.getElem?_eq_getElem hfl
    have HH : Hid (hasB l j = true) := by show _ = _; unfold hasB; simp; omega
    clear hgn
    generalize l[j] = y at *
    obtain ⟨ys, yp, yk⟩ := y
    simp only at *
    by_cases hpl : pl < yp
    · have d2 : decide (pl < yp) = true := decide_eq_true hpl
      go_wp2_with fail
      go_meet
      exact ⟨true, rfl, fun h => (by cases h), fun _ hp => by have := hp.2.2.1 _ (by simpa using HJ.out); simp only at this; omega, rfl⟩
    have d2 : decide (pl < yp) = false := decide_eq_false hpl
    have HPU : Hid (pushB l j st pl → numB st = true ∧ numB pl = true) := fun h => h.2.2.2
    generalize numB st = N1 at *
    generalize numB pl = N2 at *
    go_wp2_with fail
    refine HN1.mono ?_
    rintro e w1 ⟨rfl, rfl⟩
    clear HN1
    cases N1
    · go_wp2_with fail
      go_meet
      exact ⟨true, rfl, fun h => (by cases h), fun _ hp => (by have := (HPU.out hp).1; cases this), rfl⟩
    go_wp2_with fail
    refine HN2.mono ?_
    rintro e w2 ⟨rfl, rfl⟩
    clear HN2
    cases N2
    · go_wp2_with fail
      go_meet
      exact ⟨true, rfl, fun h => (by cases h), fun _ hp => (by have := (HPU.out hp).2; cases this), rfl⟩
    go_wp2_with fail
    go_meet
    refine ⟨false, rfl, fun _ => ⟨HH.out, fun y hy => ?_, by simp, by simp⟩, fun h => (by cases h), rfl⟩
    rw [Int.toNat_natCast, HJ.out] at hy; cases hy
    simp only; omega
  case rest =>
  obtain ⟨G, rfl, HG1, HG2, rfl⟩ := hcut
  clear HN1 HN2
  have fr : ∀ W, Below wc.heap.size wc W → W.heap[w.heap.size]? = some (Obj.cells #[.slice la l.length lc] 24) ∧ W.heap[w.heap.size + 1]? = some (Obj.cells #[.slice none 0 0] 24) := fun W h => ⟨(h.block _ (blk_lt HK0.out.1)).trans HK0.out.1, (h.block _ (blk_lt HK0.out.2)).trans HK0.out.2⟩
  have HFR : Hid (∀ W, Below wc.heap.size wc W → W.heap[w.heap.size]? = some (Obj.cells #[.slice la l.length lc] 24) ∧ W.heap[w.heap.size + 1]? = some (Obj.cells #[.slice none 0 0] 24)) := fr
  have HBC : Hid (∀ W, Below wc.heap.size wc W → Below w.heap.size w W) := fun W h => below_then HB0.out h HB0.out.size
  clear fr
  -- nothing is pushed: as it is
  have HNO : Hid (∀ W, Below wc.heap.size wc W → W.cell? ⟨w.heap.size, 0, none⟩ = some (.slice la l.length lc) ∧ W.cell? ⟨w.heap.size + 1, 0, none⟩ = some (.slice none 0 0) ∧ W.frozen? ⟨w.heap.size + 1, 0, none⟩ = false ∧ (W.setCell ⟨w.heap.size + 1, 0, none⟩ (.slice la l.length lc)).heap[w.heap.size + 1]? = some (Obj.cells #[.slice la l.length lc] 24) ∧ SlN l (.slice la l.length lc) (W.setCell ⟨w.heap.size + 1, 0, none⟩ (.slice la l.length lc)) ∧ Below w.heap.size w (W.setCell ⟨w.heap.size + 1, 0, none⟩ (.slice la l.length lc))) := fun W h => by
    obtain ⟨z0, z1⟩ := HFR.out W h
    have hb : Below w.heap.size w (W.setCell ⟨w.heap.size + 1, 0, none⟩ (.slice la l.length lc)) := (HBC.out W h).setCell (by simp) _
    refine ⟨by rw [Lib.cell_of_heap z0]; rfl, by rw [Lib.cell_of_heap z1]; rfl, Lib.frozen_of_heap z1 _, ?_, HL.out _ hb, hb⟩
    have := blk_set (o := 0) z1 (.slice la l.length lc)
    simpa using this
  cases G with
  | true =>
    have HNP := HG2.out rfl
    obtain ⟨_, r0, r1, z, HS, HBE⟩ := HNO.out wc (Below.refl _ _)
    clear HG1 HG2 HL HNO HFR HBC HK0
    go_wp2_with fail
    refine bodyPost_ret (results_cell_tt rfl _ _ _ rfl rfl rfl (run_loadVar_row _ _ _ _ _ _ _ z Try.underlying24 rfl (by kernel_rfl))) rfl ?_
    exact ⟨l, la, lc, _, _, rfl, HS, ⟨fun h => (HNP h).elim, fun _ => ⟨rfl, rfl, rfl⟩⟩, HBE⟩
  | false =>
  obtain ⟨hhas, hple, hst, hnp⟩ := HG1.out rfl
  clear HG1 HG2
  have hf2 : 0 ≤ f ∧ f < l.length := by unfold hasB at hhas; simpa using hhas
  obtain ⟨j, rfl⟩ : ∃ j : Nat, f = j := ⟨f.toNat, by omega⟩
  have hfl : j < l.length := by omega
  have HC : Hid (hasB l j = true ∧ (∀ y, l[(j : Int).toNat]? = some y → y.pl ≤ pl) ∧ numB st = true ∧ numB pl = true) := ⟨hhas, hple, hst, hnp⟩
  clear hhas hple hst hnp hf2
  obtain ⟨_, _, e0, hgn, _⟩ := HL.out _ HB0.out
  cases e0
  obtain ⟨b2, o2, u, rfl, hb2, q0, q1, q2, hsu, _⟩ := hgn.at (Below.refl _ _) hfl
  have HJ : Hid (l[j]? = some l[j]) := List.getElem?_eq_getElem hfl
  clear hgn
  generalize l[j] = y at *
  obtain ⟨ys, yp, yk⟩ := y
  simp only at *
  obtain ⟨ya, yc, rfl⟩ : ∃ xa xc, u = .slice xa yk.length xc := hsu.imp fun _ h => h.imp fun _ h => h.1
  have bn : Below wc.heap.size wc (wc.alloc (Obj.cells #[.int .i64 ys, .int .i64 yp, .slice ya yk.length yc] 35)) := (Below.refl _ _).alloc (Nat.le_refl _) _
  have kn : (wc.alloc (Obj.cells #[.int .i64 ys, .int .i64 yp, .slice ya yk.length yc] 35)).heap[wc.heap.size]? = some (Obj.cells #[.int .i64 ys, .int .i64 yp, .slice ya yk.length yc] 35) := heap_alloc_new _ _
  have HBN : Hid (Below wc.heap.size wc (wc.alloc (Obj.cells #[.int .i64 ys, .int .i64 yp, .slice ya yk.length yc] 35))) := bn
  have cg : (wc.alloc (Obj.cells #[.int .i64 ys, .int .i64 yp, .slice ya yk.length yc] 35)).cell? ⟨w.heap.size, 0, none⟩ = some (.slice (some ⟨b2, o2, none⟩) l.length lc) := cell_new c0
  have HCF := gfind_any l (.slice (some ⟨b2, o2, none⟩) l.length lc) st pl (wc.alloc (Obj.cells #[.int .i64 ys, .int .i64 yp, .slice ya yk.length yc] 35)) (HL.out _ (HBC.out _ bn))
  clear bn hsu
  go_wp2_with fail
  obtain ⟨bb, hbb⟩ : ∃ bb, bb = wc.heap.size := ⟨_, rfl⟩
  rw [← hbb] at kn ⊢
  refine HCF.mono ?_
  generalize wc.alloc (Obj.cells #[.int .i64 ys, .int .i64 yp, .slice ya yk.length yc] 35) = wn at *
  rintro e w1 ⟨rfl, b1⟩
  clear HCF cg q0 q1 q2 c0
  have HB1 : Hid (Below wc.heap.size wc w1) := below_then HBN.out b1 HBN.out.size
  have HKB : Hid (w1.heap[bb]? = some (Obj.cells #[.int .i64 ys, .int .i64 yp, .slice ya yk.length yc] 35)) := (b1.block _ (blk_lt kn)).trans kn
  have HBB : Hid (w.heap.size + 2 ≤ bb) := by rw [hbb, HZ0.out]; exact Nat.le_refl _
  have HUP : Hid (UpG l) := HFT.out.up
  have HFV : Hid ((thereB l (pl, st) = true → 0 ≤ findN st pl l 0) ∧ (thereB l (pl, st) = false → findN st pl l 0 = -1)) := by
    refine ⟨fun h => ?_, fun h => find_not (fun h' => by rw [(there_spot HUP.out).2 h'] at h; cases h)⟩
    obtain ⟨y, hy, e⟩ := there_at h
    rw [find_spot HUP.out hy e]; omega
  generalize findN st pl l 0 = fv at *
  obtain ⟨FR, HFE, hfr⟩ : ∃ FR : Bool, Hid (thereB l (pl, st) = !FR) ∧ decide (fv < 0) = FR := by
    refine ⟨_, ?_, rfl⟩
    show _ = _
    cases ht : thereB l (pl, st) with
    | true => have := HFV.out.1 ht; rw [decide_eq_false (by omega)]; rfl
    | false => have := HFV.out.2 ht; rw [decide_eq_true (by omega)]; rfl
  have HNB : Hid (thereB l (pl, st) = false ∧ 4096 ≤ l.length → ¬ pushB l j st pl) := fun h hp => hp.1 h
  have HYB : Hid (¬ (thereB l (pl, st) = false ∧ 4096 ≤ l.length) → pushB l j st pl) := fun h => ⟨h, HC.out⟩
  clear hbb kn HBN b1 HFV
  go_upto_region 5 with fail
  clear hfr
  have c1 : w1.cell? ⟨w.heap.size, 0, none⟩ = some (.slice (some ⟨b2, o2, none⟩) l.length lc) := (HNO.out w1 HB1.out).1
  obtain ⟨FL, hfl2⟩ : ∃ FL : Bool, decide (4096 ≤ l.length) = FL := ⟨_, rfl⟩
  have hfl3 : decide ((l.length : Int) ≥ 4096) = FL := by
    rw [← hfl2]
    by_cases h : 4096 ≤ l.length
    · rw [decide_eq_true h, decide_eq_true (by omega)]
    · rw [decide_eq_false h, decide_eq_false (by omega)]
  have HFL : Hid (FL = true ↔ 4096 ≤ l.length) := by show _ ↔ _; rw [← hfl2]; simp
  go_cut [63] from 57 to 63 (fun t63 wx => t63 = .bool (FR && FL) ∧ wx = w1)
  case first =>
    cases FR
    · go_wp2_with fail
      go_meet
      exact ⟨by simp, rfl⟩
    · go_wp2_with fail
      go_meet
      exact ⟨by simp, rfl⟩
  case rest =>
  obtain ⟨rfl, rfl⟩ := hcut
  clear hfl2 hfl3
  by_cases hfull : (FR && FL) = true
  case pos =>
    have hf9 : FR = true ∧ FL = true := by simpa using hfull
    have HNP : ¬ pushB l j st pl := HNB.out ⟨by rw [HFE.out, hf9.1]; rfl, HFL.out.1 hf9.2⟩
    rw [hfull]
    obtain ⟨_, r0, r1, z, HS, HBE⟩ := HNO.out wc HB1.out
    clear HL HNO HFR HBC HK0 hfull hf9 HFE HFL HNB HYB HC
    go_wp2_with fail
    refine bodyPost_ret (results_cell_tt rfl _ _ _ rfl rfl rfl (run_loadVar_row _ _ _ _ _ _ _ z Try.underlying24 rfl (by kernel_rfl))) rfl ?_
    exact ⟨l, _, lc, _, _, rfl, HS, ⟨fun h => (HNP h).elim, fun _ => ⟨rfl, rfl, rfl⟩⟩, HBE⟩
  have hfull' : (FR && FL) = false := by simpa using hfull
  rw [hfull']
  have HPB : Hid (pushB l j st pl) := HYB.out (fun h => by
    have h1 := HFE.out
    rw [h.1] at h1
    have h2 : FR = true := by revert h1; cases FR <;> intro h1 <;> first | rfl | cases h1
    have h3 := HFL.out.2 h.2
    rw [h2, h3] at hfull'; cases hfull')
  have HLT : Hid (FR = true → l.length < 4096) := fun h => by
    have h3 : ¬ FL = true := fun h' => by rw [h, h'] at hfull'; cases hfull'
    exact Nat.lt_of_not_le (fun h' => h3 (HFL.out.2 h'))
  clear hfull hfull' HFL HNB HYB
  go_upto_if 65 with fail
  obtain ⟨BL, hBL⟩ : ∃ BL, BL = base1 l st pl := ⟨_, rfl⟩
  have HBL : Hid (BL = base1 l st pl) := hBL
  go_cut [] from 66 to 70 (fun wx => ∃ ga gc, Hid (wx.heap[w.heap.size]? = some (Obj.cells #[.slice ga BL.length gc] 24)) ∧ Hid (SlN BL (.slice ga BL.length gc) wx) ∧ Hid (Below w.heap.size w wx) ∧ Hid (wx.heap[bb]? = some (Obj.cells #[.int .i64 ys, .int .i64 yp, .slice ya yk.length yc] 35)) ∧ Hid (wx.heap[w.heap.size + 1]? = some (Obj.cells #[.slice none 0 0] 24)))
  case first =>
    cases FR with
    | false =>
      have hb : BL = l := by rw [hBL]; unfold base1; rw [HFE.out]; rfl
      clear hBL
      subst hb
      obtain ⟨z0, z1⟩ := HFR.out wc HB1.out
      have h9 := HBC.out wc HB1.out
      have h8 := HL.out wc h9
      clear HBL
      go_wp2_with fail
      go_meet
      exact ⟨_, lc, z0, h8, h9, HKB, z1⟩
    | true =>
      have HCW := with_any l (.slice (some ⟨b2, o2, none⟩) l.length lc) st pl (.slice none 0 0) wc (HL.out _ (HBC.out _ HB1.out)) (by omega) (fit_lk HFT.out) (by have := HC.out.2.2.1; unfold numB at this; simp at this; unfold i64B; omega) (by have := HC.out.2.2.2; unfold numB at this; simp at this; unfold i64B; omega) ⟨_, _, _, rfl⟩
      have HLW := HLT.out rfl
      clear hBL
      go_wp2_with fail
      refine HCW.mono ?_
      rintro e w2 ⟨gv, L, rfl, hL, hO, b2'⟩
      clear HCW
      have hBL2 : L.map Prod.fst = BL := by rw [hL, HBL.out]; unfold base1; rw [HFE.out]; rfl
      have hLl : L.length = BL.length := by rw [← hBL2]; simp
      have hll : BL.length ≤ 4097 := by rw [HBL.out, base_len]; split <;> omega
      have hsl := hO.sl (by omega)
      rw [hBL2] at hsl
      have HSL : Hid (SlN BL gv w2) := hsl
      obtain ⟨ga, gc, rfl, _⟩ := hsl
      have BW2 : Below wc.heap.size wc w2 := b2'
      have z0 := (BW2.block _ (blk_lt (HFR.out wc HB1.out).1)).trans (HFR.out wc HB1.out).1
      have z1 := (BW2.block _ (blk_lt (HFR.out wc HB1.out).2)).trans (HFR.out wc HB1.out).2
      have zb := (BW2.block _ (blk_lt HKB.out)).trans HKB.out
      have g0 : w2.cell? ⟨w.heap.size, 0, none⟩ = some (.slice (some ⟨b2, o2, none⟩) l.length lc) := by rw [Lib.cell_of_heap z0]; rfl
      have gf : w2.frozen? ⟨w.heap.size, 0, none⟩ = false := Lib.frozen_of_heap z0 _
      have HE : Hid ((w2.setCell ⟨w.heap.size, 0, none⟩ (.slice ga BL.length gc)).heap[w.heap.size]? = some (Obj.cells #[.slice ga BL.length gc] 24) ∧ SlN BL (.slice ga BL.length gc) (w2.setCell ⟨w.heap.size, 0, none⟩ (.slice ga BL.length gc)) ∧ Below w.heap.size w (w2.setCell ⟨w.heap.size, 0, none⟩ (.slice ga BL.length gc)) ∧ (w2.setCell ⟨w.heap.size, 0, none⟩ (.slice ga BL.length gc)).heap[bb]? = some (Obj.cells #[.int .i64 ys, .int .i64 yp, .slice ya yk.length yc] 35) ∧ (w2.setCell ⟨w.heap.size, 0, none⟩ (.slice ga BL.length gc)).heap[w.heap.size + 1]? = some (Obj.cells #[.slice none 0 0] 24)) := by
        have hbw := HBC.out wc HB1.out
        refine ⟨?_, HSL.out.box z0 ((But.refl _ _).setCell _ _ (.inr rfl)), (hbw.trans (BW2.mono hbw.size)).setCell (Nat.le_refl _) _, set_blk zb (by have := HBB.out; omega), set_blk z1 (by omega)⟩
        simpa using blk_set (o := 0) z0 (.slice ga BL.length gc)
      clear z0 z1 zb BW2 b2' hO hL hBL2 hLl HSL HL HNO HFR HBC HK0 HKB HBL hll
      go_wp2_with fail
      go_meet
      obtain ⟨y1, y2, y3, y4, y5⟩ := HE.out
      exact ⟨ga, gc, y1, y2, y3, y4, y5⟩
  case rest =>
  obtain ⟨ga, gc, HG0, HSB, HBW, HG1, HG2⟩ := hcut
  clear hBL HL HNO HFR HBC HK0 HKB HB1 HB0 HZ0
  have HPS : Hid (∃ y, BL[posG l (pl, st)]? = some y ∧ spG y = (pl, st)) := by
    rw [HBL.out]
    cases ht : thereB l (pl, st) with
    | true =>
      obtain ⟨y, hy, e⟩ := there_at ht
      exact ⟨y, by unfold base1; rw [ht]; exact hy, e⟩
    | false => exact ⟨_, base_new ht, rfl⟩
  have HUB : Hid (UpG BL) := by rw [HBL.out]; exact base_up HUP.out st pl
  have HFB : Hid (fitP BL) := by rw [HBL.out]; exact base_fit HFT.out HC.out.2.2.1 HC.out.2.2.2 (fun h => HLT.out (by have h1 := HFE.out; rw [h] at h1; revert h1; cases FR <;> intro h1 <;> first | rfl | cases h1))
  have HF1 : Hid (findN st pl BL 0 = (posG l (pl, st) : Nat)) := by obtain ⟨y, hy, e⟩ := HPS.out; exact find_spot HUB.out hy e
  obtain ⟨q, HQ⟩ : ∃ q : Nat, Hid ((q : Int) = from1 l j st pl) := ⟨(from1 l j st pl).toNat, by rw [from1_sg]; have := sg_ge (l := l) (st := st) (pl := pl) (j := (j : Int)) (by omega); show _ = _; omega⟩
  have HQB : Hid (∃ y, BL[q]? = some y ∧ spG y = (yp, ys)) := by
    have h1 := base_sg l st pl j (by omega)
    rw [← from1_sg, ← HQ.out, Int.toNat_natCast, Int.toNat_natCast, HJ.out] at h1
    exact ⟨_, by rw [HBL.out]; exact h1, rfl⟩
  have HF2 : Hid (findN ys yp BL 0 = (q : Int)) := by obtain ⟨y, hy, e⟩ := HQB.out; exact find_spot HUB.out hy e
  have HPU : Hid (∀ y, BL[posG l (pl, st)]? = some y → newB l j st pl = !isAt y.links (from1 l j st pl) ∧ pushL l j st pl = BL.set (posG l (pl, st)) ⟨y.st, y.pl, putL (from1 l j st pl) y.links⟩) := fun y hy => by
    rw [HBL.out] at hy ⊢
    exact ⟨by unfold newB; rw [hy]; rfl, by unfold pushL; exact modify_set _ hy rfl⟩
  have HNEW : Hid (FR = true → ∀ y, BL[posG l (pl, st)]? = some y → y.links = []) := fun h y hy => by
    rw [HBL.out, base_new (by rw [HFE.out, h]; rfl)] at hy
    cases hy; rfl
  have HPSL : Hid (posG l (pl, st) < BL.length) := by obtain ⟨y, hy, _⟩ := HPS.out; exact (List.getElem?_eq_some_iff.1 hy).1
  have HPN : Hid (∀ m p b, m = pushL l j st pl → p = (posG l (pl, st) : Int) → b = newB l j st pl → ToldP l j st pl m p b) := fun m p b h1 h2 h3 => ⟨fun _ => ⟨h1, h2, h3⟩, fun h => (h HPB.out).elim⟩
  have hq5 : q < 5000 := by obtain ⟨y, hy, _⟩ := HQB.out; have := (List.getElem?_eq_some_iff.1 hy).1; have := HFB.out.1; omega
  clear HBL HFE HPS HQB HJ HUB HLT HPB HUP
  generalize posG l (pl, st) = PS at *
  generalize from1 l j st pl = FL2 at *
  generalize pushL l j st pl = PL at *
  generalize newB l j st pl = NB at *
  have hps := HPSL.out
  have c0 : wc.cell? ⟨w.heap.size, 0, none⟩ = some (.slice ga BL.length gc) := by rw [Lib.cell_of_heap HG0.out]; rfl
  have n0 : wc.cell? ⟨bb, 0, none⟩ = some (.int .i64 ys) := by rw [Lib.cell_of_heap HG1.out]; rfl
  have n1 : wc.cell? ⟨bb, 1, none⟩ = some (.int .i64 yp) := by rw [Lib.cell_of_heap HG1.out]; rfl
  have HCA := gfind_any BL (.slice ga BL.length gc) st pl wc HSB.out
  rw [HF1.out] at HCA
  go_wp2_with fail
  refine HCA.mono ?_
  rintro e w3 ⟨rfl, b3⟩
  clear HCA c0 n0 n1
  have g3 := (b3.block _ (blk_lt HG0.out)).trans HG0.out
  have h3 := (b3.block _ (blk_lt HG1.out)).trans HG1.out
  have r3 := (b3.block _ (blk_lt HG2.out)).trans HG2.out
  have c0 : w3.cell? ⟨w.heap.size, 0, none⟩ = some (.slice ga BL.length gc) := by rw [Lib.cell_of_heap g3]; rfl
  have n0 : w3.cell? ⟨bb, 0, none⟩ = some (.int .i64 ys) := by rw [Lib.cell_of_heap h3]; rfl
  have n1 : w3.cell? ⟨bb, 1, none⟩ = some (.int .i64 yp) := by rw [Lib.cell_of_heap h3]; rfl
  have HCA := gfind_any BL (.slice ga BL.length gc) ys yp w3 (HSB.out.next b3)
  rw [HF2.out] at HCA
  go_wp2_with fail
  refine HCA.mono ?_
  rintro e w4 ⟨rfl, b4⟩
  clear HCA c0 n0 n1 HF1 HF2
  have B34 : Below wc.heap.size wc w4 := below_then b3 b4 b3.size
  have g4 := (b4.block _ (blk_lt g3)).trans g3
  have r4 := (b4.block _ (blk_lt r3)).trans r3
  have HS4 : Hid (SlN BL (.slice ga BL.length gc) w4) := HSB.out.next B34
  have HB4 : Hid (Below w.heap.size w w4) := HBW.out.trans (B34.mono HBW.out.size)
  clear b3 b4 B34 g3 h3 r3 HSB HBW HG0 HG1 HG2
  have c0 : w4.cell? ⟨w.heap.size, 0, none⟩ = some (.slice ga BL.length gc) := by rw [Lib.cell_of_heap g4]; rfl
  obtain ⟨_, _, e0, hgn, _⟩ := HS4.out
  cases e0
  obtain ⟨b5, o5, lu, rfl, hb5, _, _, q2, hsl, _⟩ := hgn.at (Below.refl _ _) hps
  have HZ : Hid (BL[PS]? = some BL[PS]) := List.getElem?_eq_getElem hps
  have HLKS : Hid (BL[PS].links.length ≤ 4096 ∧ UpL BL[PS].links) := ⟨HFB.out.len (List.getElem_mem hps), HFB.out.linkUp (List.getElem_mem hps)⟩
  clear hgn
  generalize BL[PS] = z at *
  obtain ⟨zs, zp, zk⟩ := z
  simp only at *
  have hzk := HLKS.out.1
  have HSZ : Hid (SlI zk lu w4) := hsl
  obtain ⟨za, zc, rfl⟩ : ∃ xa xc, lu = .slice xa zk.length xc := hsl.imp fun _ h => h.imp fun _ h => h.1
  have HCP := gput_any zk q (.slice za zk.length zc) w4 HSZ.out (by unfold i64B; omega) (by omega)
  go_wp2_with fail
  refine HCP.mono ?_
  rintro e w5 ⟨lv, rfl, hlv, _, b5'⟩
  clear HCP hsl
  have HLV : Hid (SlI (putL q zk) lv w5) := hlv
  obtain ⟨va, vc, rfl⟩ : ∃ xa xc, lv = .slice xa (putL q zk).length xc := hlv.imp fun _ h => h.imp fun _ h => h.1
  have g5 := (b5'.block _ (blk_lt g4)).trans g4
  have r5 := (b5'.block _ (blk_lt r4)).trans r4
  have q5 := (b5'.cell (p := ⟨b5, o5 + PS * 3 + 2, none⟩) hb5).trans q2
  have HS5 : Hid (SlN BL (.slice (some ⟨b5, o5, none⟩) BL.length gc) w5) := HS4.out.next b5'
  have HB5 : Hid (Below w.heap.size w w5) := HB4.out.trans (b5'.mono HB4.out.size)
  clear hlv b5' HS4 HB4 g4 r4 q2 HSZ c0 hb5
  have c0 : w5.cell? ⟨w.heap.size, 0, none⟩ = some (.slice (some ⟨b5, o5, none⟩) BL.length gc) := by rw [Lib.cell_of_heap g5]; rfl
  have hpl := putL_len (x := q) (l := zk)
  obtain ⟨hnb, hPL⟩ := HPU.out _ HZ.out
  simp only at hnb hPL
  rw [← HQ.out] at hnb hPL
  cases hat : isAt zk q with
  | true =>
    rw [hat] at hnb hpl
    have hlq : (putL q zk).length = zk.length := by simpa using hpl
    have dgt : decide (((putL q zk).length : Int) > zk.length) = false := decide_eq_false (by omega)
    have dgn : decide (zk.length < (putL q zk).length) = false := decide_eq_false (by omega)
    have hFR : FR = false := by
      cases FR with
      | false => rfl
      | true =>
        have := HNEW.out rfl _ HZ.out
        simp only at this
        rw [this] at hat
        simp [isAt] at hat
    have hPL2 : PL = BL := by rw [hPL, putL_at hat]; exact set_same HZ.out
    have cr : w5.cell? ⟨w.heap.size + 1, 0, none⟩ = some (.slice none 0 0) := by rw [Lib.cell_of_heap r5]; rfl
    have rf : w5.frozen? ⟨w.heap.size + 1, 0, none⟩ = false := Lib.frozen_of_heap r5 _
    have z9 : (w5.setCell ⟨w.heap.size + 1, 0, none⟩ (.slice (some ⟨b5, o5, none⟩) BL.length gc)).heap[w.heap.size + 1]? = some (Obj.cells #[.slice (some ⟨b5, o5, none⟩) BL.length gc] 24) := by
      simpa using blk_set (o := 0) r5 (.slice (some ⟨b5, o5, none⟩) BL.length gc)
    have HE : Hid (SlN BL (.slice (some ⟨b5, o5, none⟩) BL.length gc) (w5.setCell ⟨w.heap.size + 1, 0, none⟩ (.slice (some ⟨b5, o5, none⟩) BL.length gc)) ∧ ToldP l j st pl BL (PS : Int) false ∧ Below w.heap.size w (w5.setCell ⟨w.heap.size + 1, 0, none⟩ (.slice (some ⟨b5, o5, none⟩) BL.length gc))) := ⟨HS5.out.box r5 ((But.refl _ _).setCell _ _ (.inr rfl)), HPN.out _ _ _ hPL2.symm rfl (by rw [hnb]; rfl), HB5.out.setCell (by simp) _⟩
    subst hFR
    clear hnb hPL hPL2 hpl hlq hat HPU HPN HNEW HLKS HS5 HB5 HLV r5 g5 HQ HZ
    go_wp2_with fail
    refine bodyPost_ret (results_cell_tt rfl _ _ _ rfl rfl rfl (run_loadVar_row _ _ _ _ _ _ _ z9 Try.underlying24 rfl (by kernel_rfl))) rfl ?_
    exact ⟨BL, _, gc, _, _, rfl, HE.out⟩
  | false =>
    rw [hat] at hnb hpl
    have hlq : (putL q zk).length = zk.length + 1 := by simpa using hpl
    have dgt : decide (((putL q zk).length : Int) > zk.length) = true := decide_eq_true (by omega)
    have dgn : decide (zk.length < (putL q zk).length) = true := decide_eq_true (by omega)
    have HB9 : Hid (BL.length ≤ 4096 ∧ BL ≠ []) := ⟨HFB.out.1, fun e => by rw [e] at hps; simp at hps⟩
    have hb9 := HB9.out.1
    have hBw : w.heap.size + 2 ≤ w5.heap.size := by have := blk_lt r5; have := HB5.out.size; omega
    have hlq2 : (putL q zk).length ≤ 1000000 := by omega
    clear hpl hat HPU HNEW HLKS HQ hlq
    go_wp2_with (at_builtin; refine wpList_copyN rfl _ _ rfl w5.heap.size BL (.slice (some ⟨b5, o5, none⟩) BL.length gc) rfl rfl HS5.out HB9.out.2 (by omega) (fun x hx => by have := HFB.out.len hx; omega) (Nat.le_refl _) ?_)
    intro L g c w6 hL hR b6 hg6 hap6
    have g6 := (b6.block _ (blk_lt g5)).trans g5
    have r6 := (b6.block _ (blk_lt r5)).trans r5
    have HR6 : Hid (RowN w5.heap.size L (.slice (some ⟨g, 0, none⟩) BL.length c) w6) := hR
    have hLl : L.length = BL.length := by rw [← hL]; simp
    obtain ⟨⟨x9, u9⟩, hx9⟩ : ∃ p, L[PS]? = some p := ⟨_, List.getElem?_eq_getElem (by omega)⟩
    have hx9e : x9 = ⟨zs, zp, zk⟩ := by
      have h1 : (L.map Prod.fst)[PS]? = some x9 := by rw [List.getElem?_map, hx9]; rfl
      rw [hL, HZ.out] at h1
      exact (Option.some.inj h1).symm
    subst hx9e
    have hgl : g < w6.heap.size := (World.ownsRow.lt hR.nodes g rfl).2
    have b67 : But (fun k => k = w.heap.size) w6 (w6.setCell ⟨w.heap.size, 0, none⟩ (.slice (some ⟨g, 0, none⟩) BL.length c)) := (But.refl _ _).setCell _ _ (.inr rfl)
    have R7 : RowN w5.heap.size L (.slice (some ⟨g, 0, none⟩) BL.length c) (w6.setCell ⟨w.heap.size, 0, none⟩ (.slice (some ⟨g, 0, none⟩) BL.length c)) := hR.keep b67 (fun k hk e => by
        have h1 : g = k := by simpa [Value.ownBlock] using hk
        omega) (fun p hp hne k hk e => (hR.links p hp).notBox hne g6 (by rw [hk, e]))
    have hlvk : putL q zk ≠ [] → (Value.slice va (putL q zk).length vc).ownBlock ≠ some g := fun hne e => by have := HLV.out.inL hne g e; omega
    have L7 : SlI (putL q zk) (.slice va (putL q zk).length vc) (w6.setCell ⟨w.heap.size, 0, none⟩ (.slice (some ⟨g, 0, none⟩) BL.length c)) := (HLV.out.next b6).but2 b67 (fun hne k hk e => (HLV.out.next b6).notBox hne g6 (by rw [hk, e]))
    have R8 := R7.set hx9 L7 hlvk (fun p hp hne => hap6 p.1 p.2 hp hne) (by omega)
    have g7 : (w6.setCell ⟨w.heap.size, 0, none⟩ (.slice (some ⟨g, 0, none⟩) BL.length c)).heap[w.heap.size]? = some (Obj.cells #[.slice (some ⟨g, 0, none⟩) BL.length c] 24) := by simpa using blk_set (o := 0) g6 (.slice (some ⟨g, 0, none⟩) BL.length c)
    have d6 : w6.cell? ⟨w.heap.size, 0, none⟩ = some (.slice (some ⟨b5, o5, none⟩) BL.length gc) := by rw [Lib.cell_of_heap g6]; rfl
    have f6 : w6.frozen? ⟨w.heap.size, 0, none⟩ = false := Lib.frozen_of_heap g6 _
    have d7 : (w6.setCell ⟨w.heap.size, 0, none⟩ (.slice (some ⟨g, 0, none⟩) BL.length c)).cell? ⟨w.heap.size, 0, none⟩ = some (.slice (some ⟨g, 0, none⟩) BL.length c) := by rw [Lib.cell_of_heap g7]; rfl
    obtain ⟨l7, lf7⟩ : (w6.setCell ⟨w.heap.size, 0, none⟩ (.slice (some ⟨g, 0, none⟩) BL.length c)).cell? ⟨g, PS * 3 + 2, none⟩ = some u9 ∧ (w6.setCell ⟨w.heap.size, 0, none⟩ (.slice (some ⟨g, 0, none⟩) BL.length c)).frozen? ⟨g, PS * 3 + 2, none⟩ = false := by
      obtain ⟨g', cap', e', _, _, hc⟩ := own_cells encG_len R7.nodes (by omega)
      simp at e'
      obtain ⟨rfl, _⟩ := e'
      have h9 := R7.nodes
      rw [hLl] at h9
      exact ⟨hc PS 2 _ _ hx9 (by omega) rfl, World.ownsRow.frozenAt h9 _⟩
    have g8 : ((w6.setCell ⟨w.heap.size, 0, none⟩ (.slice (some ⟨g, 0, none⟩) BL.length c)).setCell ⟨g, PS * 3 + 2, none⟩ (.slice va (putL q zk).length vc)).heap[w.heap.size]? = some (Obj.cells #[.slice (some ⟨g, 0, none⟩) BL.length c] 24) := set_blk g7 (by omega)
    have r8 : ((w6.setCell ⟨w.heap.size, 0, none⟩ (.slice (some ⟨g, 0, none⟩) BL.length c)).setCell ⟨g, PS * 3 + 2, none⟩ (.slice va (putL q zk).length vc)).heap[w.heap.size + 1]? = some (Obj.cells #[.slice none 0 0] 24) := set_blk (set_blk r6 (by omega)) (by omega)
    have HB8 : Hid (Below w.heap.size w ((w6.setCell ⟨w.heap.size, 0, none⟩ (.slice (some ⟨g, 0, none⟩) BL.length c)).setCell ⟨g, PS * 3 + 2, none⟩ (.slice va (putL q zk).length vc))) := ((HB5.out.trans (b6.mono HB5.out.size)).setCell (Nat.le_refl _) _).setCell (by have := HB5.out.size; show w.heap.size ≤ g; omega) _
    have HR8 : Hid (RowN w5.heap.size (L.set PS (⟨zs, zp, putL q zk⟩, .slice va (putL q zk).length vc)) (.slice (some ⟨g, 0, none⟩) BL.length c) ((w6.setCell ⟨w.heap.size, 0, none⟩ (.slice (some ⟨g, 0, none⟩) BL.length c)).setCell ⟨g, PS * 3 + 2, none⟩ (.slice va (putL q zk).length vc))) := R8
    obtain ⟨w7, hw7⟩ : ∃ w7, w7 = w6.setCell ⟨w.heap.size, 0, none⟩ (.slice (some ⟨g, 0, none⟩) BL.length c) := ⟨_, rfl⟩
    rw [← hw7] at d7 l7 lf7 g8 r8 HB8 HR8
    have HW7 : Hid (w6.setCell ⟨w.heap.size, 0, none⟩ (.slice (some ⟨g, 0, none⟩) BL.length c) = w7) := hw7.symm
    have HGG : Hid (w.heap.size + 2 ≤ g) := by show _ ≤ _; omega
    have HLL : Hid (L.map Prod.fst = BL) := hL
    clear hw7 R7 R8 L7 g7 b67 hR HR6 hap6 hlvk HS5 HB5 HLV g5 r5 b6 r6 hx9 c0 q5 hL hLl g6
    go_upto_region 15 with fail
    rw [HW7.out]
    clear d6 f6 HW7
    have d8 : (w7.setCell ⟨g, PS * 3 + 2, none⟩ (.slice va (putL q zk).length vc)).cell? ⟨w.heap.size, 0, none⟩ = some (.slice (some ⟨g, 0, none⟩) BL.length c) := by rw [Lib.cell_of_heap g8]; rfl
    have e8 : (w7.setCell ⟨g, PS * 3 + 2, none⟩ (.slice va (putL q zk).length vc)).cell? ⟨w.heap.size + 1, 0, none⟩ = some (.slice none 0 0) := by rw [Lib.cell_of_heap r8]; rfl
    have ef8 : (w7.setCell ⟨g, PS * 3 + 2, none⟩ (.slice va (putL q zk).length vc)).frozen? ⟨w.heap.size + 1, 0, none⟩ = false := Lib.frozen_of_heap r8 _
    have HE : Hid (∀ w9, w9 = (w7.setCell ⟨g, PS * 3 + 2, none⟩ (.slice va (putL q zk).length vc)).setCell ⟨w.heap.size + 1, 0, none⟩ (.slice (some ⟨g, 0, none⟩) BL.length c) → w9.heap[w.heap.size + 1]? = some (Obj.cells #[.slice (some ⟨g, 0, none⟩) BL.length c] 24) ∧ SlN PL (.slice (some ⟨g, 0, none⟩) PL.length c) w9 ∧ PL.length = BL.length ∧ ToldP l j st pl PL (PS : Int) true ∧ Below w.heap.size w w9) := by
      rintro w9 rfl
      have hPLl : PL.length = BL.length := by rw [hPL]; simp
      have b89 : But (fun k => k = w.heap.size + 1) (w7.setCell ⟨g, PS * 3 + 2, none⟩ (.slice va (putL q zk).length vc)) ((w7.setCell ⟨g, PS * 3 + 2, none⟩ (.slice va (putL q zk).length vc)).setCell ⟨w.heap.size + 1, 0, none⟩ (.slice (some ⟨g, 0, none⟩) BL.length c)) := (But.refl _ _).setCell _ _ (.inr rfl)
      have R9 := HR8.out.keep b89 (fun k hk e => by
        have h1 : g = k := by simpa [Value.ownBlock] using hk
        have := HGG.out
        omega) (fun p hp hne k hk e => (HR8.out.links p hp).notBox hne r8 (by rw [hk, e]))
      have hm : (L.set PS ((⟨zs, zp, putL q zk⟩ : Gn), Value.slice va (putL q zk).length vc)).map Prod.fst = PL := by rw [List.map_set, HLL.out, hPL]
      have hs9 := R9.sl (by rw [List.length_set]; have h1 := congrArg List.length HLL.out; rw [List.length_map] at h1; omega)
      rw [hm] at hs9
      refine ⟨by simpa using blk_set (o := 0) r8 (.slice (some ⟨g, 0, none⟩) BL.length c), by rw [hPLl]; exact hs9, hPLl, HPN.out _ _ _ rfl rfl (by rw [hnb]; rfl), HB8.out.setCell (by simp) _⟩
    clear g8 r8 HB8 HR8 HPN hnb hPL HLL HZ
    go_wp2_with fail
    obtain ⟨z9, z1, z2, z3, z4⟩ := HE.out _ rfl
    refine bodyPost_ret (results_cell_tt rfl _ _ _ rfl rfl rfl (run_loadVar_row _ _ _ _ _ _ _ z9 Try.underlying24 rfl (by kernel_rfl))) rfl ?_
    exact ⟨PL, some ⟨g, 0, none⟩, c, _, _, by rw [z2]; rfl, z1, z3, z4⟩
end Go.Proofs.Ytjpbfckdiojghaa
