/- Stacks: the program's Push. -/
import Derived.Test.YtjpbfckdiojghaaPPushM
namespace Go.Proofs.Ytjpbfckdiojghaa
open Go.RowKit

theorem results_cell_tt {fn : Func} {p q r : Tmp} {t : TypeId} (h : fn.results = #[.cell p t, .tmp q, .tmp r]) (tmps : Array Value) (P : Program) (w : World) {a : Addr} {x y z : Value} (ha : tmps[p]?.getD undef = .pointer (some a)) (hb : tmps[q]?.getD undef = y) (hc : tmps[r]?.getD undef = z) (hx : (loadVar t a).run P w = .ok x w) :
    (results fn tmps).run P w = .ok (.tuple #[x, y, z]) w := by
  simp only [results, h]
  simp [Result.andThen, ha, hb, hc, hx, asAddr]

set_option maxRecDepth 100000 in
set_option maxHeartbeats 3200000 in
theorem push_no (l : List Gn) (v : Value) (f st pl : Int) (w : World) (hl : SlN l v w) (hf : fitP l) (hlk : okS l) (hno : ¬ pushB l f st pl) :
    Calls Try.prog 8 #[.agg #[v], .int .i64 f, .int .i64 st, .int .i64 pl] w fun e w' => ∃ v', e = .returned (.tuple #[.agg #[v'], .int .i64 (-1), .bool false]) ∧ SlN l v' w' ∧ Below w.heap.size w w' := by
  have HL : Hid (∀ W, Below w.heap.size w W → SlN l v W) := fun W hb => hl.next hb
  have HLK : Hid (okS l) := hlk
  have hlen := hf.1
  obtain ⟨la, lc, rfl, _⟩ := hl
  have B0 : Below w.heap.size w ((w.alloc (Obj.cells #[.slice la l.length lc] 24)).alloc (Obj.cells #[.slice none 0 0] 24)) := ((Below.refl _ _).alloc (Nat.le_refl _) _).alloc (by simp) _
  have HC := seek_any l (.slice la l.length lc) (pl, st) ((w.alloc (Obj.cells #[.slice la l.length lc] 24)).alloc (Obj.cells #[.slice none 0 0] 24)) (HL.out _ B0) hf.up (by omega)
  have k0 : ((w.alloc (Obj.cells #[.slice la l.length lc] 24)).alloc (Obj.cells #[.slice none 0 0] 24)).heap[w.heap.size]? = some (Obj.cells #[.slice la l.length lc] 24) := blk_new (heap_alloc_new _ _)
  have k1 : ((w.alloc (Obj.cells #[.slice la l.length lc] 24)).alloc (Obj.cells #[.slice none 0 0] 24)).heap[w.heap.size + 1]? = some (Obj.cells #[.slice none 0 0] 24) := by simpa using heap_alloc_new (w.alloc (Obj.cells #[.slice la l.length lc] 24)) (Obj.cells #[.slice none 0 0] 24)
  unfold spV at HC
  simp only at HC
  have HN : Hid (¬ pushB l f st pl) := hno
  have HTB : Hid (pushB l f st pl ↔ ¬ (thereB l (pl, st) = false ∧ 4096 ≤ l.length) ∧ hasB l f = true ∧ (∀ y, l[f.toNat]? = some y → y.pl ≤ pl) ∧ numB st = true ∧ numB pl = true) := Iff.rfl
  clear hno hlk hf
  generalize thereB l (pl, st) = TB at *
  generalize posG l (pl, st) = PS at *
  go_enter Try.func8, Try.ntmps8
  go_wp2_with fail
  generalize ((w.alloc (Obj.cells #[.slice la l.length lc] 24)).alloc (Obj.cells #[.slice none 0 0] 24)) = w0 at *
  refine HC.mono ?_
  rintro e w1 ⟨rfl, hb1⟩
  have HB1 : Hid (Below w0.heap.size w0 w1) := hb1
  have HT : Hid (∀ W, Below w0.heap.size w0 W → W.heap[w.heap.size]? = some (Obj.cells #[.slice la l.length lc] 24) ∧ W.heap[w.heap.size + 1]? = some (Obj.cells #[.slice none 0 0] 24) ∧ SlN l (.slice la l.length lc) W ∧ Below w.heap.size w W) := fun W hW => ⟨(hW.block _ (blk_lt k0)).trans k0, (hW.block _ (blk_lt k1)).trans k1, HL.out W (B0.trans (hW.mono B0.size)), B0.trans (hW.mono B0.size)⟩
  clear HC hb1 k0 k1 B0 HL
  obtain ⟨z0, z1, hsl, QB⟩ := HT.out w1 HB1.out
  have c0 : w1.cell? ⟨w.heap.size, 0, none⟩ = some (.slice la l.length lc) := by rw [Lib.cell_of_heap z0]; rfl
  by_cases hfull : TB = false ∧ 4096 ≤ l.length
  · obtain ⟨rfl, hfl⟩ := hfull
    have hfl2 : decide ((l.length : Int) ≥ 4096) = true := decide_eq_true (by omega)
    have hfl3 : (l.length : Int) ≥ 4096 := by omega
    have HBW : Hid (Below w0.heap.size w0 w1) := HB1
    go_wp2_with fail
    have HC2 := copied_any l (.slice la l.length lc) w1 (HT.out w1 HBW.out).2.2.1 (by omega) HLK.out
    refine HC2.mono ?_
    rintro e w9 ⟨v', L, rfl, hL, hO, hb9⟩
    have HB9 : Hid (Below w0.heap.size w0 w9) := HBW.out.trans (hb9.mono HBW.out.size)
    obtain ⟨y0, y1, _, QB9⟩ := HT.out w9 HB9.out
    have x1 : w9.cell? ⟨w.heap.size + 1, 0, none⟩ = some (.slice none 0 0) := by rw [Lib.cell_of_heap y1]; rfl
    have xf : w9.frozen? ⟨w.heap.size + 1, 0, none⟩ = false := Lib.frozen_of_heap y1 _
    obtain ⟨va, vc, rfl⟩ := slice_of_ownK hO.nodes
    have z : (w9.setCell ⟨w.heap.size + 1, 0, none⟩ (.slice va L.length vc)).heap[w.heap.size + 1]? = some (Obj.cells #[.slice va L.length vc] 24) := by
      have := blk_set (o := 0) y1 (.slice va L.length vc)
      simpa using this
    have HF : Hid (SlN l (.slice va L.length vc) (w9.setCell ⟨w.heap.size + 1, 0, none⟩ (.slice va L.length vc)) ∧ Below w.heap.size w (w9.setCell ⟨w.heap.size + 1, 0, none⟩ (.slice va L.length vc))) := by
      have hlen2 : L.length = l.length := by rw [← hL]; simp
      refine ⟨?_, QB9.setCell (by simp) _⟩
      have h1 := hO.keep (D := fun k => k = w.heap.size + 1) (W' := w9.setCell ⟨w.heap.size + 1, 0, none⟩ (.slice va L.length vc)) ((But.refl _ _).setCell _ _ (.inr rfl)) (fun k hk => by have := blk_lt (HT.out w1 HBW.out).2.1; omega)
      have h2 := h1.sl (by omega)
      rw [hL] at h2
      exact h2
    clear hO hb9 HT HB9 HBW HC2 hL HTB HN HLK HB1
    go_wp2_with fail
    refine bodyPost_ret (results_cell_tt rfl _ _ _ rfl rfl rfl (run_loadVar_row _ _ _ _ _ _ _ z Try.underlying24 rfl (by kernel_rfl))) rfl ?_
    exact ⟨_, rfl, HF.out⟩
  have HNF : Hid (¬ (TB = false ∧ 4096 ≤ l.length)) := hfull
  obtain ⟨FB, HFB⟩ : ∃ FB : Bool, Hid (FB = false) := ⟨false, rfl⟩
  have hfb : (!TB && decide ((l.length : Int) ≥ 4096)) = false := by
    cases TB with
    | true => rfl
    | false =>
      have : ¬ 4096 ≤ l.length := fun h => hfull ⟨rfl, h⟩
      simp; omega
  have HBA : Hid (Below w0.heap.size w0 (w1.alloc (Obj.cells #[.slice la l.length lc] 24))) := HB1.out.alloc HB1.out.size _
  have c1 : (w1.alloc (Obj.cells #[.slice la l.length lc] 24)).cell? ⟨w.heap.size, 0, none⟩ = some (.slice la l.length lc) := cell_new c0
  have HCH := has_any la l lc f w1
  cases hhas : hasB l f with
  | false =>
    rw [hhas] at HCH
    cases TB with
    | true =>
      go_wp2_with fail
      refine HCH.mono ?_
      rintro e w2 ⟨rfl, rfl⟩
      have HBW : Hid (Below w0.heap.size w0 (w1.alloc (Obj.cells #[.slice la l.length lc] 24))) := HBA
      clear HCH
      go_wp2_with fail
      have HC2 := copied_any l (.slice la l.length lc) (w1.alloc (Obj.cells #[.slice la l.length lc] 24)) (HT.out (w1.alloc (Obj.cells #[.slice la l.length lc] 24)) HBW.out).2.2.1 (by omega) HLK.out
      refine HC2.mono ?_
      rintro e w9 ⟨v', L, rfl, hL, hO, hb9⟩
      have HB9 : Hid (Below w0.heap.size w0 w9) := HBW.out.trans (hb9.mono HBW.out.size)
      obtain ⟨y0, y1, _, QB9⟩ := HT.out w9 HB9.out
      have x1 : w9.cell? ⟨w.heap.size + 1, 0, none⟩ = some (.slice none 0 0) := by rw [Lib.cell_of_heap y1]; rfl
      have xf : w9.frozen? ⟨w.heap.size + 1, 0, none⟩ = false := Lib.frozen_of_heap y1 _
      obtain ⟨va, vc, rfl⟩ := slice_of_ownK hO.nodes
      have z : (w9.setCell ⟨w.heap.size + 1, 0, none⟩ (.slice va L.length vc)).heap[w.heap.size + 1]? = some (Obj.cells #[.slice va L.length vc] 24) := by
        have := blk_set (o := 0) y1 (.slice va L.length vc)
        simpa using this
      have HF : Hid (SlN l (.slice va L.length vc) (w9.setCell ⟨w.heap.size + 1, 0, none⟩ (.slice va L.length vc)) ∧ Below w.heap.size w (w9.setCell ⟨w.heap.size + 1, 0, none⟩ (.slice va L.length vc))) := by
        have hlen2 : L.length = l.length := by rw [← hL]; simp
        refine ⟨?_, QB9.setCell (by simp) _⟩
        have h1 := hO.keep (D := fun k => k = w.heap.size + 1) (W' := w9.setCell ⟨w.heap.size + 1, 0, none⟩ (.slice va L.length vc)) ((But.refl _ _).setCell _ _ (.inr rfl)) (fun k hk => by have := blk_lt (HT.out (w1.alloc (Obj.cells #[.slice la l.length lc] 24)) HBW.out).2.1; omega)
        have h2 := h1.sl (by omega)
        rw [hL] at h2
        exact h2
      clear hO hb9 HT HB9 HBW HC2 hL HTB HN HLK HB1
      go_wp2_with fail
      refine bodyPost_ret (results_cell_tt rfl _ _ _ rfl rfl rfl (run_loadVar_row _ _ _ _ _ _ _ z Try.underlying24 rfl (by kernel_rfl))) rfl ?_
      exact ⟨_, rfl, HF.out⟩
    | false =>
      have hfl3 : ¬ (l.length : Int) ≥ 4096 := by have : ¬ 4096 ≤ l.length := fun h => hfull ⟨rfl, h⟩; omega
      go_wp2_with fail
      refine HCH.mono ?_
      rintro e w2 ⟨rfl, rfl⟩
      have HBW : Hid (Below w0.heap.size w0 (w1.alloc (Obj.cells #[.slice la l.length lc] 24))) := HBA
      clear HCH
      go_wp2_with fail
      have HC2 := copied_any l (.slice la l.length lc) (w1.alloc (Obj.cells #[.slice la l.length lc] 24)) (HT.out (w1.alloc (Obj.cells #[.slice la l.length lc] 24)) HBW.out).2.2.1 (by omega) HLK.out
      refine HC2.mono ?_
      rintro e w9 ⟨v', L, rfl, hL, hO, hb9⟩
      have HB9 : Hid (Below w0.heap.size w0 w9) := HBW.out.trans (hb9.mono HBW.out.size)
      obtain ⟨y0, y1, _, QB9⟩ := HT.out w9 HB9.out
      have x1 : w9.cell? ⟨w.heap.size + 1, 0, none⟩ = some (.slice none 0 0) := by rw [Lib.cell_of_heap y1]; rfl
      have xf : w9.frozen? ⟨w.heap.size + 1, 0, none⟩ = false := Lib.frozen_of_heap y1 _
      obtain ⟨va, vc, rfl⟩ := slice_of_ownK hO.nodes
      have z : (w9.setCell ⟨w.heap.size + 1, 0, none⟩ (.slice va L.length vc)).heap[w.heap.size + 1]? = some (Obj.cells #[.slice va L.length vc] 24) := by
        have := blk_set (o := 0) y1 (.slice va L.length vc)
        simpa using this
      have HF : Hid (SlN l (.slice va L.length vc) (w9.setCell ⟨w.heap.size + 1, 0, none⟩ (.slice va L.length vc)) ∧ Below w.heap.size w (w9.setCell ⟨w.heap.size + 1, 0, none⟩ (.slice va L.length vc))) := by
        have hlen2 : L.length = l.length := by rw [← hL]; simp
        refine ⟨?_, QB9.setCell (by simp) _⟩
        have h1 := hO.keep (D := fun k => k = w.heap.size + 1) (W' := w9.setCell ⟨w.heap.size + 1, 0, none⟩ (.slice va L.length vc)) ((But.refl _ _).setCell _ _ (.inr rfl)) (fun k hk => by have := blk_lt (HT.out (w1.alloc (Obj.cells #[.slice la l.length lc] 24)) HBW.out).2.1; omega)
        have h2 := h1.sl (by omega)
        rw [hL] at h2
        exact h2
      clear hO hb9 HT HB9 HBW HC2 hL HTB HN HLK HB1
      go_wp2_with fail
      refine bodyPost_ret (results_cell_tt rfl _ _ _ rfl rfl rfl (run_loadVar_row _ _ _ _ _ _ _ z Try.underlying24 rfl (by kernel_rfl))) rfl ?_
      exact ⟨_, rfl, HF.out⟩
  | true =>
    rw [hhas] at HCH
    have hh : 0 ≤ f ∧ f < l.length := by unfold hasB at hhas; simpa using hhas
    obtain ⟨j, rfl⟩ : ∃ j : Nat, f = j := ⟨f.toNat, by omega⟩
    have hj : j < l.length := by omega
    obtain ⟨_, _, e0, hal, _⟩ := id hsl
    cases e0
    obtain ⟨b2, o2, u2, rfl, hb2, q0, q1, q2, _⟩ := hal.at ((Below.refl _ w1).alloc (Nat.le_refl _) (Obj.cells #[.slice la l.length lc] 24)) hj
    have HPL : Hid (∀ y, l[(j : Int).toNat]? = some y → y = l[j]) := fun y hy => by
      rw [Int.toNat_natCast, List.getElem?_eq_getElem hj] at hy
      exact (Option.some.inj hy).symm
    generalize hx : l[j] = x at *
    clear hx hal hsl q0 q2
    by_cases hpl : pl < x.pl
    · have hpl2 : decide (pl < x.pl) = true := decide_eq_true hpl
      cases TB with
      | true =>
        go_wp2_with fail
        refine HCH.mono ?_
        rintro e w2 ⟨rfl, rfl⟩
        have HBW : Hid (Below w0.heap.size w0 (w1.alloc (Obj.cells #[.slice (some ⟨b2, o2, none⟩) l.length lc] 24))) := HBA
        clear HCH
        go_wp2_with fail
        have HC2 := copied_any l (.slice (some ⟨b2, o2, none⟩) l.length lc) (w1.alloc (Obj.cells #[.slice (some ⟨b2, o2, none⟩) l.length lc] 24)) (HT.out (w1.alloc (Obj.cells #[.slice (some ⟨b2, o2, none⟩) l.length lc] 24)) HBW.out).2.2.1 (by omega) HLK.out
        refine HC2.mono ?_
        rintro e w9 ⟨v', L, rfl, hL, hO, hb9⟩
        have HB9 : Hid (Below w0.heap.size w0 w9) := HBW.out.trans (hb9.mono HBW.out.size)
        obtain ⟨y0, y1, _, QB9⟩ := HT.out w9 HB9.out
        have x1 : w9.cell? ⟨w.heap.size + 1, 0, none⟩ = some (.slice none 0 0) := by rw [Lib.cell_of_heap y1]; rfl
        have xf : w9.frozen? ⟨w.heap.size + 1, 0, none⟩ = false := Lib.frozen_of_heap y1 _
        obtain ⟨va, vc, rfl⟩ := slice_of_ownK hO.nodes
        have z : (w9.setCell ⟨w.heap.size + 1, 0, none⟩ (.slice va L.length vc)).heap[w.heap.size + 1]? = some (Obj.cells #[.slice va L.length vc] 24) := by
          have := blk_set (o := 0) y1 (.slice va L.length vc)
          simpa using this
        have HF : Hid (SlN l (.slice va L.length vc) (w9.setCell ⟨w.heap.size + 1, 0, none⟩ (.slice va L.length vc)) ∧ Below w.heap.size w (w9.setCell ⟨w.heap.size + 1, 0, none⟩ (.slice va L.length vc))) := by
          have hlen2 : L.length = l.length := by rw [← hL]; simp
          refine ⟨?_, QB9.setCell (by simp) _⟩
          have h1 := hO.keep (D := fun k => k = w.heap.size + 1) (W' := w9.setCell ⟨w.heap.size + 1, 0, none⟩ (.slice va L.length vc)) ((But.refl _ _).setCell _ _ (.inr rfl)) (fun k hk => by have := blk_lt (HT.out (w1.alloc (Obj.cells #[.slice (some ⟨b2, o2, none⟩) l.length lc] 24)) HBW.out).2.1; omega)
          have h2 := h1.sl (by omega)
          rw [hL] at h2
          exact h2
        clear hO hb9 HT HB9 HBW HC2 hL HTB HN HLK HB1
        go_wp2_with fail
        refine bodyPost_ret (results_cell_tt rfl _ _ _ rfl rfl rfl (run_loadVar_row _ _ _ _ _ _ _ z Try.underlying24 rfl (by kernel_rfl))) rfl ?_
        exact ⟨_, rfl, HF.out⟩
      | false =>
        have hfl3 : ¬ (l.length : Int) ≥ 4096 := by have : ¬ 4096 ≤ l.length := fun h => hfull ⟨rfl, h⟩; omega
        go_wp2_with fail
        refine HCH.mono ?_
        rintro e w2 ⟨rfl, rfl⟩
        have HBW : Hid (Below w0.heap.size w0 (w1.alloc (Obj.cells #[.slice (some ⟨b2, o2, none⟩) l.length lc] 24))) := HBA
        clear HCH
        go_wp2_with fail
        have HC2 := copied_any l (.slice (some ⟨b2, o2, none⟩) l.length lc) (w1.alloc (Obj.cells #[.slice (some ⟨b2, o2, none⟩) l.length lc] 24)) (HT.out (w1.alloc (Obj.cells #[.slice (some ⟨b2, o2, none⟩) l.length lc] 24)) HBW.out).2.2.1 (by omega) HLK.out
        refine HC2.mono ?_
        rintro e w9 ⟨v', L, rfl, hL, hO, hb9⟩
        have HB9 : Hid (Below w0.heap.size w0 w9) := HBW.out.trans (hb9.mono HBW.out.size)
        obtain ⟨y0, y1, _, QB9⟩ := HT.out w9 HB9.out
        have x1 : w9.cell? ⟨w.heap.size + 1, 0, none⟩ = some (.slice none 0 0) := by rw [Lib.cell_of_heap y1]; rfl
        have xf : w9.frozen? ⟨w.heap.size + 1, 0, none⟩ = false := Lib.frozen_of_heap y1 _
        obtain ⟨va, vc, rfl⟩ := slice_of_ownK hO.nodes
        have z : (w9.setCell ⟨w.heap.size + 1, 0, none⟩ (.slice va L.length vc)).heap[w.heap.size + 1]? = some (Obj.cells #[.slice va L.length vc] 24) := by
          have := blk_set (o := 0) y1 (.slice va L.length vc)
          simpa using this
        have HF : Hid (SlN l (.slice va L.length vc) (w9.setCell ⟨w.heap.size + 1, 0, none⟩ (.slice va L.length vc)) ∧ Below w.heap.size w (w9.setCell ⟨w.heap.size + 1, 0, none⟩ (.slice va L.length vc))) := by
          have hlen2 : L.length = l.length := by rw [← hL]; simp
          refine ⟨?_, QB9.setCell (by simp) _⟩
          have h1 := hO.keep (D := fun k => k = w.heap.size + 1) (W' := w9.setCell ⟨w.heap.size + 1, 0, none⟩ (.slice va L.length vc)) ((But.refl _ _).setCell _ _ (.inr rfl)) (fun k hk => by have := blk_lt (HT.out (w1.alloc (Obj.cells #[.slice (some ⟨b2, o2, none⟩) l.length lc] 24)) HBW.out).2.1; omega)
          have h2 := h1.sl (by omega)
          rw [hL] at h2
          exact h2
        clear hO hb9 HT HB9 HBW HC2 hL HTB HN HLK HB1
        go_wp2_with fail
        refine bodyPost_ret (results_cell_tt rfl _ _ _ rfl rfl rfl (run_loadVar_row _ _ _ _ _ _ _ z Try.underlying24 rfl (by kernel_rfl))) rfl ?_
        exact ⟨_, rfl, HF.out⟩
    · have hpl2 : decide (pl < x.pl) = false := decide_eq_false hpl
      have HC1 := canBe_any st (w1.alloc (Obj.cells #[.slice (some ⟨b2, o2, none⟩) l.length lc] 24))
      have HC3 := canBe_any pl (w1.alloc (Obj.cells #[.slice (some ⟨b2, o2, none⟩) l.length lc] 24))
      cases hst : numB st with
      | false =>
        rw [hst] at HC1
        cases TB with
        | true =>
          go_wp2_with fail
          refine HCH.mono ?_
          rintro e w2 ⟨rfl, rfl⟩
          have HBW : Hid (Below w0.heap.size w0 (w1.alloc (Obj.cells #[.slice (some ⟨b2, o2, none⟩) l.length lc] 24))) := HBA
          clear HCH
          go_wp2_with fail
          refine HC1.mono ?_
          rintro e w3 ⟨rfl, rfl⟩
          go_wp2_with fail
          have HC2 := copied_any l (.slice (some ⟨b2, o2, none⟩) l.length lc) (w1.alloc (Obj.cells #[.slice (some ⟨b2, o2, none⟩) l.length lc] 24)) (HT.out (w1.alloc (Obj.cells #[.slice (some ⟨b2, o2, none⟩) l.length lc] 24)) HBW.out).2.2.1 (by omega) HLK.out
          refine HC2.mono ?_
          rintro e w9 ⟨v', L, rfl, hL, hO, hb9⟩
          have HB9 : Hid (Below w0.heap.size w0 w9) := HBW.out.trans (hb9.mono HBW.out.size)
          obtain ⟨y0, y1, _, QB9⟩ := HT.out w9 HB9.out
          have x1 : w9.cell? ⟨w.heap.size + 1, 0, none⟩ = some (.slice none 0 0) := by rw [Lib.cell_of_heap y1]; rfl
          have xf : w9.frozen? ⟨w.heap.size + 1, 0, none⟩ = false := Lib.frozen_of_heap y1 _
          obtain ⟨va, vc, rfl⟩ := slice_of_ownK hO.nodes
          have z : (w9.setCell ⟨w.heap.size + 1, 0, none⟩ (.slice va L.length vc)).heap[w.heap.size + 1]? = some (Obj.cells #[.slice va L.length vc] 24) := by
            have := blk_set (o := 0) y1 (.slice va L.length vc)
            simpa using this
          have HF : Hid (SlN l (.slice va L.length vc) (w9.setCell ⟨w.heap.size + 1, 0, none⟩ (.slice va L.length vc)) ∧ Below w.heap.size w (w9.setCell ⟨w.heap.size + 1, 0, none⟩ (.slice va L.length vc))) := by
            have hlen2 : L.length = l.length := by rw [← hL]; simp
            refine ⟨?_, QB9.setCell (by simp) _⟩
            have h1 := hO.keep (D := fun k => k = w.heap.size + 1) (W' := w9.setCell ⟨w.heap.size + 1, 0, none⟩ (.slice va L.length vc)) ((But.refl _ _).setCell _ _ (.inr rfl)) (fun k hk => by have := blk_lt (HT.out (w1.alloc (Obj.cells #[.slice (some ⟨b2, o2, none⟩) l.length lc] 24)) HBW.out).2.1; omega)
            have h2 := h1.sl (by omega)
            rw [hL] at h2
            exact h2
          clear hO hb9 HT HB9 HBW HC2 hL HTB HN HLK HB1
          go_wp2_with fail
          refine bodyPost_ret (results_cell_tt rfl _ _ _ rfl rfl rfl (run_loadVar_row _ _ _ _ _ _ _ z Try.underlying24 rfl (by kernel_rfl))) rfl ?_
          exact ⟨_, rfl, HF.out⟩
        | false =>
          have hfl3 : ¬ (l.length : Int) ≥ 4096 := by have : ¬ 4096 ≤ l.length := fun h => hfull ⟨rfl, h⟩; omega
          go_wp2_with fail
          refine HCH.mono ?_
          rintro e w2 ⟨rfl, rfl⟩
          have HBW : Hid (Below w0.heap.size w0 (w1.alloc (Obj.cells #[.slice (some ⟨b2, o2, none⟩) l.length lc] 24))) := HBA
          clear HCH
          go_wp2_with fail
          refine HC1.mono ?_
          rintro e w3 ⟨rfl, rfl⟩
          go_wp2_with fail
          have HC2 := copied_any l (.slice (some ⟨b2, o2, none⟩) l.length lc) (w1.alloc (Obj.cells #[.slice (some ⟨b2, o2, none⟩) l.length lc] 24)) (HT.out (w1.alloc (Obj.cells #[.slice (some ⟨b2, o2, none⟩) l.length lc] 24)) HBW.out).2.2.1 (by omega) HLK.out
          refine HC2.mono ?_
          rintro e w9 ⟨v', L, rfl, hL, hO, hb9⟩
          have HB9 : Hid (Below w0.heap.size w0 w9) := HBW.out.trans (hb9.mono HBW.out.size)
          obtain ⟨y0, y1, _, QB9⟩ := HT.out w9 HB9.out
          have x1 : w9.cell? ⟨w.heap.size + 1, 0, none⟩ = some (.slice none 0 0) := by rw [Lib.cell_of_heap y1]; rfl
          have xf : w9.frozen? ⟨w.heap.size + 1, 0, none⟩ = false := Lib.frozen_of_heap y1 _
          obtain ⟨va, vc, rfl⟩ := slice_of_ownK hO.nodes
          have z : (w9.setCell ⟨w.heap.size + 1, 0, none⟩ (.slice va L.length vc)).heap[w.heap.size + 1]? = some (Obj.cells #[.slice va L.length vc] 24) := by
            have := blk_set (o := 0) y1 (.slice va L.length vc)
            simpa using this
          have HF : Hid (SlN l (.slice va L.length vc) (w9.setCell ⟨w.heap.size + 1, 0, none⟩ (.slice va L.length vc)) ∧ Below w.heap.size w (w9.setCell ⟨w.heap.size + 1, 0, none⟩ (.slice va L.length vc))) := by
            have hlen2 : L.length = l.length := by rw [← hL]; simp
            refine ⟨?_, QB9.setCell (by simp) _⟩
            have h1 := hO.keep (D := fun k => k = w.heap.size + 1) (W' := w9.setCell ⟨w.heap.size + 1, 0, none⟩ (.slice va L.length vc)) ((But.refl _ _).setCell _ _ (.inr rfl)) (fun k hk => by have := blk_lt (HT.out (w1.alloc (Obj.cells #[.slice (some ⟨b2, o2, none⟩) l.length lc] 24)) HBW.out).2.1; omega)
            have h2 := h1.sl (by omega)
            rw [hL] at h2
            exact h2
          clear hO hb9 HT HB9 HBW HC2 hL HTB HN HLK HB1
          go_wp2_with fail
          refine bodyPost_ret (results_cell_tt rfl _ _ _ rfl rfl rfl (run_loadVar_row _ _ _ _ _ _ _ z Try.underlying24 rfl (by kernel_rfl))) rfl ?_
          exact ⟨_, rfl, HF.out⟩
      | true =>
        cases hnp : numB pl with
        | false =>
          rw [hst] at HC1
          rw [hnp] at HC3
          cases TB with
          | true =>
            go_wp2_with fail
            refine HCH.mono ?_
            rintro e w2 ⟨rfl, rfl⟩
            have HBW : Hid (Below w0.heap.size w0 (w1.alloc (Obj.cells #[.slice (some ⟨b2, o2, none⟩) l.length lc] 24))) := HBA
            clear HCH
            go_wp2_with fail
            refine HC1.mono ?_
            rintro e w3 ⟨rfl, rfl⟩
            go_wp2_with fail
            refine HC3.mono ?_
            rintro e w3 ⟨rfl, rfl⟩
            go_wp2_with fail
            have HC2 := copied_any l (.slice (some ⟨b2, o2, none⟩) l.length lc) (w1.alloc (Obj.cells #[.slice (some ⟨b2, o2, none⟩) l.length lc] 24)) (HT.out (w1.alloc (Obj.cells #[.slice (some ⟨b2, o2, none⟩) l.length lc] 24)) HBW.out).2.2.1 (by omega) HLK.out
            refine HC2.mono ?_
            rintro e w9 ⟨v', L, rfl, hL, hO, hb9⟩
            have HB9 : Hid (Below w0.heap.size w0 w9) := HBW.out.trans (hb9.mono HBW.out.size)
            obtain ⟨y0, y1, _, QB9⟩ := HT.out w9 HB9.out
            have x1 : w9.cell? ⟨w.heap.size + 1, 0, none⟩ = some (.slice none 0 0) := by rw [Lib.cell_of_heap y1]; rfl
            have xf : w9.frozen? ⟨w.heap.size + 1, 0, none⟩ = false := Lib.frozen_of_heap y1 _
            obtain ⟨va, vc, rfl⟩ := slice_of_ownK hO.nodes
            have z : (w9.setCell ⟨w.heap.size + 1, 0, none⟩ (.slice va L.length vc)).heap[w.heap.size + 1]? = some (Obj.cells #[.slice va L.length vc] 24) := by
              have := blk_set (o := 0) y1 (.slice va L.length vc)
              simpa using this
            have HF : Hid (SlN l (.slice va L.length vc) (w9.setCell ⟨w.heap.size + 1, 0, none⟩ (.slice va L.length vc)) ∧ Below w.heap.size w (w9.setCell ⟨w.heap.size + 1, 0, none⟩ (.slice va L.length vc))) := by
              have hlen2 : L.length = l.length := by rw [← hL]; simp
              refine ⟨?_, QB9.setCell (by simp) _⟩
              have h1 := hO.keep (D := fun k => k = w.heap.size + 1) (W' := w9.setCell ⟨w.heap.size + 1, 0, none⟩ (.slice va L.length vc)) ((But.refl _ _).setCell _ _ (.inr rfl)) (fun k hk => by have := blk_lt (HT.out (w1.alloc (Obj.cells #[.slice (some ⟨b2, o2, none⟩) l.length lc] 24)) HBW.out).2.1; omega)
              have h2 := h1.sl (by omega)
              rw [hL] at h2
              exact h2
            clear hO hb9 HT HB9 HBW HC2 hL HTB HN HLK HB1
            go_wp2_with fail
            refine bodyPost_ret (results_cell_tt rfl _ _ _ rfl rfl rfl (run_loadVar_row _ _ _ _ _ _ _ z Try.underlying24 rfl (by kernel_rfl))) rfl ?_
            exact ⟨_, rfl, HF.out⟩
          | false =>
            have hfl3 : ¬ (l.length : Int) ≥ 4096 := by have : ¬ 4096 ≤ l.length := fun h => hfull ⟨rfl, h⟩; omega
            go_wp2_with fail
            refine HCH.mono ?_
            rintro e w2 ⟨rfl, rfl⟩
            have HBW : Hid (Below w0.heap.size w0 (w1.alloc (Obj.cells #[.slice (some ⟨b2, o2, none⟩) l.length lc] 24))) := HBA
            clear HCH
            go_wp2_with fail
            refine HC1.mono ?_
            rintro e w3 ⟨rfl, rfl⟩
            go_wp2_with fail
            refine HC3.mono ?_
            rintro e w3 ⟨rfl, rfl⟩
            go_wp2_with fail
            have HC2 := copied_any l (.slice (some ⟨b2, o2, none⟩) l.length lc) (w1.alloc (Obj.cells #[.slice (some ⟨b2, o2, none⟩) l.length lc] 24)) (HT.out (w1.alloc (Obj.cells #[.slice (some ⟨b2, o2, none⟩) l.length lc] 24)) HBW.out).2.2.1 (by omega) HLK.out
            refine HC2.mono ?_
            rintro e w9 ⟨v', L, rfl, hL, hO, hb9⟩
            have HB9 : Hid (Below w0.heap.size w0 w9) := HBW.out.trans (hb9.mono HBW.out.size)
            obtain ⟨y0, y1, _, QB9⟩ := HT.out w9 HB9.out
            have x1 : w9.cell? ⟨w.heap.size + 1, 0, none⟩ = some (.slice none 0 0) := by rw [Lib.cell_of_heap y1]; rfl
            have xf : w9.frozen? ⟨w.heap.size + 1, 0, none⟩ = false := Lib.frozen_of_heap y1 _
            obtain ⟨va, vc, rfl⟩ := slice_of_ownK hO.nodes
            have z : (w9.setCell ⟨w.heap.size + 1, 0, none⟩ (.slice va L.length vc)).heap[w.heap.size + 1]? = some (Obj.cells #[.slice va L.length vc] 24) := by
              have := blk_set (o := 0) y1 (.slice va L.length vc)
              simpa using this
            have HF : Hid (SlN l (.slice va L.length vc) (w9.setCell ⟨w.heap.size + 1, 0, none⟩ (.slice va L.length vc)) ∧ Below w.heap.size w (w9.setCell ⟨w.heap.size + 1, 0, none⟩ (.slice va L.length vc))) := by
              have hlen2 : L.length = l.length := by rw [← hL]; simp
              refine ⟨?_, QB9.setCell (by simp) _⟩
              have h1 := hO.keep (D := fun k => k = w.heap.size + 1) (W' := w9.setCell ⟨w.heap.size + 1, 0, none⟩ (.slice va L.length vc)) ((But.refl _ _).setCell _ _ (.inr rfl)) (fun k hk => by have := blk_lt (HT.out (w1.alloc (Obj.cells #[.slice (some ⟨b2, o2, none⟩) l.length lc] 24)) HBW.out).2.1; omega)
              have h2 := h1.sl (by omega)
              rw [hL] at h2
              exact h2
            clear hO hb9 HT HB9 HBW HC2 hL HTB HN HLK HB1
            go_wp2_with fail
            refine bodyPost_ret (results_cell_tt rfl _ _ _ rfl rfl rfl (run_loadVar_row _ _ _ _ _ _ _ z Try.underlying24 rfl (by kernel_rfl))) rfl ?_
            exact ⟨_, rfl, HF.out⟩
        | true =>
          exact absurd (HTB.out.2 ⟨HNF.out, hhas, fun y hy => by rw [HPL.out y hy]; omega, hst, hnp⟩) HN.out
end Go.Proofs.Ytjpbfckdiojghaa
