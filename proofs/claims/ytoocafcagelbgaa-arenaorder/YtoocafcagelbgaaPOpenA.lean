/- open: a builder of a fit arena. -/
import Derived.Test.YtoocafcagelbgaaPPlaces
import Derived.Test.YtoocafcagelbgaaPCopied
namespace Go.Proofs.Ytoocafcagelbgaa
open Go.RowKit

theorem fit_lens {a : Ar} {most : Nat} (h : framedB a most = true) : a.slots.length ≤ 4096 ∧ a.roots.length ≤ 4096 ∧ ∀ s ∈ a.slots, s.nd.kids = [] := by
  unfold framedB at h
  simp only [Bool.and_eq_true, decide_eq_true_eq] at h
  refine ⟨h.1, h.2.1, fun s hs => ?_⟩
  have := List.all_eq_true.1 h.2.2.1 s hs
  unfold slotB at this
  simp only [Bool.and_eq_true, List.isEmpty_iff] at this
  exact this.1.1
/-- A builder's parts, as open tells them. -/
def BldR (B : Nat) (a : Ar) (L : List Sv) (bv : Value) (W : World) : Prop :=
  ∃ sa sc ra rc mb, bv = .agg #[.slice sa a.slots.length sc, .int .i64 a.free, .slice ra a.roots.length rc, .map (some mb)] ∧ L.map Prod.fst = a.slots ∧ OwnS B L (.slice sa a.slots.length sc) W ∧ OwnI B a.roots (.slice ra a.roots.length rc) W ∧ (∀ p ∈ L, ∀ k, (Value.slice ra a.roots.length rc).ownBlock = some k → p.2.ownBlock ≠ some k) ∧ MapF mb (plF a.slots a.slots.length).1 (plF a.slots a.slots.length).2 W ∧ B ≤ mb

set_option maxRecDepth 100000 in
set_option maxHeartbeats 4000000 in
theorem open_any (a : Ar) (v : Value) (w : World) (h : ArV a v w) (hkl : ∀ s ∈ a.slots, s.kids.length ≤ 1000000) (hfit : fitAB a 1048576 = true) :
    Calls Try.prog 45 #[v] w fun e w' => ∃ bv L, e = .returned (.tuple #[bv, .bool true]) ∧ BldR w.heap.size a L bv w' ∧ Below w.heap.size w w' := by
  have hfr : framedB a 1048576 = true := by unfold fitAB at hfit; simp only [Bool.and_eq_true] at hfit; exact hfit.1
  have HP : Hid (∀ W, Below w.heap.size w W → Calls Try.prog 29 #[v, .int .i64 1048576] W fun e w' => (∃ b, e = .returned (.tuple #[.map (some b), .bool true]) ∧ MapF b (plF a.slots a.slots.length).1 (plF a.slots a.slots.length).2 w' ∧ W.heap.size ≤ b) ∧ Below W.heap.size W w') := fun W hb => (placesOf_any a v 1048576 W (h.next hb) hkl (by omega) (by omega)).mono (by
    rintro e w' ⟨⟨m, rfl, h2⟩, h3⟩
    obtain ⟨b, rfl, h4, h5⟩ := h2 hfr
    exact ⟨⟨b, by rw [hfit], h4, h5⟩, h3⟩)
  obtain ⟨hl1, hl2, hl3⟩ := fit_lens hfr
  have HCP : Hid (∀ W, Below w.heap.size w W → Calls Try.prog 48 #[v] W fun e w' => ∃ sa sc ra rc L, e = .returned (.agg #[.slice sa a.slots.length sc, .int .i64 a.free, .slice ra a.roots.length rc]) ∧ L.map Prod.fst = a.slots ∧ OwnS W.heap.size L (.slice sa a.slots.length sc) w' ∧ OwnI W.heap.size a.roots (.slice ra a.roots.length rc) w' ∧ (∀ p ∈ L, ∀ k, (Value.slice ra a.roots.length rc).ownBlock = some k → p.2.ownBlock ≠ some k) ∧ Below W.heap.size W w') := fun W hb => copied_any a v W (h.next hb) hl1 hl2 hl3 hkl
  obtain ⟨sv, rv, rfl, ⟨ao, cap, rfl, _⟩, ⟨ra, rc, rfl, _⟩, _⟩ := h
  have HG : Hid (∀ bv L W, BldR w.heap.size a L bv W = ∃ sa sc ra rc mb, bv = .agg #[.slice sa a.slots.length sc, .int .i64 a.free, .slice ra a.roots.length rc, .map (some mb)] ∧ L.map Prod.fst = a.slots ∧ OwnS w.heap.size L (.slice sa a.slots.length sc) W ∧ OwnI w.heap.size a.roots (.slice ra a.roots.length rc) W ∧ (∀ p ∈ L, ∀ k, (Value.slice ra a.roots.length rc).ownBlock = some k → p.2.ownBlock ≠ some k) ∧ MapF mb (plF a.slots a.slots.length).1 (plF a.slots a.slots.length).2 W ∧ w.heap.size ≤ mb) := fun _ _ _ => rfl
  clear hfit hfr hkl hl1 hl2 hl3
  generalize BldR w.heap.size a = BR at *
  generalize a.slots = l at *
  generalize a.roots = roots at *
  generalize a.free = fr at *
  have B0 : Below w.heap.size w ((w.alloc (Obj.cells #[.slice ao l.length cap, .int .i64 fr, .slice ra roots.length rc] 25)).alloc (Obj.cells #[.slice none 0 0, .int .i64 0, .slice none 0 0, .map none] 77)) := ((Below.refl _ _).alloc (Nat.le_refl _) _).alloc (by simp) _
  have k0 : ((w.alloc (Obj.cells #[.slice ao l.length cap, .int .i64 fr, .slice ra roots.length rc] 25)).alloc (Obj.cells #[.slice none 0 0, .int .i64 0, .slice none 0 0, .map none] 77)).heap[w.heap.size]? = some (Obj.cells #[.slice ao l.length cap, .int .i64 fr, .slice ra roots.length rc] 25) :=
    (Below.heap_alloc _ _ _ (by simp)).trans (heap_alloc_new w _)
  have k1 : ((w.alloc (Obj.cells #[.slice ao l.length cap, .int .i64 fr, .slice ra roots.length rc] 25)).alloc (Obj.cells #[.slice none 0 0, .int .i64 0, .slice none 0 0, .map none] 77)).heap[w.heap.size + 1]? = some (Obj.cells #[.slice none 0 0, .int .i64 0, .slice none 0 0, .map none] 77) := by
    simpa using heap_alloc_new (w.alloc (Obj.cells #[.slice ao l.length cap, .int .i64 fr, .slice ra roots.length rc] 25)) (Obj.cells #[.slice none 0 0, .int .i64 0, .slice none 0 0, .map none] 77)
  have hz0 : ((w.alloc (Obj.cells #[.slice ao l.length cap, .int .i64 fr, .slice ra roots.length rc] 25)).alloc (Obj.cells #[.slice none 0 0, .int .i64 0, .slice none 0 0, .map none] 77)).heap.size = w.heap.size + 2 := by simp
  have hc := HP.out _ B0
  go_enter Try.func45, Try.ntmps45
  go_wp2_with fail
  refine hc.mono ?_
  generalize ((w.alloc (Obj.cells #[.slice ao l.length cap, .int .i64 fr, .slice ra roots.length rc] 25)).alloc (Obj.cells #[.slice none 0 0, .int .i64 0, .slice none 0 0, .map none] 77)) = w0 at *
  rintro e w1 ⟨⟨mb, rfl, hM, hmb⟩, hb1⟩
  have kA := (hb1.block _ (blk_lt k0)).trans k0
  have c0 : w1.cell? ⟨w.heap.size, 0, none⟩ = some (.slice ao l.length cap) := by rw [Lib.cell_of_heap kA]; rfl
  have c1 : w1.cell? ⟨w.heap.size, 1, none⟩ = some (.int .i64 fr) := by rw [Lib.cell_of_heap kA]; rfl
  have c2 : w1.cell? ⟨w.heap.size, 2, none⟩ = some (.slice ra roots.length rc) := by rw [Lib.cell_of_heap kA]; rfl
  have B1 := below_next B0 hb1
  have hc2 := HCP.out w1 B1
  have HM : Hid (MapF mb (plF l l.length).1 (plF l l.length).2 w1 ∧ w0.heap.size ≤ mb ∧ Below w.heap.size w w1 ∧ w0.heap.size = w.heap.size + 2) := ⟨hM, hmb, B1, hz0⟩
  have hk1 := (hb1.block _ (blk_lt k1)).trans k1
  have HK1 : Hid (w1.heap[w.heap.size + 1]? = some (Obj.cells #[.slice none 0 0, .int .i64 0, .slice none 0 0, .map none] 77)) := hk1
  clear hc HP HCP hM hmb B0 B1 k0 k1 hz0 hb1 kA hk1
  go_wp2_with fail
  refine hc2.mono ?_
  rintro e w2 ⟨sa, sc, ya, yc, L, rfl, hL, hO, hR, hpt, hb2⟩
  have k1 := (hb2.block _ (blk_lt HK1.out)).trans HK1.out
  have q0 : w2.cell? ⟨w.heap.size + 1, 0, none⟩ = some (.slice none 0 0) := by rw [Lib.cell_of_heap k1]; rfl
  have q1 : w2.cell? ⟨w.heap.size + 1, 1, none⟩ = some (.int .i64 0) := by rw [Lib.cell_of_heap k1]; rfl
  have q2 : w2.cell? ⟨w.heap.size + 1, 2, none⟩ = some (.slice none 0 0) := by rw [Lib.cell_of_heap k1]; rfl
  have q3 : w2.cell? ⟨w.heap.size + 1, 3, none⟩ = some (.map none) := by rw [Lib.cell_of_heap k1]; rfl
  have f1 : ∀ o, w2.frozen? ⟨w.heap.size + 1, o, none⟩ = false := fun o => Lib.frozen_of_heap k1 _
  have HE : Hid (∃ W', W' = ((((w2.setCell ⟨w.heap.size + 1, 0, none⟩ (.slice sa l.length sc)).setCell ⟨w.heap.size + 1, 1, none⟩ (.int .i64 fr)).setCell ⟨w.heap.size + 1, 2, none⟩ (.slice ya roots.length yc)).setCell ⟨w.heap.size + 1, 3, none⟩ (.map (some mb))) ∧ W'.heap[w.heap.size + 1]? = some (Obj.cells #[.slice sa l.length sc, .int .i64 fr, .slice ya roots.length yc, .map (some mb)] 77) ∧ BR L (.agg #[.slice sa l.length sc, .int .i64 fr, .slice ya roots.length yc, .map (some mb)]) W' ∧ Below w.heap.size w W') := by
    have p1 := blk_set (o := 0) k1 (.slice sa l.length sc)
    have p2 := blk_set (o := 1) p1 (.int .i64 fr)
    have p3 := blk_set (o := 2) p2 (.slice ya roots.length yc)
    have p4 := blk_set (o := 3) p3 (.map (some mb))
    obtain ⟨m1, m2, m3, m4⟩ := HM.out
    have hz := m3.size
    have hkl := blk_lt HK1.out
    have B3 : But (fun k => k = w.heap.size + 1) w2 ((((w2.setCell ⟨w.heap.size + 1, 0, none⟩ (.slice sa l.length sc)).setCell ⟨w.heap.size + 1, 1, none⟩ (.int .i64 fr)).setCell ⟨w.heap.size + 1, 2, none⟩ (.slice ya roots.length yc)).setCell ⟨w.heap.size + 1, 3, none⟩ (.map (some mb))) := ((((But.refl (fun k => k = w.heap.size + 1) w2).setCell ⟨w.heap.size + 1, 0, none⟩ (.slice sa l.length sc) (.inr rfl)).setCell ⟨w.heap.size + 1, 1, none⟩ (.int .i64 fr) (.inr rfl)).setCell ⟨w.heap.size + 1, 2, none⟩ (.slice ya roots.length yc) (.inr rfl)).setCell ⟨w.heap.size + 1, 3, none⟩ (.map (some mb)) (.inr rfl)
    have hbw := below_next m3 hb2
    refine ⟨_, rfl, by simpa using p4, ?_, hbw.trans (B3.below hbw.size (fun k hk => by omega))⟩
    rw [HG.out]
    exact ⟨sa, sc, ya, yc, mb, rfl, hL, (hO.keep B3 (fun k hk => by omega)).mono (by omega), ownI_mono (ownsRow_keep hR B3 (fun j hj e => by have := (World.ownsRow.lt hR j hj).1; omega)) (by omega), hpt, (m1.next hb2).but B3 (by omega), by omega⟩
  clear hc2 HM HK1 hO hR hb2 HG hL hpt
  go_wp2_with fail
  obtain ⟨W', e, h1, h2, h3⟩ := HE.out
  rw [← e]
  refine bodyPost_ret (results_cell_tmp rfl _ _ _ (x := .agg #[.slice sa l.length sc, .int .i64 fr, .slice ya roots.length yc, .map (some mb)]) (y := .bool true) rfl rfl (run_loadVar_row _ _ _ _ _ _ _ h1 Try.underlying77 rfl (by kernel_rfl))) rfl ?_
  exact ⟨_, L, rfl, h2, h3⟩
end Go.Proofs.Ytoocafcagelbgaa
