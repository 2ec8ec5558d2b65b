/- Drop. -/
import Derived.Test.YtoocafcagelbgaaBDrop
namespace Go.Proofs.Ytoocafcagelbgaa
open Go.RowKit

theorem relS_roots : ∀ (f : Nat) (S : St) (i : Nat), (relS f S i).roots = S.roots
  | 0, S, i => by unfold relS; rfl
  | f + 1, S, i => by
    cases hs : S.sl[i]? with
    | none => unfold relS; rw [hs]
    | some s =>
      by_cases hm : 1 < s.refs
      · rw [relS_more hs hm]; rfl
      · rw [relS_last hs hm]
        have key : ∀ (l : List Nat) (T : St), (l.foldl (relS f) T).roots = T.roots := by
          intro l
          induction l with
          | nil => intro T; rfl
          | cons k l ih => intro T; rw [List.foldl_cons, ih, relS_roots f T k]
        rw [key]; rfl
def dropS (a : Ar) (d : Nat → Nat) (j p : Nat) : St := relS (d p + 1) { toSt a with roots := a.roots.set j (-1) } p
/-- What Drop tells. -/
def DropR (a : Ar) (h : Int) (d : Nat → Nat) (w : World) (e : Ending) (w' : World) : Prop :=
  Below w.heap.size w w' ∧ ((keepsB a.roots h = false ∧ ∃ bv, e = .returned (.tuple #[bv, .int .i64 19]) ∧ ArV a bv w') ∨ (∃ (j p : Nat) (bv : Value), h = j ∧ a.roots[j]? = some (p : Int) ∧ e = .returned (.tuple #[bv, .int .i64 0]) ∧ ArV (dropS a d j p).ar bv w' ∧ Wr d (dropS a d j p)))
theorem Bld.arena {B bb mb : Nat} {S : St} {sv rv : Value} {L : List Sv} {W W' : World} {r : Nat} {c : Array Value} (h : Bld B bb mb S sv rv L W) (hr : W.heap[r]? = some (Obj.cells c 25)) (hb : But (fun k => k = r) W W') : Bld B bb mb S sv rv L W' :=
  h.but hb (fun k e => by
    subst e
    refine ⟨h.notD hr (by decide) (by decide), own_nb h.rt hr (by decide), fun ⟨q, hq, e⟩ => own_nb (h.own.kids q hq) hr (by decide) e⟩)
theorem toSt_wr {a : Ar} {most : Nat} {d : Nat → Nat} (hfit : fitAB a most = true) (hok : ∀ s ∈ a.slots, SlOk s) (hkl : ∀ s ∈ a.slots, s.kids.length ≤ 1000000) (hd : ∀ (i : Nat) (s : Sl), a.slots[i]? = some s → ∀ k ∈ s.kids.map Int.toNat, d k < d i) (rt : List Int) : Wr d { toSt a with roots := rt } := by
  have hw := toSt_wf hfit hok hkl
  refine ⟨hw.len, hw.kin, hw.kl, hw.hd, fun p hp => ?_, fun i s hs => ?_⟩
  · have := hw.chain.in p hp
    have := hw.len
    omega
  · have hs2 : (a.slots.map toSN)[i]? = some s := hs
    rw [List.getElem?_map] at hs2
    obtain ⟨t, ht, rfl⟩ := Option.map_eq_some_iff.1 hs2
    exact hd i t ht
theorem Wr.free {d : Nat → Nat} {S : St} (h : Wr d S) : i64B S.free := by
  unfold St.free freeI
  have := h.fl
  cases hf : S.fl with
  | nil => exact ⟨by decide, by decide⟩
  | cons q l => have := this q (by rw [hf]; simp); simp only; exact ⟨by omega, by omega⟩

/-- The result's box, stored. -/
theorem Bld.told {B bb mb : Nat} {S : St} {sv rv : Value} {L : List Sv} {W : World} {r : Nat} {x y z : Value} (h : Bld B bb mb S sv rv L W) (hr : W.heap[r]? = some (Obj.cells #[x, y, z] 25)) (fr : Int) :
    (((W.setCell ⟨r, 0, none⟩ sv).setCell ⟨r, 1, none⟩ (.int .i64 fr)).setCell ⟨r, 2, none⟩ rv).heap[r]? = some (Obj.cells #[sv, .int .i64 fr, rv] 25) ∧ Bld B bb mb S sv rv L (((W.setCell ⟨r, 0, none⟩ sv).setCell ⟨r, 1, none⟩ (.int .i64 fr)).setCell ⟨r, 2, none⟩ rv) ∧ But (fun k => k = r) W (((W.setCell ⟨r, 0, none⟩ sv).setCell ⟨r, 1, none⟩ (.int .i64 fr)).setCell ⟨r, 2, none⟩ rv) := by
  have p1 := blk_set (o := 0) hr sv
  have p2 := blk_set (o := 1) p1 (.int .i64 fr)
  have p3 := blk_set (o := 2) p2 rv
  have B3 : But (fun k => k = r) W (((W.setCell ⟨r, 0, none⟩ sv).setCell ⟨r, 1, none⟩ (.int .i64 fr)).setCell ⟨r, 2, none⟩ rv) := (((But.refl (fun k => k = r) W).setCell ⟨r, 0, none⟩ _ (.inr rfl)).setCell ⟨r, 1, none⟩ _ (.inr rfl)).setCell ⟨r, 2, none⟩ _ (.inr rfl)
  exact ⟨by simpa using p3, h.arena hr B3, B3⟩
set_option maxRecDepth 100000 in
set_option maxHeartbeats 8000000 in
theorem drop_any (a : Ar) (v : Value) (h : Int) (w : World) (d : Nat → Nat) (hv : ArV a v w) (hkl : ∀ s ∈ a.slots, s.kids.length ≤ 1000000) (hfit : fitAB a 1048576 = true) (hd : ∀ (i : Nat) (s : Sl), a.slots[i]? = some s → ∀ k ∈ s.kids.map Int.toNat, d k < d i) :
    Calls Try.prog 26 #[v, .int .i64 h] w fun e w' => DropR a h d w e w' := by
  have HV : Hid (∀ W, Below w.heap.size w W → ArV a v W) := fun W hb => hv.next hb
  have HWR : Hid (∀ rt, Wr d { toSt a with roots := rt }) := fun rt => toSt_wr hfit (ar_slots hv) hkl hd rt
  have HFIT : Hid (fitAB a 1048576 = true ∧ (∀ s ∈ a.slots, s.kids.length ≤ 1000000) ∧ a.roots.length ≤ 4096 ∧ (∀ p ∈ a.roots, rootB a.slots.length p = true) ∧ a.slots.length ≤ 4096) := by
    obtain ⟨h1, h2, _, _, h5, _⟩ := fit_parts hfit
    exact ⟨hfit, hkl, h2, h5, h1⟩
  have HOP : Hid (∀ W, Below w.heap.size w W → Calls Try.prog 45 #[v] W fun e w' => ∃ bv L, e = .returned (.tuple #[bv, .bool true]) ∧ BldR W.heap.size a L bv w' ∧ Below W.heap.size W w') := fun W hb => open_any a v W (hv.next hb) hkl hfit
  have HKP : Hid (∀ W, Below w.heap.size w W → Calls Try.prog 39 #[v, .int .i64 h] W fun e w' => e = .returned (.bool (keepsB a.roots h)) ∧ Below W.heap.size W w') := fun W hb => keeps_any a v h W (hv.next hb)
  obtain ⟨sv0, rv0, rfl, ⟨ao, cap, rfl, _⟩, ⟨ya, yc, rfl, _, _, _, hyi⟩, _⟩ := hv
  have HYI : Hid (∀ y ∈ a.roots, i64B y) := hyi
  obtain ⟨LR, HLR⟩ : ∃ LR : Ending → World → Prop, Hid (LR = fun e w' => DropR a h d w e w') := ⟨_, rfl⟩
  have hgoal : (fun e w' => DropR a h d w e w') = LR := HLR.out.symm
  rw [hgoal]
  clear hgoal hyi hkl hfit hd
  obtain ⟨r, HR⟩ : ∃ r, Hid (r = w.heap.size + 1) := ⟨_, rfl⟩
  have B0 : Below w.heap.size w ((w.alloc (Obj.cells #[.slice ao a.slots.length cap, .int .i64 a.free, .slice ya a.roots.length yc] 25)).alloc (Obj.cells #[.slice none 0 0, .int .i64 0, .slice none 0 0] 25)) := ((Below.refl _ _).alloc (Nat.le_refl _) _).alloc (by simp) _
  have k0 : ((w.alloc (Obj.cells #[.slice ao a.slots.length cap, .int .i64 a.free, .slice ya a.roots.length yc] 25)).alloc (Obj.cells #[.slice none 0 0, .int .i64 0, .slice none 0 0] 25)).heap[w.heap.size]? = some (Obj.cells #[.slice ao a.slots.length cap, .int .i64 a.free, .slice ya a.roots.length yc] 25) := (Below.heap_alloc _ _ _ (by simp)).trans (heap_alloc_new w _)
  have k1 : ((w.alloc (Obj.cells #[.slice ao a.slots.length cap, .int .i64 a.free, .slice ya a.roots.length yc] 25)).alloc (Obj.cells #[.slice none 0 0, .int .i64 0, .slice none 0 0] 25)).heap[r]? = some (Obj.cells #[.slice none 0 0, .int .i64 0, .slice none 0 0] 25) := by
    rw [HR.out]
    simpa using heap_alloc_new (w.alloc (Obj.cells #[.slice ao a.slots.length cap, .int .i64 a.free, .slice ya a.roots.length yc] 25)) (Obj.cells #[.slice none 0 0, .int .i64 0, .slice none 0 0] 25)
  have hc := HOP.out _ B0
  go_enter Try.func26, Try.ntmps26
  go_wp2_with fail
  refine hc.mono ?_
  generalize ((w.alloc (Obj.cells #[.slice ao a.slots.length cap, .int .i64 a.free, .slice ya a.roots.length yc] 25)).alloc (Obj.cells #[.slice none 0 0, .int .i64 0, .slice none 0 0] 25)) = w0 at *
  rintro e w1 ⟨bv, L, rfl, hbr, hb1⟩
  obtain ⟨sa, sc, ra, rc, mb, rfl, hbr2⟩ := hbr
  have hfA : (toSt a).free = a.free := congrArg Ar.free (toSt_ar HFIT.out.1)
  have hsA : (toSt a).sl.map SN.sl = a.slots := congrArg Ar.slots (toSt_ar HFIT.out.1)
  have HAR : Hid ((toSt a).ar = a ∧ (toSt a).free = a.free ∧ (toSt a).sl.length = a.slots.length) := ⟨toSt_ar HFIT.out.1, hfA, by rw [← hsA]; simp⟩
  have hbA : Below w1.heap.size w1 (w1.alloc (Obj.cells #[.slice sa a.slots.length sc, .int .i64 a.free, .slice ra a.roots.length rc, .map (some mb)] 77)) := (Below.refl _ _).alloc (Nat.le_refl _) _
  obtain ⟨bb, HBB⟩ : ∃ bb, Hid (bb = w1.heap.size) := ⟨_, rfl⟩
  have hb01 := below_next hb1 hbA
  have HB : Hid (Bld w0.heap.size bb mb (toSt a) (.slice sa a.slots.length sc) (.slice ra a.roots.length rc) L (w1.alloc (Obj.cells #[.slice sa a.slots.length sc, .int .i64 a.free, .slice ra a.roots.length rc, .map (some mb)] 77)) ∧ (w1.alloc (Obj.cells #[.slice sa a.slots.length sc, .int .i64 a.free, .slice ra a.roots.length rc, .map (some mb)] 77)).heap[r]? = some (Obj.cells #[.slice none 0 0, .int .i64 0, .slice none 0 0] 25) ∧ Below w.heap.size w (w1.alloc (Obj.cells #[.slice sa a.slots.length sc, .int .i64 a.free, .slice ra a.roots.length rc, .map (some mb)] 77)) ∧ r < w0.heap.size ∧ w.heap.size < r) := by
    obtain ⟨h1, h2, h3, h4, h5, h6⟩ := hbr2
    refine ⟨⟨by rw [hfA, HBB.out]; exact heap_alloc_new _ _, ⟨_, Nat.le_refl _, h5.next hbA⟩, by rw [hsA]; exact h1, h2.next hbA, ownsRow_below4 h3 hbA, h4, by rw [HBB.out]; exact hb1.size, h6⟩, (hb01.block _ (blk_lt k1)).trans k1, below_next B0 hb01, blk_lt k1, by rw [HR.out]; omega⟩
  have kA := (hb01.block _ (blk_lt k0)).trans k0
  have hfr : ∃ wx, wx = w1.alloc (Obj.cells #[.slice sa a.slots.length sc, .int .i64 a.free, .slice ra a.roots.length rc, .map (some mb)] 77) := ⟨_, rfl⟩
  have HKA : Hid ((w1.alloc (Obj.cells #[.slice sa a.slots.length sc, .int .i64 a.free, .slice ra a.roots.length rc, .map (some mb)] 77)).heap[w.heap.size]? = some (Obj.cells #[.slice ao a.slots.length cap, .int .i64 a.free, .slice ya a.roots.length yc] 25)) := kA
  have hc2 := HKP.out _ HB.out.2.2.1
  have e0 : w1.cell? ⟨w.heap.size, 0, none⟩ = some (.slice ao a.slots.length cap) := by rw [Lib.cell_of_heap ((hb1.block _ (blk_lt k0)).trans k0)]; rfl
  have e1 : w1.cell? ⟨w.heap.size, 1, none⟩ = some (.int .i64 a.free) := by rw [Lib.cell_of_heap ((hb1.block _ (blk_lt k0)).trans k0)]; rfl
  have e2 : w1.cell? ⟨w.heap.size, 2, none⟩ = some (.slice ya a.roots.length yc) := by rw [Lib.cell_of_heap ((hb1.block _ (blk_lt k0)).trans k0)]; rfl
  have hwl : w.heap.size < w1.heap.size := by have := hb1.size; have := blk_lt k0; omega
  obtain ⟨kb, HKB⟩ : ∃ kb, Hid (keepsB a.roots h = kb) := ⟨_, rfl⟩
  rw [HKB.out] at hc2
  clear hc hbA hb01 kA hfr hfA hsA hbr2 HOP HKP B0 k0 k1 hb1
  go_wp2_with fail
  refine hc2.mono ?_
  rw [← HBB.out]
  generalize w1.alloc (Obj.cells #[.slice sa a.slots.length sc, .int .i64 a.free, .slice ra a.roots.length rc, .map (some mb)] 77) = w2 at *
  rintro e w3 ⟨rfl, hb3⟩
  have kr := (hb3.block _ (blk_lt HB.out.2.1)).trans HB.out.2.1
  have hB3 := HB.out.1.next hb3
  have kbb := hB3.box
  rw [HAR.out.2.1] at kbb
  have HB3 : Hid (Bld w0.heap.size bb mb (toSt a) (.slice sa a.slots.length sc) (.slice ra a.roots.length rc) L w3 ∧ w3.heap[r]? = some (Obj.cells #[.slice none 0 0, .int .i64 0, .slice none 0 0] 25) ∧ Below w.heap.size w w3) := ⟨hB3, kr, below_next HB.out.2.2.1 hb3⟩
  have b0 : w3.cell? ⟨bb, 0, none⟩ = some (.slice sa a.slots.length sc) := by rw [Lib.cell_of_heap kbb]; rfl
  have b1 : w3.cell? ⟨bb, 1, none⟩ = some (.int .i64 a.free) := by rw [Lib.cell_of_heap kbb]; rfl
  have b2 : w3.cell? ⟨bb, 2, none⟩ = some (.slice ra a.roots.length rc) := by rw [Lib.cell_of_heap kbb]; rfl
  have r0 : w3.cell? ⟨r, 0, none⟩ = some (.slice none 0 0) := by rw [Lib.cell_of_heap kr]; rfl
  have r1 : w3.cell? ⟨r, 1, none⟩ = some (.int .i64 0) := by rw [Lib.cell_of_heap kr]; rfl
  have r2 : w3.cell? ⟨r, 2, none⟩ = some (.slice none 0 0) := by rw [Lib.cell_of_heap kr]; rfl
  have rf : ∀ o, w3.frozen? ⟨r, o, none⟩ = false := fun o => Lib.frozen_of_heap kr _
  have HSZ : Hid (w.heap.size < r ∧ r < w0.heap.size) := ⟨HB.out.2.2.2.2, HB.out.2.2.2.1⟩
  simp only [← HR.out]
  clear hc2 hb3 kr hB3 kbb e0 e1 e2 HB HKA
  cases kb with
  | false =>
    have HE : Hid (∃ W', W' = (((w3.setCell ⟨r, 0, none⟩ (.slice sa a.slots.length sc)).setCell ⟨r, 1, none⟩ (.int .i64 a.free)).setCell ⟨r, 2, none⟩ (.slice ra a.roots.length rc)) ∧ W'.heap[r]? = some (Obj.cells #[.slice sa a.slots.length sc, .int .i64 a.free, .slice ra a.roots.length rc] 25) ∧ LR (.returned (.tuple #[.agg #[.slice sa a.slots.length sc, .int .i64 a.free, .slice ra a.roots.length rc], .int .i64 19])) W') := by
      obtain ⟨h1, h2, h3⟩ := HB3.out.1.told HB3.out.2.1 a.free
      refine ⟨_, rfl, h1, ?_⟩
      rw [HLR.out]
      refine ⟨HB3.out.2.2.trans (h3.below HB3.out.2.2.size (fun k hk => by have := HR.out; omega)), .inl ⟨HKB.out, _, rfl, ?_⟩⟩
      have ho := h2.out (by rw [HAR.out.2.2]; exact HFIT.out.2.2.2.2) (HWR.out a.roots).free HYI.out (by show a.roots.length ≤ _; have := HFIT.out.2.2.1; omega)
      rw [HAR.out.1, HAR.out.2.1] at ho
      exact ho
    clear HB3
    go_wp2_with fail
    obtain ⟨W', e, h1, h2⟩ := HE.out
    rw [← e]
    refine bodyPost_ret (results_cell_tmp rfl _ _ _ (x := .agg #[.slice sa a.slots.length sc, .int .i64 a.free, .slice ra a.roots.length rc]) (y := .int .i64 19) rfl rfl (run_loadVar_row _ _ _ _ _ _ _ h1 Try.underlying25 rfl (by kernel_rfl))) rfl ?_
    exact h2
  | true =>
    obtain ⟨j, p, rfl, hjp⟩ : ∃ j p : Nat, h = (j : Int) ∧ a.roots[j]? = some (p : Int) := by
      have hk := HKB.out
      unfold keepsB at hk
      simp only [Bool.and_eq_true, decide_eq_true_eq] at hk
      obtain ⟨h1, h2⟩ := hk
      cases hx : a.roots[h.toNat]? with
      | none => rw [hx] at h2; cases h2
      | some x =>
        rw [hx] at h2
        simp only [decide_eq_true_eq] at h2
        exact ⟨h.toNat, x.toNat, by omega, by rw [hx]; congr 1; omega⟩
    have hjN : j < a.roots.length := (List.getElem?_eq_some_iff.1 hjp).1
    obtain ⟨g, rfl⟩ : ∃ g, ra = some ⟨g, 0, none⟩ := by
      rcases HB3.out.1.rt.2 with ⟨e, hn⟩ | ⟨g, cap', cur, e, _⟩
      · simp only [Value.slice.injEq] at e; omega
      · simp only [Value.slice.injEq] at e; exact ⟨g, e.1⟩
    have cj : w3.cell? ⟨g, j, none⟩ = some (.int .i64 (p : Int)) := by
      obtain ⟨ao', cp', e0, hr', _⟩ := sli_own HB3.out.1.rt HYI.out
      simp only [Value.slice.injEq] at e0
      obtain ⟨rfl, _, rfl⟩ := e0
      obtain ⟨b, off, e, _, hc⟩ := hr' j _ hjp
      simp only [Option.some.injEq, Addr.mk.injEq, and_true] at e
      obtain ⟨rfl, rfl⟩ := e
      have hc' : w3.cell? ⟨g, 0 + j, none⟩ = some (.int .i64 (p : Int)) := hc
      rw [Nat.zero_add] at hc'
      exact hc'
    obtain ⟨csg, hcsg⟩ := own_is_cells HB3.out.1.rt (j := g) rfl
    have fg : ∀ o, w3.frozen? ⟨g, o, none⟩ = false := fun o => Lib.frozen_of_heap hcsg _
    have hgl := World.ownsRow.lt HB3.out.1.rt g rfl
    have hpl : p < (toSt a).sl.length := by
      have := HFIT.out.2.2.2.1 _ (List.mem_of_getElem? hjp)
      unfold rootB at this
      simp only [Bool.or_eq_true, decide_eq_true_eq] at this
      rcases this with h | h
      · omega
      · obtain ⟨i, hi, hl⟩ := isSl_in h
        rw [HAR.out.2.2]; omega
    have hB4 := HB3.out.1.rooted (j := j) (x := -1)
    have kr4 : (w3.setCell ⟨g, j, none⟩ (.int .i64 (-1))).heap[r]? = some (Obj.cells #[.slice none 0 0, .int .i64 0, .slice none 0 0] 25) := set_blk HB3.out.2.1 (fun e => by
      have := HB3.out.2.1
      rw [e, hcsg] at this
      simp only [Option.some.injEq, Obj.cells.injEq] at this
      exact absurd this.2.1 (by decide))
    have hb4 : Below w.heap.size w (w3.setCell ⟨g, j, none⟩ (.int .i64 (-1))) := HB3.out.2.2.trans (((But.refl (fun k => k = g) w3).setCell ⟨g, j, none⟩ (.int .i64 (-1)) (.inr rfl)).below HB3.out.2.2.size (fun k hk => by have := HSZ.out; omega))
    have hrel := release_any w0.heap.size bb mb d _ _ (d p + 1) p _ L _ hB4 (HWR.out (a.roots.set j (-1))) hpl (Nat.lt_succ_self _) (by simp; omega)
    have HB4 : Hid (Bld w0.heap.size bb mb { toSt a with roots := a.roots.set j (-1) } (.slice sa a.slots.length sc) (.slice (some ⟨g, 0, none⟩) a.roots.length rc) L (w3.setCell ⟨g, j, none⟩ (.int .i64 (-1))) ∧ (w3.setCell ⟨g, j, none⟩ (.int .i64 (-1))).heap[r]? = some (Obj.cells #[.slice none 0 0, .int .i64 0, .slice none 0 0] 25) ∧ Below w.heap.size w (w3.setCell ⟨g, j, none⟩ (.int .i64 (-1)))) := ⟨hB4, kr4, hb4⟩
    have hjI : (j : Int) < (a.roots.length : Int) := by omega
    have HJP : Hid (a.roots[j]? = some (p : Int)) := hjp
    clear HB3 hB4 kr4 hb4 hcsg hpl hjp r0 r1 r2 rf
    go_wp2_with fail
    refine hrel.mono ?_
    generalize w3.setCell ⟨g, j, none⟩ (.int .i64 (-1)) = w4 at *
    rintro e w5 ⟨rfl, L5, hB5, hbt5, hwr5, hl5, hk5⟩
    have kr5 := but_blk hbt5 HB4.out.2.1 (HB4.out.1.notD HB4.out.2.1 (by decide) (by decide))
    have hb5 : Below w.heap.size w w5 := HB4.out.2.2.trans (hbt5.below HB4.out.2.2.size (fun k hk => by have := (HB4.out.1.low hk).1; have := HSZ.out; omega))
    have hrt5 := relS_roots (d p + 1) { toSt a with roots := a.roots.set j (-1) } p
    have hB5 : Bld w0.heap.size bb mb (dropS a d j p) (.slice sa a.slots.length sc) (.slice (some ⟨g, 0, none⟩) a.roots.length rc) L5 w5 := hB5
    have hwr5 : Wr d (dropS a d j p) := hwr5
    have hrt5 : (dropS a d j p).roots = a.roots.set j (-1) := hrt5
    have kbb := hB5.box
    obtain ⟨fv, HFV⟩ : ∃ fv, Hid ((dropS a d j p).free = fv) := ⟨_, rfl⟩
    rw [HFV.out] at kbb
    have b0 : w5.cell? ⟨bb, 0, none⟩ = some (.slice sa a.slots.length sc) := by rw [Lib.cell_of_heap kbb]; rfl
    have b1 : w5.cell? ⟨bb, 1, none⟩ = some (.int .i64 fv) := by rw [Lib.cell_of_heap kbb]; rfl
    have b2 : w5.cell? ⟨bb, 2, none⟩ = some (.slice (some ⟨g, 0, none⟩) a.roots.length rc) := by rw [Lib.cell_of_heap kbb]; rfl
    have r0 : w5.cell? ⟨r, 0, none⟩ = some (.slice none 0 0) := by rw [Lib.cell_of_heap kr5]; rfl
    have r1 : w5.cell? ⟨r, 1, none⟩ = some (.int .i64 0) := by rw [Lib.cell_of_heap kr5]; rfl
    have r2 : w5.cell? ⟨r, 2, none⟩ = some (.slice none 0 0) := by rw [Lib.cell_of_heap kr5]; rfl
    have rf : ∀ o, w5.frozen? ⟨r, o, none⟩ = false := fun o => Lib.frozen_of_heap kr5 _
    have HE : Hid (∃ W', W' = (((w5.setCell ⟨r, 0, none⟩ (.slice sa a.slots.length sc)).setCell ⟨r, 1, none⟩ (.int .i64 fv)).setCell ⟨r, 2, none⟩ (.slice (some ⟨g, 0, none⟩) a.roots.length rc)) ∧ W'.heap[r]? = some (Obj.cells #[.slice sa a.slots.length sc, .int .i64 fv, .slice (some ⟨g, 0, none⟩) a.roots.length rc] 25) ∧ LR (.returned (.tuple #[.agg #[.slice sa a.slots.length sc, .int .i64 fv, .slice (some ⟨g, 0, none⟩) a.roots.length rc], .int .i64 0])) W') := by
      obtain ⟨h1, h2, h3⟩ := hB5.told kr5 fv
      refine ⟨_, rfl, h1, ?_⟩
      rw [HLR.out]
      refine ⟨hb5.trans (h3.below hb5.size (fun k hk => by have := HSZ.out; omega)), .inr ⟨j, p, _, rfl, HJP.out, rfl, ?_, hwr5⟩⟩
      have hm1 : i64B (-1) := ⟨by decide, by decide⟩
      have ho := h2.out hwr5.len hwr5.free (fun y hy => by
        rw [hrt5] at hy
        rcases List.mem_or_eq_of_mem_set hy with hy | rfl
        · exact HYI.out y hy
        · exact hm1) (by rw [hrt5]; show (a.roots.set j (-1)).length ≤ _; rw [List.length_set]; have := HFIT.out.2.2.1; omega)
      rw [HFV.out] at ho
      exact ho
    clear hrel hB5 hwr5 hl5 hrt5 kbb kr5 hb5 hbt5 HB4 cj fg
    go_wp2_with fail
    obtain ⟨W', e, h1, h2⟩ := HE.out
    rw [← e]
    refine bodyPost_ret (results_cell_tmp rfl _ _ _ (x := .agg #[.slice sa a.slots.length sc, .int .i64 fv, .slice (some ⟨g, 0, none⟩) a.roots.length rc]) (y := .int .i64 0) rfl rfl (run_loadVar_row _ _ _ _ _ _ _ h1 Try.underlying25 rfl (by kernel_rfl))) rfl ?_
    exact h2
end Go.Proofs.Ytoocafcagelbgaa
