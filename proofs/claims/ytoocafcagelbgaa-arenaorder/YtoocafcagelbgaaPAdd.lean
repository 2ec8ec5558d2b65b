/- Add. -/
import Derived.Test.YtoocafcagelbgaaBAdd
import Derived.Test.YtoocafcagelbgaaPLeft
namespace Go.Proofs.Ytoocafcagelbgaa
open Go.RowKit
attribute [local go_sem] Oper.semAt_some

theorem results_cell_tt {fn : Func} {p q r : Tmp} {t : TypeId} (h : fn.results = #[.cell p t, .tmp q, .tmp r]) (tmps : Array Value) (P : Program) (w : World) {a : Addr} {x y z : Value} (ha : tmps[p]?.getD undef = .pointer (some a)) (hb : tmps[q]?.getD undef = y) (hc : tmps[r]?.getD undef = z) (hx : (loadVar t a).run P w = .ok x w) :
    (results fn tmps).run P w = .ok (.tuple #[x, y, z]) w := by
  simp only [results, h]
  simp [Result.andThen, ha, hb, hc, hx, asAddr]

set_option maxRecDepth 100000 in
set_option maxHeartbeats 8000000 in
theorem add_any (a : Ar) (v : Value) (t : Nd) (vn : Value) (n : Nat) (w : World) (hv : ArV a v w) (hkl : ∀ s ∈ a.slots, s.kids.length ≤ 1000000) (hfit : fitAB a 1048576 = true) (ht : TAt (fun k => k < w.heap.size) n t vn w) (hc5 : cntN t ≤ 5000) :
    Calls Try.prog 24 #[v, vn] w fun e w' => AddR a t w e w' := by
  have hwf := toSt_wf hfit (ar_slots hv) hkl
  obtain ⟨hl1, hl2, hl3⟩ := fit_lens (a := a) (most := 1048576) (by unfold fitAB at hfit; simp only [Bool.and_eq_true] at hfit; exact hfit.1)
  have HFIT : Hid (Wf (toSt a) 4100000000 ∧ a.roots.length ≤ 4096 ∧ a.slots.length ≤ 4096) := ⟨hwf, hl2, hl1⟩
  have HAR : Hid ((toSt a).ar = a ∧ (toSt a).free = a.free ∧ (toSt a).sl.length = a.slots.length) := ⟨toSt_ar hfit, congrArg Ar.free (toSt_ar hfit), by have : (toSt a).sl.map SN.sl = a.slots := congrArg Ar.slots (toSt_ar hfit); rw [← this]; simp⟩
  have HOP : Hid (∀ W, Below w.heap.size w W → Calls Try.prog 45 #[v] W fun e w' => ∃ bv L, e = .returned (.tuple #[bv, .bool true]) ∧ BldR W.heap.size a L bv w' ∧ Below W.heap.size W w') := fun W hb => open_any a v W (hv.next hb) hkl hfit
  have HEN : Hid (∀ W, Below w.heap.size w W → Calls Try.prog 46 #[vn] W fun e w' => e = .returned (.bool true) ∧ Below W.heap.size W w') := fun W hb => ends_any n t vn W (ht.next hb) (by omega)
  have HCP : Hid (∀ W, Below w.heap.size w W → Calls Try.prog 48 #[v] W fun e w' => ∃ sa sc ra rc L, e = .returned (.agg #[.slice sa a.slots.length sc, .int .i64 a.free, .slice ra a.roots.length rc]) ∧ L.map Prod.fst = a.slots ∧ OwnS W.heap.size L (.slice sa a.slots.length sc) w' ∧ OwnI W.heap.size a.roots (.slice ra a.roots.length rc) w' ∧ (∀ p ∈ L, ∀ k, (Value.slice ra a.roots.length rc).ownBlock = some k → p.2.ownBlock ≠ some k) ∧ Below W.heap.size W w') := fun W hb => copied_any a v W (hv.next hb) hl1 hl2 hl3 hkl
  have HLY : Hid (∀ bb mb rv sv L W, Below w.heap.size w W → Bld w.heap.size bb mb (toSt a) sv rv L W → Calls Try.prog 47 #[.pointer (some ⟨bb, 0, none⟩), vn, .int .i64 0] W fun e w' => LayR w.heap.size bb mb (toSt a) sv rv L W (4100000000 + 2 * cntL t.kids + 1) (layN t (toSt a) 0) e w') := fun bb mb rv sv L W hb hB => lay_any w.heap.size bb mb rv n t vn 0 (toSt a) 4100000000 sv L W (ht.next hb) hB hwf hb.size hc5 (by omega) ⟨by decide, by decide⟩
  have HCN : Hid (cntL t.kids ≤ 5000) := by have := cntN_mk t; show _ ≤ _; omega
  obtain ⟨ba, bc, rfl, _⟩ := ht.val
  obtain ⟨sv0, rv0, rfl, ⟨ao, cap, rfl, _⟩, ⟨ya, yc, rfl, _, _, _, hyi⟩, _⟩ := hv
  have HYI : Hid (∀ y ∈ a.roots, i64B y) := hyi
  obtain ⟨LR, HLR⟩ : ∃ LR : Ending → World → Prop, Hid (LR = fun e w' => AddR a t w e w') := ⟨_, rfl⟩
  have hgoal : (fun e w' => AddR a t w e w') = LR := HLR.out.symm
  rw [hgoal]
  clear hgoal hyi hkl hfit hwf hl1 hl2 hl3 hc5 ht
  unfold ndV at *
  obtain ⟨LN, HLN⟩ : ∃ LN : St × Option Nat, LN = layN t (toSt a) 0 := ⟨_, rfl⟩
  have HLN0 : Hid (LN = layN t (toSt a) 0) := HLN
  rw [← HLN] at HLY
  clear HLN
  obtain ⟨CL, HCL⟩ : ∃ CL, CL = cntL t.kids := ⟨_, rfl⟩
  rw [← HCL] at HLY HCN
  have HCL : Hid (CL = cntL t.kids) := HCL
  generalize htk : t.kids.length = tk at *
  generalize hth : t.h = th at *
  obtain ⟨hk, hn, hf, hfr, hto, hbd⟩ := th
  simp only at *
  obtain ⟨r, HR⟩ : ∃ r, Hid (r = w.heap.size + 2) := ⟨_, rfl⟩
  have B0 : Below w.heap.size w (((w.alloc (Obj.cells #[.slice ao a.slots.length cap, .int .i64 a.free, .slice ya a.roots.length yc] 25)).alloc (Obj.cells #[.string hk, .bool hn, .string hf, .int .i64 hfr, .int .i64 hto, .int .i64 hbd, .slice ba tk bc] 32)).alloc (Obj.cells #[.slice none 0 0, .int .i64 0, .slice none 0 0] 25)) := (((Below.refl _ _).alloc (Nat.le_refl _) _).alloc (by simp) _).alloc (by simp; omega) _
  have k0 : (((w.alloc (Obj.cells #[.slice ao a.slots.length cap, .int .i64 a.free, .slice ya a.roots.length yc] 25)).alloc (Obj.cells #[.string hk, .bool hn, .string hf, .int .i64 hfr, .int .i64 hto, .int .i64 hbd, .slice ba tk bc] 32)).alloc (Obj.cells #[.slice none 0 0, .int .i64 0, .slice none 0 0] 25)).heap[w.heap.size]? = some (Obj.cells #[.slice ao a.slots.length cap, .int .i64 a.free, .slice ya a.roots.length yc] 25) := by
    rw [Below.heap_alloc _ _ _ (by simp; omega), Below.heap_alloc _ _ _ (by simp)]
    exact heap_alloc_new w _
  have kn : (((w.alloc (Obj.cells #[.slice ao a.slots.length cap, .int .i64 a.free, .slice ya a.roots.length yc] 25)).alloc (Obj.cells #[.string hk, .bool hn, .string hf, .int .i64 hfr, .int .i64 hto, .int .i64 hbd, .slice ba tk bc] 32)).alloc (Obj.cells #[.slice none 0 0, .int .i64 0, .slice none 0 0] 25)).heap[w.heap.size + 1]? = some (Obj.cells #[.string hk, .bool hn, .string hf, .int .i64 hfr, .int .i64 hto, .int .i64 hbd, .slice ba tk bc] 32) := by
    rw [Below.heap_alloc _ _ _ (by simp)]
    simpa using heap_alloc_new (w.alloc (Obj.cells #[.slice ao a.slots.length cap, .int .i64 a.free, .slice ya a.roots.length yc] 25)) (Obj.cells #[.string hk, .bool hn, .string hf, .int .i64 hfr, .int .i64 hto, .int .i64 hbd, .slice ba tk bc] 32)
  have k1 : (((w.alloc (Obj.cells #[.slice ao a.slots.length cap, .int .i64 a.free, .slice ya a.roots.length yc] 25)).alloc (Obj.cells #[.string hk, .bool hn, .string hf, .int .i64 hfr, .int .i64 hto, .int .i64 hbd, .slice ba tk bc] 32)).alloc (Obj.cells #[.slice none 0 0, .int .i64 0, .slice none 0 0] 25)).heap[r]? = some (Obj.cells #[.slice none 0 0, .int .i64 0, .slice none 0 0] 25) := by
    rw [HR.out]
    simpa using heap_alloc_new ((w.alloc (Obj.cells #[.slice ao a.slots.length cap, .int .i64 a.free, .slice ya a.roots.length yc] 25)).alloc (Obj.cells #[.string hk, .bool hn, .string hf, .int .i64 hfr, .int .i64 hto, .int .i64 hbd, .slice ba tk bc] 32)) (Obj.cells #[.slice none 0 0, .int .i64 0, .slice none 0 0] 25)
  have hc := HOP.out _ B0
  clear htk hth
  go_enter Try.func24, Try.ntmps24
  go_wp2_with fail
  refine hc.mono ?_
  generalize (((w.alloc (Obj.cells #[.slice ao a.slots.length cap, .int .i64 a.free, .slice ya a.roots.length yc] 25)).alloc (Obj.cells #[.string hk, .bool hn, .string hf, .int .i64 hfr, .int .i64 hto, .int .i64 hbd, .slice ba tk bc] 32)).alloc (Obj.cells #[.slice none 0 0, .int .i64 0, .slice none 0 0] 25)) = w0 at *
  rintro e w1 ⟨bv, L, rfl, hbr, hb1⟩
  obtain ⟨sa, sc, ra, rc, mb, rfl, hbr2⟩ := hbr
  have hbA : Below w1.heap.size w1 (w1.alloc (Obj.cells #[.slice sa a.slots.length sc, .int .i64 a.free, .slice ra a.roots.length rc, .map (some mb)] 77)) := (Below.refl _ _).alloc (Nat.le_refl _) _
  obtain ⟨bb, HBB⟩ : ∃ bb, Hid (bb = w1.heap.size) := ⟨_, rfl⟩
  have hb01 := below_next hb1 hbA
  have HB : Hid (Bld w.heap.size bb mb (toSt a) (.slice sa a.slots.length sc) (.slice ra a.roots.length rc) L (w1.alloc (Obj.cells #[.slice sa a.slots.length sc, .int .i64 a.free, .slice ra a.roots.length rc, .map (some mb)] 77)) ∧ (w1.alloc (Obj.cells #[.slice sa a.slots.length sc, .int .i64 a.free, .slice ra a.roots.length rc, .map (some mb)] 77)).heap[r]? = some (Obj.cells #[.slice none 0 0, .int .i64 0, .slice none 0 0] 25) ∧ Below w.heap.size w (w1.alloc (Obj.cells #[.slice sa a.slots.length sc, .int .i64 a.free, .slice ra a.roots.length rc, .map (some mb)] 77))) := by
    obtain ⟨h1, h2, h3, h4, h5, h6⟩ := hbr2
    have hsA : (toSt a).sl.map SN.sl = a.slots := congrArg Ar.slots HAR.out.1
    have hB : Bld w0.heap.size bb mb (toSt a) (.slice sa a.slots.length sc) (.slice ra a.roots.length rc) L (w1.alloc (Obj.cells #[.slice sa a.slots.length sc, .int .i64 a.free, .slice ra a.roots.length rc, .map (some mb)] 77)) := ⟨by rw [HAR.out.2.1, HBB.out]; exact heap_alloc_new _ _, ⟨_, Nat.le_refl _, h5.next hbA⟩, by rw [hsA]; exact h1, h2.next hbA, ownsRow_below4 h3 hbA, h4, by rw [HBB.out]; exact hb1.size, h6⟩
    exact ⟨hB.lower B0.size, (hb01.block _ (blk_lt k1)).trans k1, below_next B0 hb01⟩
  have HSZ : Hid (w.heap.size < r ∧ r < w0.heap.size) := ⟨by rw [HR.out]; omega, blk_lt k1⟩
  have HKA : Hid ((w1.alloc (Obj.cells #[.slice sa a.slots.length sc, .int .i64 a.free, .slice ra a.roots.length rc, .map (some mb)] 77)).heap[w.heap.size]? = some (Obj.cells #[.slice ao a.slots.length cap, .int .i64 a.free, .slice ya a.roots.length yc] 25) ∧ (w1.alloc (Obj.cells #[.slice sa a.slots.length sc, .int .i64 a.free, .slice ra a.roots.length rc, .map (some mb)] 77)).heap[w.heap.size + 1]? = some (Obj.cells #[.string hk, .bool hn, .string hf, .int .i64 hfr, .int .i64 hto, .int .i64 hbd, .slice ba tk bc] 32)) := ⟨(hb01.block _ (blk_lt k0)).trans k0, (hb01.block _ (blk_lt kn)).trans kn⟩
  clear hc hbA hb01 hbr2 HOP B0 k0 k1 kn hb1
  go_upto_region 2 with fail
  rw [← HBB.out]
  have eR : w.heap.size + 1 + 1 = r := by rw [HR.out]
  rw [eR]
  generalize (w1.alloc (Obj.cells #[.slice sa a.slots.length sc, .int .i64 a.free, .slice ra a.roots.length rc, .map (some mb)] 77)) = w2 at *
  have ka := HKA.out.1
  have kn := HKA.out.2
  have kr := HB.out.2.1
  have kbb := HB.out.1.box
  rw [HAR.out.2.1] at kbb
  have e0 : w2.cell? ⟨w.heap.size, 0, none⟩ = some (.slice ao a.slots.length cap) := by rw [Lib.cell_of_heap ka]; rfl
  have e1 : w2.cell? ⟨w.heap.size, 1, none⟩ = some (.int .i64 a.free) := by rw [Lib.cell_of_heap ka]; rfl
  have e2 : w2.cell? ⟨w.heap.size, 2, none⟩ = some (.slice ya a.roots.length yc) := by rw [Lib.cell_of_heap ka]; rfl
  by_cases h4 : a.roots.length = 4096
  · have d1 : ((a.roots.length : Int) == 4096) = true := by rw [h4]; rfl
    have b0 : w2.cell? ⟨bb, 0, none⟩ = some (.slice sa a.slots.length sc) := by rw [Lib.cell_of_heap kbb]; rfl
    have b1 : w2.cell? ⟨bb, 1, none⟩ = some (.int .i64 a.free) := by rw [Lib.cell_of_heap kbb]; rfl
    have b2 : w2.cell? ⟨bb, 2, none⟩ = some (.slice ra a.roots.length rc) := by rw [Lib.cell_of_heap kbb]; rfl
    have r0 : w2.cell? ⟨r, 0, none⟩ = some (.slice none 0 0) := by rw [Lib.cell_of_heap kr]; rfl
    have r1 : w2.cell? ⟨r, 1, none⟩ = some (.int .i64 0) := by rw [Lib.cell_of_heap kr]; rfl
    have r2 : w2.cell? ⟨r, 2, none⟩ = some (.slice none 0 0) := by rw [Lib.cell_of_heap kr]; rfl
    have rf : ∀ o, w2.frozen? ⟨r, o, none⟩ = false := fun o => Lib.frozen_of_heap kr _
    have H4 : Hid (a.roots.length = 4096) := h4
    clear h4 ka kn kr kbb
    have HE : Hid (∃ W', W' = (((w2.setCell ⟨r, 0, none⟩ (.slice sa a.slots.length sc)).setCell ⟨r, 1, none⟩ (.int .i64 a.free)).setCell ⟨r, 2, none⟩ (.slice ra a.roots.length rc)) ∧ W'.heap[r]? = some (Obj.cells #[.slice sa a.slots.length sc, .int .i64 a.free, .slice ra a.roots.length rc] 25) ∧ LR (.returned (.tuple #[.agg #[.slice sa a.slots.length sc, .int .i64 a.free, .slice ra a.roots.length rc], .int .i64 0, .int .i64 15])) W') := by
      obtain ⟨h1, h2, h3⟩ := HB.out.1.told HB.out.2.1 a.free
      refine ⟨_, rfl, h1, ?_⟩
      rw [HLR.out]
      have ho := h2.out (by rw [HAR.out.2.2]; exact HFIT.out.2.2) (Wf.free64 HFIT.out.1) HYI.out (by show a.roots.length ≤ _; have := HFIT.out.2.1; omega)
      rw [HAR.out.1, HAR.out.2.1] at ho
      exact ⟨HB.out.2.2.trans (h3.below HB.out.2.2.size (fun k hk => by have := HSZ.out; omega)), .inl ⟨H4.out, _, rfl, ho⟩⟩
    go_wp2_with fail
    obtain ⟨W', e, h1, h2⟩ := HE.out
    rw [← e]
    refine bodyPost_ret (results_cell_tt rfl _ _ _ (x := .agg #[.slice sa a.slots.length sc, .int .i64 a.free, .slice ra a.roots.length rc]) (y := .int .i64 0) (z := .int .i64 15) rfl rfl rfl (run_loadVar_row _ _ _ _ _ _ _ h1 Try.underlying25 rfl (by kernel_rfl))) rfl ?_
    exact h2
  have d1 : ((a.roots.length : Int) == 4096) = false := by simp; omega
  have HLT : Hid (a.roots.length < 4096) := by have := HFIT.out.2.1; show _ < _; omega
  have m0 : w2.cell? ⟨w.heap.size + 1, 0, none⟩ = some (.string hk) := by rw [Lib.cell_of_heap kn]; rfl
  have m1 : w2.cell? ⟨w.heap.size + 1, 1, none⟩ = some (.bool hn) := by rw [Lib.cell_of_heap kn]; rfl
  have m2 : w2.cell? ⟨w.heap.size + 1, 2, none⟩ = some (.string hf) := by rw [Lib.cell_of_heap kn]; rfl
  have m3 : w2.cell? ⟨w.heap.size + 1, 3, none⟩ = some (.int .i64 hfr) := by rw [Lib.cell_of_heap kn]; rfl
  have m4 : w2.cell? ⟨w.heap.size + 1, 4, none⟩ = some (.int .i64 hto) := by rw [Lib.cell_of_heap kn]; rfl
  have m5 : w2.cell? ⟨w.heap.size + 1, 5, none⟩ = some (.int .i64 hbd) := by rw [Lib.cell_of_heap kn]; rfl
  have m6 : w2.cell? ⟨w.heap.size + 1, 6, none⟩ = some (.slice ba tk bc) := by rw [Lib.cell_of_heap kn]; rfl
  have hen := HEN.out w2 HB.out.2.2
  clear h4 ka kn kr kbb HEN
  go_wp2_with fail
  refine hen.mono ?_
  rintro e w3 ⟨rfl, hb3⟩
  have kn := (hb3.block _ (blk_lt HKA.out.2)).trans HKA.out.2
  have m0 : w3.cell? ⟨w.heap.size + 1, 0, none⟩ = some (.string hk) := by rw [Lib.cell_of_heap kn]; rfl
  have m1 : w3.cell? ⟨w.heap.size + 1, 1, none⟩ = some (.bool hn) := by rw [Lib.cell_of_heap kn]; rfl
  have m2 : w3.cell? ⟨w.heap.size + 1, 2, none⟩ = some (.string hf) := by rw [Lib.cell_of_heap kn]; rfl
  have m3 : w3.cell? ⟨w.heap.size + 1, 3, none⟩ = some (.int .i64 hfr) := by rw [Lib.cell_of_heap kn]; rfl
  have m4 : w3.cell? ⟨w.heap.size + 1, 4, none⟩ = some (.int .i64 hto) := by rw [Lib.cell_of_heap kn]; rfl
  have m5 : w3.cell? ⟨w.heap.size + 1, 5, none⟩ = some (.int .i64 hbd) := by rw [Lib.cell_of_heap kn]; rfl
  have m6 : w3.cell? ⟨w.heap.size + 1, 6, none⟩ = some (.slice ba tk bc) := by rw [Lib.cell_of_heap kn]; rfl
  have HB3 : Hid (Bld w.heap.size bb mb (toSt a) (.slice sa a.slots.length sc) (.slice ra a.roots.length rc) L w3 ∧ w3.heap[r]? = some (Obj.cells #[.slice none 0 0, .int .i64 0, .slice none 0 0] 25) ∧ Below w.heap.size w w3 ∧ w3.heap[w.heap.size]? = some (Obj.cells #[.slice ao a.slots.length cap, .int .i64 a.free, .slice ya a.roots.length yc] 25)) := ⟨HB.out.1.next hb3, (hb3.block _ (blk_lt HB.out.2.1)).trans HB.out.2.1, below_next HB.out.2.2 hb3, (hb3.block _ (blk_lt HKA.out.1)).trans HKA.out.1⟩
  have hly := HLY.out bb mb _ _ L w3 HB3.out.2.2.1 HB3.out.1
  clear hen hb3 kn e0 e1 e2 HB HKA HLY
  go_wp2_with fail
  refine hly.mono ?_
  rintro e w4 ⟨hbt, ⟨p, sv2, L2, hr2, rfl, hB4, hW4, hp4, hle4, hsv4, hkb4⟩ | ⟨hr2, rfl⟩⟩
  · obtain ⟨S2, o⟩ := LN
    simp only at hr2 hB4 hW4 hp4 hle4
    subst hr2
    obtain ⟨is, his, hs0, hs1, hs2⟩ := info_parts info3
    have HLNS : Hid (layN t (toSt a) 0 = (S2, some p)) := HLN0.out.symm
    have hro : S2.roots = a.roots := by have := layN_roots t (toSt a) 0; rw [HLNS.out] at this; exact this
    obtain ⟨s, hs⟩ : ∃ s, S2.sl[p]? = some s := ⟨_, List.getElem?_eq_getElem hp4⟩
    obtain ⟨g, cap2, u, hsv, hu, hg1, hg2, hku, hcell, hfz, _⟩ := hB4.at hs
    subst hsv
    have hsr := hW4.refs s (List.mem_of_getElem? hs)
    have hcn := HCN.out
    obtain ⟨rI, hrI⟩ : ∃ rI : Int, (s.refs : Int) = rI := ⟨_, rfl⟩
    obtain ⟨rJ, hrJ⟩ : ∃ rJ : Int, ((s.refs + 1 : Nat) : Int) = rJ := ⟨_, rfl⟩
    have hw1 : IntKind.i64.wrap (rI + 1) = rJ := by rw [IntWalk.i64_in _ (by omega)]; omega
    obtain ⟨L5, hB5, hkb5⟩ := hB4.refs hs (s.refs + 1) (by omega)
    rw [hrJ] at hB5
    have hst5 : S2.setSl p { s with refs := s.refs + 1 } = { S2 with sl := bump S2.sl p } := by unfold St.setSl; rw [bump_some hs]
    rw [hst5] at hB5
    have c8 : w4.cell? ⟨g, p * 10 + 8, none⟩ = some (.int .i64 rI) := by rw [← hrI]; exact hcell 8 _ (by omega) rfl
    have b0 : w4.cell? ⟨bb, 0, none⟩ = some (.slice (some ⟨g, 0, none⟩) S2.sl.length cap2) := by rw [Lib.cell_of_heap hB4.box]; rfl
    have kr4 := but_blk hbt HB3.out.2.1 (HB3.out.1.notD HB3.out.2.1 (by decide) (by decide))
    have hb4 : Below w.heap.size w w4 := HB3.out.2.2.1.trans (hbt.below HB3.out.2.2.1.size (fun k hk => (HB3.out.1.low hk).1))
    have B45 : But (fun k => k = g) w4 (w4.setCell ⟨g, p * 10 + 8, none⟩ (.int .i64 rJ)) := (But.refl (fun k => k = g) w4).setCell _ _ (.inr rfl)
    have kr5 := but_blk B45 kr4 (fun e => own_nb hB4.own.row kr4 (by decide) (by rw [e]; rfl))
    have HW4 : Hid (Wf S2 (4100000000 + 2 * CL + 1) ∧ p < S2.sl.length ∧ S2.roots = a.roots) := ⟨hW4, hp4, hro⟩
    have HB5 : Hid (Bld w.heap.size bb mb { S2 with sl := bump S2.sl p } (.slice (some ⟨g, 0, none⟩) S2.sl.length cap2) (.slice ra a.roots.length rc) L5 (w4.setCell ⟨g, p * 10 + 8, none⟩ (.int .i64 rJ)) ∧ (w4.setCell ⟨g, p * 10 + 8, none⟩ (.int .i64 rJ)).heap[r]? = some (Obj.cells #[.slice none 0 0, .int .i64 0, .slice none 0 0] 25) ∧ Below w.heap.size w (w4.setCell ⟨g, p * 10 + 8, none⟩ (.int .i64 rJ))) := ⟨hB5, kr5, hb4.trans (B45.below hb4.size (fun k hk => by omega))⟩
    obtain ⟨n2, HN2⟩ : ∃ n2, Hid (S2.sl.length = n2) := ⟨_, rfl⟩
    rw [HN2.out] at b0 hp4 HB5
    have hpI : (p : Int) < (n2 : Int) := by omega
    clear hly hbt hB4 hW4 hle4 hsv4 hkb4 HB3 HCP hku hu hcell hs hrI hrJ hst5 hB5 hkb5 kr4 hb4 B45 kr5 hro m0 m1 m2 m3 m4 m5 m6 HLN0
    go_upto_region 12 with fail
    generalize w4.setCell ⟨g, p * 10 + 8, none⟩ (.int .i64 rJ) = w5 at *
    have k5 := HB5.out.1.box
    have b2 : w5.cell? ⟨bb, 2, none⟩ = some (.slice ra a.roots.length rc) := by rw [Lib.cell_of_heap k5]; rfl
    have BA : Below w5.heap.size w5 (w5.alloc (Obj.cells #[.int .i64 (p : Int)] 3)) := (Below.refl _ _).alloc (Nat.le_refl _) _
    have hrow5 : OwnI w.heap.size a.roots (.slice ra a.roots.length rc) w5 := by have := HB5.out.1.rt; rw [← HW4.out.2.2]; rw [← HW4.out.2.2] at this; exact this
    have HROW : Hid ((w5.alloc (Obj.cells #[.int .i64 (p : Int)] 3)).ownsRow w.heap.size 3 1 (.slice ra a.roots.length rc) a.roots.length (a.roots.map encI)) := ownsRow_below4 hrow5 BA
    have HX0 : Hid (∀ W', (w5.alloc (Obj.cells #[.int .i64 (p : Int)] 3)).grownBy W' (Value.slice ra a.roots.length rc).ownBlock → W'.cell? ⟨bb, 2, none⟩ = some (.slice ra a.roots.length rc) ∧ ∀ o, W'.frozen? ⟨bb, o, none⟩ = false) := fun W' hg => by
      have kb1 := (BA.block _ (blk_lt k5)).trans k5
      have kb2 := (hg.block _ (blk_lt kb1) (fun e => own_nb hrow5 k5 (by decide) e.symm)).trans kb1
      exact ⟨by rw [Lib.cell_of_heap kb2]; rfl, fun o => Lib.frozen_of_heap kb2 _⟩
    obtain ⟨nr, HNR⟩ : ∃ nr, Hid (a.roots.length = nr) := ⟨_, rfl⟩
    rw [HNR.out] at HROW HX0 b2 HB5
    have hnr : nr ≤ 4096 := by have := HFIT.out.2.1; have := HNR.out; omega
    have HBA : Hid (Below w5.heap.size w5 (w5.alloc (Obj.cells #[.int .i64 (p : Int)] 3))) := BA
    have hszb : w.heap.size ≤ (w5.alloc (Obj.cells #[.int .i64 (p : Int)] 3)).heap.size := by have := HB5.out.2.2.size; simp; omega
    clear k5 BA hrow5 b0 c8 hfz hw1
    go_upto_region 13 with (at_builtin; refine wpList_append_own_at _ rfl _ _ 23 rfl w.heap.size 3 is _ 1 8 Try.underlying23 his hs0 hs1 hs2 rfl (by decide) _ _ _ rfl HROW.out ⟨w5.heap.size, 0, none⟩ 1 1 [.int .i64 (p : Int)] rfl rfl (new_cell _ _ _) (fun u hu => by simp at hu; rcases hu with rfl; rfl) (by unfold maxLen; omega) (by omega) hszb ?_; intro v' w' o1 o2 o3 o4; obtain ⟨va, vc, rfl⟩ := slice_of_ownK o1; obtain ⟨x0, fx⟩ := HX0.out _ o2)
    have HJ : Hid (Bld w.heap.size bb mb (addS S2 p) (.slice (some ⟨g, 0, none⟩) n2 cap2) (.slice va (nr + 1) vc) L5 (w'.setCell ⟨bb, 2, none⟩ (.slice va (nr + 1) vc)) ∧ (w'.setCell ⟨bb, 2, none⟩ (.slice va (nr + 1) vc)).heap[r]? = some (Obj.cells #[.slice none 0 0, .int .i64 0, .slice none 0 0] 25) ∧ Below w.heap.size w (w'.setCell ⟨bb, 2, none⟩ (.slice va (nr + 1) vc))) := by
      have h5 := HB5.out.1
      have hj := h5.joined (x := (p : Int)) (rv2 := (.slice va (nr + 1) vc)) HBA.out (by
        show w'.ownsRow _ _ _ _ (S2.roots.length + 1) (S2.roots.map encI ++ _)
        rw [HW4.out.2.2, HNR.out]
        exact o1) o2 o4
      refine ⟨hj.1, but_blk hj.2.2 HB5.out.2.1 (fun e => ?_), HB5.out.2.2.trans (hj.2.2.below HB5.out.2.2.size (fun k hk => ?_))⟩
      · rcases e with e | e
        · exact own_nb h5.rt HB5.out.2.1 (by decide) e
        · exact h5.notD HB5.out.2.1 (by decide) (by decide) (.inl e)
      · rcases hk with hk | rfl
        · exact (World.ownsRow.lt h5.rt k hk).1
        · exact h5.lo.1
    clear o1 o2 o3 o4 x0 fx HX0 HROW HBA HB5 b2 hszb
    generalize w'.setCell ⟨bb, 2, none⟩ (.slice va (nr + 1) vc) = w7 at *
    obtain ⟨fv, HFV⟩ : ∃ fv, Hid ((addS S2 p).free = fv) := ⟨_, rfl⟩
    have HS13 : Hid (∀ W, Bld w.heap.size bb mb (addS S2 p) (.slice (some ⟨g, 0, none⟩) n2 cap2) (.slice va (nr + 1) vc) L5 W → W.cell? ⟨bb, 0, none⟩ = some (.slice (some ⟨g, 0, none⟩) n2 cap2) ∧ W.cell? ⟨bb, 1, none⟩ = some (.int .i64 fv) ∧ W.cell? ⟨bb, 2, none⟩ = some (.slice va (nr + 1) vc)) := fun W h => by
      have k7 := h.box
      rw [HFV.out] at k7
      exact ⟨by rw [Lib.cell_of_heap k7]; rfl, by rw [Lib.cell_of_heap k7]; rfl, by rw [Lib.cell_of_heap k7]; rfl⟩
    have kr7 := HJ.out.2.1
    have r0 : w7.cell? ⟨r, 0, none⟩ = some (.slice none 0 0) := by rw [Lib.cell_of_heap kr7]; rfl
    have r1 : w7.cell? ⟨r, 1, none⟩ = some (.int .i64 0) := by rw [Lib.cell_of_heap kr7]; rfl
    have r2 : w7.cell? ⟨r, 2, none⟩ = some (.slice none 0 0) := by rw [Lib.cell_of_heap kr7]; rfl
    have rf : ∀ o, w7.frozen? ⟨r, o, none⟩ = false := fun o => Lib.frozen_of_heap kr7 _
    have hw3 : IntKind.i64.wrap (nr : Int) = (nr : Int) := IntWalk.i64_in _ (by omega)
    obtain ⟨h1, h2, h3⟩ := HJ.out.1.told kr7 fv
    have hS13 : (fun W : World => W.cell? ⟨bb, 0, none⟩ = some (.slice (some ⟨g, 0, none⟩) n2 cap2) ∧ W.cell? ⟨bb, 1, none⟩ = some (.int .i64 fv) ∧ W.cell? ⟨bb, 2, none⟩ = some (.slice va (nr + 1) vc)) w7.drew := HS13.out _ (HJ.out.1.next (Below.refl _ _).drew)
    have hS13b : (fun W : World => W.cell? ⟨bb, 0, none⟩ = some (.slice (some ⟨g, 0, none⟩) n2 cap2) ∧ W.cell? ⟨bb, 1, none⟩ = some (.int .i64 fv) ∧ W.cell? ⟨bb, 2, none⟩ = some (.slice va (nr + 1) vc)) (((w7.setCell ⟨r, 0, none⟩ (.slice (some ⟨g, 0, none⟩) n2 cap2)).setCell ⟨r, 1, none⟩ (.int .i64 fv)).setCell ⟨r, 2, none⟩ (.slice va (nr + 1) vc)).drew := HS13.out _ (h2.next (Below.refl _ _).drew)
    have HE : Hid ((((w7.setCell ⟨r, 0, none⟩ (.slice (some ⟨g, 0, none⟩) n2 cap2)).setCell ⟨r, 1, none⟩ (.int .i64 fv)).setCell ⟨r, 2, none⟩ (.slice va (nr + 1) vc)).drew.heap[r]? = some (Obj.cells #[(.slice (some ⟨g, 0, none⟩) n2 cap2), .int .i64 fv, (.slice va (nr + 1) vc)] 25) ∧ LR (.returned (.tuple #[.agg #[(.slice (some ⟨g, 0, none⟩) n2 cap2), .int .i64 fv, (.slice va (nr + 1) vc)], .int .i64 (nr : Int), .int .i64 0])) (((w7.setCell ⟨r, 0, none⟩ (.slice (some ⟨g, 0, none⟩) n2 cap2)).setCell ⟨r, 1, none⟩ (.int .i64 fv)).setCell ⟨r, 2, none⟩ (.slice va (nr + 1) vc)).drew) := by
      refine ⟨h1, ?_⟩
      rw [HLR.out]
      have hb8 : Below w.heap.size w (((w7.setCell ⟨r, 0, none⟩ (.slice (some ⟨g, 0, none⟩) n2 cap2)).setCell ⟨r, 1, none⟩ (.int .i64 fv)).setCell ⟨r, 2, none⟩ (.slice va (nr + 1) vc)) := HJ.out.2.2.trans (h3.below HJ.out.2.2.size (fun k hk => by have := HSZ.out; omega))
      have hwf := addS_wf (p := p) HW4.out.1
      have hcn' := HCN.out
      have hp6 := hwf.len
      have hbl : (addS S2 p).sl.length = S2.sl.length := bump_len _ _
      have ho := (h2.next (Below.refl _ _).drew).out hwf.len hwf.free64 (fun y hy => by
        have hy' : y ∈ S2.roots ++ [(p : Int)] := hy
        rcases List.mem_append.1 hy' with hy' | hy'
        · rw [HW4.out.2.2] at hy'; exact HYI.out y hy'
        · simp only [List.mem_singleton] at hy'
          subst hy'
          have := HW4.out.2.1
          exact ⟨by omega, by omega⟩) (by show (S2.roots ++ [(p : Int)]).length ≤ _; rw [HW4.out.2.2]; simp; have := HFIT.out.2.1; omega)
      have hlow := (h2.next (Below.refl _ _).drew).outLow hwf.len hwf.free64 (fun y hy => by
        have hy' : y ∈ S2.roots ++ [(p : Int)] := hy
        rcases List.mem_append.1 hy' with hy' | hy'
        · rw [HW4.out.2.2] at hy'; exact HYI.out y hy'
        · simp only [List.mem_singleton] at hy'
          subst hy'
          have := HW4.out.2.1
          exact ⟨by omega, by omega⟩) (by show (S2.roots ++ [(p : Int)]).length ≤ _; rw [HW4.out.2.2]; simp; have := HFIT.out.2.1; omega)
      rw [HFV.out] at hlow
      rw [HFV.out] at ho
      exact ⟨hb8.drew, .inr (.inr ⟨HLT.out, S2, p, _, HLNS.out, by rw [HNR.out], ho, hwf.mono (by omega), HW4.out.2.1, hlow⟩)⟩
    clear h1 h2 h3 kr7 HS13 HJ
    refine wp_region_L (fun W => W.cell? ⟨bb, 0, none⟩ = some (.slice (some ⟨g, 0, none⟩) n2 cap2) ∧ W.cell? ⟨bb, 1, none⟩ = some (.int .i64 fv) ∧ W.cell? ⟨bb, 2, none⟩ = some (.slice va (nr + 1) vc)) 10 (by kernel_rfl) 10 rfl ?_
    refine wpAnyL_take' (i := 0) (v := ?_) (oi := { dst := some 59, op := Op.fieldAddr 77 (Operand.tmp 7) 0, type := 0, pos := "arena.go:38", after := #[], guard := none }) rfl (by kernel_rfl) (by kernel_rfl) (by kernel_rfl) (by kernel_rfl) rfl (fun _ _ _ h => h) (Or.inl ⟨by rfl, ?_⟩) hS13 ?_
    rotate_left
    · intro W hSW
      go_simp
      try with_reducible rfl
    simp only [Act.put, List.setIfInBounds_toArray, List.set_cons_zero, List.set_cons_succ]
    refine wpAnyL_take' (i := 1) (v := ?_) (oi := { dst := some 60, op := Op.load 25 (Operand.tmp 59), type := 25, pos := "arena.go:38", after := #[{ on := 0, ground := Ground.data }], guard := none }) rfl (by kernel_rfl) (by kernel_rfl) (by kernel_rfl) (by kernel_rfl) rfl (fun _ _ _ h => h) (Or.inl ⟨by rfl, ?_⟩) hS13 ?_
    rotate_left
    · intro W hSW
      go_simp
      try with_reducible rfl
    simp only [Act.put, List.setIfInBounds_toArray, List.set_cons_zero, List.set_cons_succ]
    refine wpAnyL_take' (i := 2) (v := ?_) (oi := { dst := some 61, op := Op.fieldAddr 77 (Operand.tmp 7) 0, type := 0, pos := "arena.go:38", after := #[], guard := none }) rfl (by kernel_rfl) (by kernel_rfl) (by kernel_rfl) (by kernel_rfl) rfl (fun _ _ _ h => h) (Or.inl ⟨by rfl, ?_⟩) hS13 ?_
    rotate_left
    · intro W hSW
      go_simp
      try with_reducible rfl
    simp only [Act.put, List.setIfInBounds_toArray, List.set_cons_zero, List.set_cons_succ]
    refine wpAnyL_take' (i := 3) (v := ?_) (oi := { dst := some 62, op := Op.fieldAddr 25 (Operand.tmp 61) 2, type := 0, pos := "arena.go:38", after := #[{ on := 2, ground := Ground.data }], guard := none }) rfl (by kernel_rfl) (by kernel_rfl) (by kernel_rfl) (by kernel_rfl) rfl (fun _ _ _ h => h) (Or.inl ⟨by rfl, ?_⟩) hS13 ?_
    rotate_left
    · intro W hSW
      go_simp
      try with_reducible rfl
    simp only [Act.put, List.setIfInBounds_toArray, List.set_cons_zero, List.set_cons_succ]
    refine wpAnyL_take' (i := 4) (v := ?_) (oi := { dst := some 63, op := Op.load 23 (Operand.tmp 62), type := 23, pos := "arena.go:38", after := #[{ on := 3, ground := Ground.data }], guard := none }) rfl (by kernel_rfl) (by kernel_rfl) (by kernel_rfl) (by kernel_rfl) rfl (fun _ _ _ h => h) (Or.inl ⟨by rfl, ?_⟩) hS13 ?_
    rotate_left
    · intro W hSW
      go_simp
      try with_reducible rfl
    simp only [Act.put, List.setIfInBounds_toArray, List.set_cons_zero, List.set_cons_succ]
    refine wpAnyL_take' (i := 5) (v := ?_) (oi := { dst := some 64, op := Op.call { callee := Callee.builtin Builtin.len, args := #[Operand.tmp 63], argTypes := #[23] }, type := 3, pos := "arena.go:38", after := #[{ on := 4, ground := Ground.data }], guard := none }) rfl (by kernel_rfl) (by kernel_rfl) (by kernel_rfl) (by kernel_rfl) rfl (fun _ _ _ h => h) (Or.inl ⟨by rfl, ?_⟩) hS13 ?_
    rotate_left
    · intro W hSW
      go_simp
      try with_reducible rfl
    simp only [Act.put, List.setIfInBounds_toArray, List.set_cons_zero, List.set_cons_succ]
    refine wpAnyL_take' (i := 6) (v := ?_) (oi := { dst := some 65, op := Op.binOp BinOp.sub 3 (Operand.tmp 64) (Operand.const (Value.int IntKind.i64 1)) 3, type := 3, pos := "arena.go:38", after := #[{ on := 5, ground := Ground.data }, { on := 7, ground := Ground.gcOnly Departure.lateStores }], guard := none }) rfl (by kernel_rfl) (by kernel_rfl) (by kernel_rfl) (by kernel_rfl) rfl (fun _ _ _ h => h) (Or.inl ⟨by rfl, ?_⟩) hS13 ?_
    rotate_left
    · intro W hSW
      go_simp
      try with_reducible rfl
    simp only [Act.put, List.setIfInBounds_toArray, List.set_cons_zero, List.set_cons_succ]
    refine wpAnyL_one' (i := 7) (o := { dst := none, op := Op.store 25 (Operand.tmp 4) (Operand.tmp 60), type := 0, pos := "arena.go:38", after := #[{ on := 1, ground := Ground.data }, { on := 0, ground := Ground.phase }, { on := 1, ground := Ground.phase }, { on := 2, ground := Ground.textOnly Departure.lateStores }, { on := 3, ground := Ground.textOnly Departure.lateStores }, { on := 4, ground := Ground.textOnly Departure.lateStores }, { on := 5, ground := Ground.textOnly Departure.lateStoresUnsure }, { on := 6, ground := Ground.textOnly Departure.lateStores }], guard := none }) (by kernel_rfl) rfl rfl (fun K hK => ?_)
    go_simp
    refine hK.out _ _ (fun _ => hS13b) ?_
    clear hK K
    refine wpAnyL_take' (i := 8) (v := ?_) (oi := { dst := some 5, op := Op.assign (Operand.tmp 65), type := 3, pos := "arena.go:38", after := #[{ on := 6, ground := Ground.data }, { on := 7, ground := Ground.chain }, { on := 0, ground := Ground.phase }, { on := 1, ground := Ground.phase }, { on := 2, ground := Ground.phase }, { on := 3, ground := Ground.phase }, { on := 4, ground := Ground.phase }, { on := 5, ground := Ground.phase }, { on := 6, ground := Ground.phase }, { on := 7, ground := Ground.phase }], guard := none }) rfl (by kernel_rfl) (by kernel_rfl) (by kernel_rfl) (by kernel_rfl) rfl (fun _ _ _ h => h) (Or.inl ⟨by rfl, ?_⟩) hS13b ?_
    rotate_left
    · intro W hSW
      go_simp
      try with_reducible rfl
    simp only [Act.put, List.setIfInBounds_toArray, List.set_cons_zero, List.set_cons_succ]
    refine wpAnyL_take' (i := 9) (v := ?_) (oi := { dst := some 6, op := Op.assign (Operand.const (Value.int IntKind.i64 0)), type := 33, pos := "arena.go:38", after := #[{ on := 8, ground := Ground.chain }, { on := 0, ground := Ground.phase }, { on := 1, ground := Ground.phase }, { on := 2, ground := Ground.phase }, { on := 3, ground := Ground.phase }, { on := 4, ground := Ground.phase }, { on := 5, ground := Ground.phase }, { on := 6, ground := Ground.phase }, { on := 7, ground := Ground.phase }, { on := 8, ground := Ground.phase }], guard := none }) rfl (by kernel_rfl) (by kernel_rfl) (by kernel_rfl) (by kernel_rfl) rfl (fun _ _ _ h => h) (Or.inl ⟨by rfl, ?_⟩) hS13b ?_
    rotate_left
    · intro W hSW
      go_simp
      try with_reducible rfl
    simp only [Act.put, List.setIfInBounds_toArray, List.set_cons_zero, List.set_cons_succ]
    refine wpAnyL_done (by kernel_rfl) ?_ _
    obtain ⟨h1, h2⟩ := HE.out
    go_wp2_with fail
    refine bodyPost_ret (results_cell_tt rfl _ _ _ (x := .agg #[(.slice (some ⟨g, 0, none⟩) n2 cap2), .int .i64 fv, (.slice va (nr + 1) vc)]) (y := .int .i64 (nr : Int)) (z := .int .i64 0) rfl rfl rfl (run_loadVar_row _ _ _ _ _ _ _ h1 Try.underlying25 rfl (by kernel_rfl))) rfl ?_
    exact h2
  · -- no room
    have ka := but_blk hbt HB3.out.2.2.2 (HB3.out.1.notD HB3.out.2.2.2 (by decide) (by decide))
    have kr := but_blk hbt HB3.out.2.1 (HB3.out.1.notD HB3.out.2.1 (by decide) (by decide))
    have hb4 : Below w.heap.size w w4 := HB3.out.2.2.1.trans (hbt.below HB3.out.2.2.1.size (fun k hk => (HB3.out.1.low hk).1))
    have e0 : w4.cell? ⟨w.heap.size, 0, none⟩ = some (.slice ao a.slots.length cap) := by rw [Lib.cell_of_heap ka]; rfl
    have e1 : w4.cell? ⟨w.heap.size, 1, none⟩ = some (.int .i64 a.free) := by rw [Lib.cell_of_heap ka]; rfl
    have e2 : w4.cell? ⟨w.heap.size, 2, none⟩ = some (.slice ya a.roots.length yc) := by rw [Lib.cell_of_heap ka]; rfl
    have hcp := HCP.out w4 hb4
    have H4 : Hid (Below w.heap.size w w4 ∧ w4.heap[r]? = some (Obj.cells #[.slice none 0 0, .int .i64 0, .slice none 0 0] 25) ∧ LN.2 = none) := ⟨hb4, kr, hr2⟩
    clear hly hbt ka kr hb4 HCP HB3 hr2 m0 m1 m2 m3 m4 m5 m6
    go_wp2_with fail
    refine hcp.mono ?_
    rintro e w5 ⟨sa5, sc5, ra5, rc5, L5, rfl, hL5, hO5, hR5, _, hb5⟩
    have kr := (hb5.block _ (blk_lt H4.out.2.1)).trans H4.out.2.1
    have r0 : w5.cell? ⟨r, 0, none⟩ = some (.slice none 0 0) := by rw [Lib.cell_of_heap kr]; rfl
    have r1 : w5.cell? ⟨r, 1, none⟩ = some (.int .i64 0) := by rw [Lib.cell_of_heap kr]; rfl
    have r2 : w5.cell? ⟨r, 2, none⟩ = some (.slice none 0 0) := by rw [Lib.cell_of_heap kr]; rfl
    have rf : ∀ o, w5.frozen? ⟨r, o, none⟩ = false := fun o => Lib.frozen_of_heap kr _
    have HE : Hid (∃ W', W' = (((w5.setCell ⟨r, 0, none⟩ (.slice sa5 a.slots.length sc5)).setCell ⟨r, 1, none⟩ (.int .i64 a.free)).setCell ⟨r, 2, none⟩ (.slice ra5 a.roots.length rc5)) ∧ W'.heap[r]? = some (Obj.cells #[.slice sa5 a.slots.length sc5, .int .i64 a.free, .slice ra5 a.roots.length rc5] 25) ∧ LR (.returned (.tuple #[.agg #[.slice sa5 a.slots.length sc5, .int .i64 a.free, .slice ra5 a.roots.length rc5], .int .i64 0, .int .i64 22])) W') := by
      have p1 := blk_set (o := 0) kr (.slice sa5 a.slots.length sc5)
      have p2 := blk_set (o := 1) p1 (.int .i64 a.free)
      have p3 := blk_set (o := 2) p2 (.slice ra5 a.roots.length rc5)
      have B3 : But (fun k => k = r) w5 (((w5.setCell ⟨r, 0, none⟩ (.slice sa5 a.slots.length sc5)).setCell ⟨r, 1, none⟩ (.int .i64 a.free)).setCell ⟨r, 2, none⟩ (.slice ra5 a.roots.length rc5)) := (((But.refl (fun k => k = r) w5).setCell ⟨r, 0, none⟩ _ (.inr rfl)).setCell ⟨r, 1, none⟩ _ (.inr rfl)).setCell ⟨r, 2, none⟩ _ (.inr rfl)
      refine ⟨_, rfl, by simpa using p3, ?_⟩
      rw [HLR.out]
      have hrl := blk_lt H4.out.2.1
      have hwb := below_next H4.out.1 hb5
      have hO := hO5.keep B3 (fun k hk => by omega)
      have hR := ownsRow_keep hR5 B3 (fun j hj e => by have := (World.ownsRow.lt hR5 j hj).1; omega)
      have hlen : L5.length = a.slots.length := by rw [← hL5]; simp
      refine ⟨hwb.trans (B3.below hwb.size (fun k hk => by have := HSZ.out; omega)), .inr (.inl ⟨HLT.out, by rw [← HLN0.out]; exact H4.out.2.2, _, rfl, ⟨_, _, rfl, ?_, sli_own hR HYI.out, by rw [← HAR.out.2.1]; exact Wf.free64 HFIT.out.1, by have := HFIT.out.2.1; omega⟩⟩)⟩
      rw [← hL5]
      have := hO.sl (by rw [hlen]; have := HFIT.out.2.2; omega)
      rw [hL5] at this ⊢
      exact this
    clear hcp hO5 hR5 hb5 kr hL5
    go_wp2_with fail
    obtain ⟨W', e, h1, h2⟩ := HE.out
    rw [← e]
    refine bodyPost_ret (results_cell_tt rfl _ _ _ (x := .agg #[.slice sa5 a.slots.length sc5, .int .i64 a.free, .slice ra5 a.roots.length rc5]) (y := .int .i64 0) (z := .int .i64 22) rfl rfl rfl (run_loadVar_row _ _ _ _ _ _ _ h1 Try.underlying25 rfl (by kernel_rfl))) rfl ?_
    exact h2
end Go.Proofs.Ytoocafcagelbgaa
