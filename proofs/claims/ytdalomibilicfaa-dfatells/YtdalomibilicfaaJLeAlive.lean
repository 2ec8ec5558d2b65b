/- Texts joined: LeAlive, LeAlike. -/
import Derived.Test.YtdalomibilicfaaLeFull
/- The document's Least: which states live; which two are alike. -/
namespace Go.Proofs.Ytdalomibilicfaa
open Go.RowKit Go.Shelf

theorem grid_at {l : List Ds} {nv : Value} {w : World} (h : SlR (gridG l) nv w) {i : Nat} (hi : i < l.length) :
    ∃ gb go gc rb ro rc, nv = .slice (some ⟨gb, go, none⟩) l.length gc ∧ ∀ V, Below w.heap.size w V → V.cell? ⟨gb, go + i, none⟩ = some (.slice (some ⟨rb, ro, none⟩) 256 rc) ∧ ∀ z : Nat, z < 256 → V.cell? ⟨rb, ro + z, none⟩ = some (.int .i64 (ledD l i z)) := by
  have hlen : (gridG l).length = l.length := by simp [gridG]
  obtain ⟨ao, gc, rfl, hr, _⟩ := h
  have hg : (gridG l)[i]? = some (rowG l i) := by simp [gridG, hi]
  obtain ⟨gb, go, v, rfl, hb, c0, hs⟩ := hr i _ hg
  obtain ⟨ro', rc, rfl, hrow, _⟩ := hs
  have hrl : (rowG l i).length = 256 := by simp [rowG]
  obtain ⟨rb, ro, rfl, hrb, _⟩ := hrow 0 (ledD l i ((0 : Nat) : Int)) (by simp [rowG])
  refine ⟨gb, go, gc, rb, ro, rc, by rw [hlen], fun V hV => ⟨?_, fun z hz => ?_⟩⟩
  · rw [hrl] at c0
    exact (hV.cell (p := ⟨gb, go + i, none⟩) hb).trans c0
  · obtain ⟨b, o, e, hb2, c2⟩ := hrow z (ledD l i (z : Int)) (by simp [rowG, hz])
    cases e
    exact (hV.cell (p := ⟨rb, ro + z, none⟩) hb2).trans c2
theorem acc_at {l : List Ds} {av : Value} {w : World} (h : SlI (l.map Ds.acc) av w) {i : Nat} (hi : i < l.length) :
    ∃ ab ao ac, av = .slice (some ⟨ab, ao, none⟩) l.length ac ∧ ∀ V, Below w.heap.size w V → V.cell? ⟨ab, ao + i, none⟩ = some (.int .i64 (accD l i)) := by
  obtain ⟨x, ac, rfl, hr, _⟩ := h
  obtain ⟨ab, ao, rfl, hb, c0⟩ := hr i (accD l i) (by rw [(arcsD_mem hi).2]; simp [hi])
  exact ⟨ab, ao, ac, by rw [List.length_map], fun V hV => (hV.cell (p := ⟨ab, ao + i, none⟩) hb).trans c0⟩
theorem infoBl : (Try.prog.info? 4).map (fun i => (i.zero, i.size, i.bytes)) = some (some (.bool false), 1, 1) := by kernel_rfl
def b2m (b : Bool) : Nat := if b then 1 else 0
/-- What lives, as it is known so far, in memory. -/
structure AlP (l : List Ds) (nv av : Value) (w : World) (G : Nat) (tb : List Bool) (V : World) : Prop where
  at_ : AlvT l tb
  bel : Below w.heap.size w V
  bx : V.heap[w.heap.size]? = some (Obj.cells #[nv, av] 68)
  own : V.ownsRow (w.heap.size + 1) 4 1 (.slice (some ⟨G, 0, none⟩) l.length l.length) l.length (tb.map encB)
theorem AlP.put {l : List Ds} {nv av : Value} {w : World} {G : Nat} {tb : List Bool} {V : World} (h : AlP l nv av w G tb V) {i : Nat} (hs : stepA l tb i) : AlP l nv av w G (tb.set i true) (V.setCell ⟨G, i, none⟩ (.bool true)) := by
  have hg : w.heap.size + 1 ≤ G := (World.ownsRow.lt h.own G rfl).1
  have b1 : But (fun k => k = G) V (V.setCell ⟨G, i, none⟩ (.bool true)) := (But.refl _ _).setCell _ _ (.inr rfl)
  refine ⟨h.at_.put hs, below_but h.bel b1 (Nat.le_refl _) (fun k hk => by omega), but_blk b1 h.bx (by omega), ?_⟩
  have h9 := (World.ownsRow.stored h.own i (.bool true)).1
  rw [List.map_set]
  exact h9
theorem AlP.facts {l : List Ds} {nv av : Value} {w : World} {G : Nat} {tb : List Bool} {V : World} (h : AlP l nv av w G tb V) {i : Nat} (hi : i < l.length) : ∃ O, tb[i]? = some O ∧ V.cell? ⟨G, i, none⟩ = some (.bool O) ∧ V.frozen? ⟨G, i, none⟩ = false := by
  have e : tb[i]? = some (tb[i]'(by rw [h.at_.len]; exact hi)) := List.getElem?_eq_getElem _
  exact ⟨_, e, own_cells1 h.own (by rw [List.getElem?_map, e]; rfl), World.ownsRow.frozenAt h.own _⟩
/-- A round so far. -/
def RdA (l : List Ds) (tb tb' : List Bool) (b : Bool) (i : Nat) : Prop := (b = false → tb' = tb ∧ ∀ j : Nat, j < i → stepA l tb j → tb[j]? = some true) ∧ (b = true → cntF tb' < cntF tb)
theorem RdA.no {l : List Ds} {tb tb' : List Bool} {b : Bool} {i : Nat} (h : RdA l tb tb' b i) (hn : tb'[i]? = some true ∨ ¬ stepA l tb' i) : RdA l tb tb' b (i + 1) := by
  refine ⟨fun e => ⟨(h.1 e).1, fun j hj hs => ?_⟩, h.2⟩
  by_cases hji : j = i
  · subst hji
    rw [(h.1 e).1] at hn
    rcases hn with hn | hn
    · exact hn
    · exact absurd hs hn
  · exact (h.1 e).2 j (by omega) hs
theorem RdA.yes {l : List Ds} {tb tb' : List Bool} {b : Bool} {i : Nat} (h : RdA l tb tb' b i) (ho : tb'[i]? = some false) : RdA l tb (tb'.set i true) true (i + 1) := by
  refine ⟨fun e => (by cases e), fun _ => ?_⟩
  have h1 := cntF_set tb' i ho
  cases b with
  | true => have := h.2 rfl; omega
  | false => rw [(h.1 rfl).1] at h1 ⊢; exact h1

set_option maxRecDepth 100000 in
set_option maxHeartbeats 3200000 in
theorem alive_any (l : List Ds) (nv av : Value) (w : World) (hG : SlR (gridG l) nv w) (hA : SlI (l.map Ds.acc) av w) (hf : fitD l) (hn : l.length ≤ 60) :
    Calls Try.prog 56 #[.agg #[nv, av]] w fun e w' => ∃ bv tb, e = .returned bv ∧ SlB tb bv w' ∧ tb.length = l.length ∧ (∀ i : Nat, i < l.length → (tb[i]? = some true ↔ liveD l i)) ∧ Below w.heap.size w w' := by
  have HG : Hid (∀ i : Nat, i < l.length → ∃ gb go gc rb ro rc, nv = .slice (some ⟨gb, go, none⟩) l.length gc ∧ ∀ V, Below w.heap.size w V → V.cell? ⟨gb, go + i, none⟩ = some (.slice (some ⟨rb, ro, none⟩) 256 rc) ∧ ∀ z : Nat, z < 256 → V.cell? ⟨rb, ro + z, none⟩ = some (.int .i64 (ledD l i z))) := fun i hi => grid_at hG hi
  have HA : Hid (∀ i : Nat, i < l.length → ∃ ab ao ac, av = .slice (some ⟨ab, ao, none⟩) l.length ac ∧ ∀ V, Below w.heap.size w V → V.cell? ⟨ab, ao + i, none⟩ = some (.int .i64 (accD l i))) := fun i hi => acc_at hA hi
  have HFF : Hid (fitD l) := hf
  obtain ⟨na, nc, rfl, _⟩ := hG
  obtain ⟨aa, ac, rfl, _⟩ := hA
  rw [show (gridG l).length = l.length by simp [gridG], show (l.map Ds.acc).length = l.length by simp] at *
  obtain ⟨w0, hw0⟩ : ∃ w0, w0 = w.alloc (Obj.cells #[.slice na l.length nc, .slice aa l.length ac] 68) := ⟨_, rfl⟩
  have hb0 : Below w.heap.size w w0 := by rw [hw0]; exact (Below.refl _ _).alloc (Nat.le_refl _) _
  have hx0 : w0.heap[w.heap.size]? = some (Obj.cells #[.slice na l.length nc, .slice aa l.length ac] 68) := by rw [hw0]; exact heap_alloc_new _ _
  have hs0 : w.heap.size + 1 ≤ w0.heap.size := by rw [hw0]; simp
  have x0 : w0.cell? ⟨w.heap.size, 0, none⟩ = some (.slice na l.length nc) := by rw [Lib.cell_of_heap hx0]; rfl
  obtain ⟨ii, hii, hz0, hz1, hz2⟩ := info_parts infoBl
  obtain ⟨wm, hm1, hm2, hm3⟩ := run_makeSlice_full (P := Try.prog) w0 w0.heap.size 59 4 ii _ 1 Try.underlying59 hii hz0 hz1 .i64 .i64 l.length (by omega) (by rw [hz2]; omega) (by unfold maxLen; omega) (Nat.le_refl _)
  have HP0 : Hid (AlP l (.slice na l.length nc) (.slice aa l.length ac) w w0.heap.size (List.replicate l.length false) wm) := by
    have hb1 : Below w0.heap.size w0 wm := (but_grown (A := fun _ => False) hm3 (fun r h => by cases h)).below (Nat.le_refl _) (fun _ h => h.elim)
    refine ⟨AlvT.start l, hb0.trans (hb1.mono hb0.size), (hb1.block _ (blk_lt hx0)).trans hx0, ?_⟩
    have h1 : (madeCells (Value.bool false).cells (l.length * 1)).toList = List.replicate l.length (encB false) := by rw [Nat.mul_one]; exact toList_madeCells_one _ _
    rw [List.map_replicate, ← h1]
    exact own_mono hm2 hs0
  go_enter Try.func56, Try.ntmps56
  go_upto_region 1 with fail
  rw [← hw0]
  clear hw0 hm2 hm3 hb0 hx0 hf
  go_wp2_with fail
  clear hm1 x0
  go_loopg [4] (2 * cntF (List.replicate l.length false) + 1) (fun k ag wr => ∃ (b : Bool) (tb : List Bool), ag = .bool b ∧ k = 2 * cntF tb + b2m b ∧ Hid (AlP l (.slice na l.length nc) (.slice aa l.length ac) w w0.heap.size tb wr ∧ (b = false → ∀ i : Nat, i < l.length → stepA l tb i → tb[i]? = some true)))
  case atStart => exact ⟨true, _, rfl, rfl, HP0.out, fun h => (by cases h)⟩
  case round =>
    rename World => wo
    clear HP0
    obtain ⟨b, tb, rfl, rfl, HX⟩ := hrel
    cases b with
    | false =>
      have HZ : Hid (SlB tb (.slice (some ⟨w0.heap.size, 0, none⟩) l.length l.length) wo ∧ tb.length = l.length ∧ (∀ i : Nat, i < l.length → (tb[i]? = some true ↔ liveD l i)) ∧ Below w.heap.size w wo) := by
        obtain ⟨h1, h2⟩ := HX.out
        have hl := h1.at_.len
        refine ⟨⟨some ⟨w0.heap.size, 0, none⟩, l.length, by rw [hl], fun i x hx => ⟨w0.heap.size, 0, rfl, (World.ownsRow.lt h1.own w0.heap.size rfl).2, ?_⟩, (fun e => by cases e), by rw [hl]; exact Nat.le_refl _⟩, hl, h1.at_.all HFF.out (h2 rfl), h1.bel⟩
        rw [Nat.zero_add]
        exact own_cells1 h1.own (by rw [List.getElem?_map, hx]; rfl)
      clear HX HG HA HFF
      go_wp2_with fail
      go_ret
      exact ⟨_, tb, rfl, HZ.out.1, HZ.out.2.1, HZ.out.2.2.1, HZ.out.2.2.2⟩
    | true =>
    have HY : Hid (AlP l (.slice na l.length nc) (.slice aa l.length ac) w w0.heap.size tb wo) := HX.out.1
    clear HX
    go_wp2_with fail
    go_loopw [4, 5] (fun ag iv wx => ∃ (b : Bool) (i : Nat) (tb' : List Bool), ag = .bool b ∧ iv = .int .i64 i ∧ i ≤ l.length ∧ Hid (AlP l (.slice na l.length nc) (.slice aa l.length ac) w w0.heap.size tb' wx ∧ RdA l tb tb' b i)) (fun _ i _ => l.length - (intOf i).toNat)
    case atStart => exact ⟨false, 0, tb, rfl, rfl, Nat.zero_le _, HY.out, fun _ => ⟨rfl, fun j hj => by omega⟩, fun h => (by cases h)⟩
    case round =>
      rename World => wx
      clear HY
      obtain ⟨b, i, tb', rfl, rfl, hi, HI⟩ := hrel
      by_cases hlt : i < l.length
      case neg =>
        obtain rfl : i = l.length := by omega
        have d1 : decide ((l.length : Int) < l.length) = false := decide_eq_false (by omega)
        have HE : Hid ((AlP l (.slice na l.length nc) (.slice aa l.length ac) w w0.heap.size tb' wx ∧ (b = false → ∀ i : Nat, i < l.length → stepA l tb' i → tb'[i]? = some true)) ∧ 2 * cntF tb' + b2m b < 2 * cntF tb + b2m true) := by
          obtain ⟨h1, h2, h3⟩ := HI.out
          refine ⟨⟨h1, fun e => ?_⟩, ?_⟩
          · rw [(h2 e).1]; exact (h2 e).2
          · cases b with
            | true => have := h3 rfl; simp only [b2m]; omega
            | false => rw [(h2 rfl).1]; simp [b2m]
        clear HI HG HA HFF
        go_wp2_with fail
        go_roundg (2 * cntF tb' + b2m b)
        case measure => exact HE.out.2
        case rel => exact ⟨b, tb', rfl, rfl, HE.out.1⟩
      obtain ⟨O, hO, kO, kf⟩ := HI.out.1.facts hlt
      obtain ⟨ab, ao, ac', e1, hac⟩ := HA.out i hlt
      cases e1
      obtain ⟨gb, go, gc, rb, ro, rc, e2, hgr⟩ := HG.out i hlt
      cases e2
      have a0 := hac wx HI.out.1.bel
      obtain ⟨g0, hg1⟩ := hgr wx HI.out.1.bel
      have HROW : Hid (∀ z : Nat, z < 256 → wx.cell? ⟨rb, ro + z, none⟩ = some (.int .i64 (ledD l i z))) := hg1
      have x0 : wx.cell? ⟨w.heap.size, 0, none⟩ = some (.slice (some ⟨gb, go, none⟩) l.length nc) := by rw [Lib.cell_of_heap HI.out.1.bx]; rfl
      have x1 : wx.cell? ⟨w.heap.size, 1, none⟩ = some (.slice (some ⟨ab, ao, none⟩) l.length ac) := by rw [Lib.cell_of_heap HI.out.1.bx]; rfl
      have HYES : Hid (stepA l tb' i → O = false → AlP l (.slice (some ⟨gb, go, none⟩) l.length nc) (.slice (some ⟨ab, ao, none⟩) l.length ac) w w0.heap.size (tb'.set i true) (wx.setCell ⟨w0.heap.size, i, none⟩ (.bool true)) ∧ RdA l tb (tb'.set i true) true (i + 1)) := fun hs ho => ⟨HI.out.1.put hs, HI.out.2.yes (by rw [hO, ho])⟩
      have HNO : Hid (O = true ∨ ¬ stepA l tb' i → AlP l (.slice (some ⟨gb, go, none⟩) l.length nc) (.slice (some ⟨ab, ao, none⟩) l.length ac) w w0.heap.size tb' wx ∧ RdA l tb tb' b (i + 1)) := fun h => ⟨HI.out.1, HI.out.2.no (h.imp (fun e => by rw [hO, e]) id)⟩
      have HOUT : Hid (∀ q : Nat, q < l.length → ∃ O2, tb'[q]? = some O2 ∧ wx.cell? ⟨w0.heap.size, q, none⟩ = some (.bool O2)) := fun q hq => by
        obtain ⟨O2, h1, h2, _⟩ := HI.out.1.facts hq
        exact ⟨O2, h1, h2⟩
      have HLED : Hid (∀ z : Int, okS l.length (ledD l i z)) := fun z => led_ok HFF.out ⟨by omega, by omega⟩ z
      have d1 : decide ((i : Int) < l.length) = true := decide_eq_true (by omega)
      obtain ⟨ax, hax⟩ : ∃ a, accD l i = a := ⟨_, rfl⟩
      rw [hax] at a0
      have HSA : Hid (accD l i = ax) := hax
      obtain ⟨s0, hs0'⟩ : ∃ s, decide (ax ≥ 0) = s := ⟨_, rfl⟩
      have HS0 : Hid ((s0 = true → stepA l tb' i) ∧ (s0 = false → accD l i < 0 ∧ ∀ z : Nat, z < 0 → ¬ (0 ≤ ledD l i z ∧ tb'[(ledD l i z).toNat]? = some true))) := by
        refine ⟨fun e => .inl ?_, fun e => ⟨?_, fun z hz => by omega⟩⟩
        · rw [HSA.out]; rw [e] at hs0'; exact of_decide_eq_true hs0'
        · rw [HSA.out]; rw [e] at hs0'; have := of_decide_eq_false hs0'; omega
      clear hac hgr hg1 hO HI HG HA HFF hax
      go_wp2_with fail
      clear hs0' a0 x1 d1
      go_loopw [6, 7] (fun sv cv wq => ∃ (s : Bool) (c : Nat), sv = .bool s ∧ cv = .int .i64 c ∧ c ≤ 256 ∧ wq = wx ∧ Hid ((s = true → stepA l tb' i) ∧ (s = false → accD l i < 0 ∧ ∀ z : Nat, z < c → ¬ (0 ≤ ledD l i z ∧ tb'[(ledD l i z).toNat]? = some true)))) (fun _ c _ => 256 - (intOf c).toNat)
      case atStart => exact ⟨s0, 0, rfl, rfl, by omega, rfl, HS0.out⟩
      case round =>
        clear HS0
        obtain ⟨s, c, rfl, rfl, hc, hwq, HS⟩ := hrel
        obtain rfl := hwq.symm
        clear hwq
        by_cases hgo : c < 256 ∧ s = false ∧ O = false
        · obtain ⟨hc2, rfl, rfl⟩ := hgo
          have d2 : decide ((c : Int) < 256) = true := decide_eq_true (by omega)
          have r0 := HROW.out c hc2
          have hok := HLED.out (c : Int)
          have HC : Hid ((0 ≤ ledD l i c ∧ tb'[(ledD l i c).toNat]? = some true) → stepA l tb' i) := fun h => .inr ⟨c, hc2, h.1, h.2⟩
          have HNC : Hid (¬ (0 ≤ ledD l i c ∧ tb'[(ledD l i c).toNat]? = some true) → accD l i < 0 ∧ ∀ z : Nat, z < c + 1 → ¬ (0 ≤ ledD l i z ∧ tb'[(ledD l i z).toNat]? = some true)) := fun h => by
            refine ⟨(HS.out.2 rfl).1, fun z hz => ?_⟩
            by_cases e : z = c
            · rw [e]; exact h
            · exact (HS.out.2 rfl).2 z (by omega)
          clear HS HYES HNO
          generalize ledD l i (c : Int) = q at *
          by_cases hq : 0 ≤ q
          · obtain ⟨q, rfl⟩ : ∃ n : Nat, q = n := ⟨q.toNat, by omega⟩
            obtain ⟨O2, hO2, kO2⟩ := HOUT.out q (by have := hok.2; omega)
            have d3 : decide ((q : Int) ≥ 0) = true := decide_eq_true hq
            have hql : q < l.length := by have := hok.2; omega
            simp only [Int.toNat_natCast] at HC HNC
            have HE : Hid ((O2 = true → stepA l tb' i) ∧ (O2 = false → accD l i < 0 ∧ ∀ z : Nat, z < c + 1 → ¬ (0 ≤ ledD l i z ∧ tb'[(ledD l i z).toNat]? = some true))) :=
              ⟨fun e => HC.out ⟨hq, by rw [hO2, e]⟩, fun e => HNC.out (fun h => by rw [hO2, e] at h; cases h.2)⟩
            clear HC HNC HOUT HLED HROW hO2 hok HSA
            go_wp2_with fail
            exact ⟨⟨O2, c + 1, rfl, by go_num, by omega, trivial, HE.out⟩, by simp [intOf]; omega⟩
          · have d3 : decide (q ≥ 0) = false := decide_eq_false hq
            have HE : Hid ((false = true → stepA l tb' i) ∧ (false = false → accD l i < 0 ∧ ∀ z : Nat, z < c + 1 → ¬ (0 ≤ ledD l i z ∧ tb'[(ledD l i z).toNat]? = some true))) :=
              ⟨fun e => (by cases e), fun _ => HNC.out (fun h => hq h.1)⟩
            clear HC HNC HOUT HLED HROW hok HSA
            go_wp2_with fail
            exact ⟨⟨false, c + 1, rfl, by go_num, by omega, trivial, HE.out⟩, by simp [intOf]; omega⟩
        · have HST : Hid ((s = true → stepA l tb' i) ∧ (s = false → O = false → ¬ stepA l tb' i)) := by
            refine ⟨HS.out.1, fun e1 e2 hst => ?_⟩
            obtain ⟨h1, h2⟩ := HS.out.2 e1
            have hc3 : c = 256 := by
              apply Classical.byContradiction
              intro hne
              exact hgo ⟨by omega, e1, e2⟩
            rcases hst with hst | ⟨z, hz, h3⟩
            · omega
            · exact h2 z (by omega) h3
          obtain ⟨C, hC⟩ : ∃ C, decide ((c : Int) < 256) = C := ⟨_, rfl⟩
          have hgo2 : ¬ (C = true ∧ s = false ∧ O = false) := fun h => hgo ⟨by have := of_decide_eq_true (hC.trans h.1); omega, h.2⟩
          clear HS HOUT HLED HROW HSA hgo
          cases s
          case true =>
            cases O
            case false =>
              have HE := HYES.out (HST.out.1 rfl) rfl
              have HE2 : Hid (AlP l (.slice (some ⟨gb, go, none⟩) l.length nc) (.slice (some ⟨ab, ao, none⟩) l.length ac) w w0.heap.size (tb'.set i true) (wx.setCell ⟨w0.heap.size, i, none⟩ (.bool true)) ∧ RdA l tb (tb'.set i true) true (i + 1)) := HE
              clear HE HYES HNO HST
              cases C <;> (go_wp2_with fail; exact ⟨⟨true, i + 1, _, rfl, by go_num, by omega, HE2.out⟩, by simp [intOf]; omega⟩)
            case true =>
              have HE2 : Hid (AlP l (.slice (some ⟨gb, go, none⟩) l.length nc) (.slice (some ⟨ab, ao, none⟩) l.length ac) w w0.heap.size tb' wx ∧ RdA l tb tb' b (i + 1)) := HNO.out (.inl rfl)
              clear HYES HNO HST
              cases C <;> (go_wp2_with fail; exact ⟨⟨b, i + 1, _, rfl, by go_num, by omega, HE2.out⟩, by simp [intOf]; omega⟩)
          case false =>
            have HE2 : Hid (AlP l (.slice (some ⟨gb, go, none⟩) l.length nc) (.slice (some ⟨ab, ao, none⟩) l.length ac) w w0.heap.size tb' wx ∧ RdA l tb tb' b (i + 1)) := HNO.out (by
              cases O with
              | true => exact .inl rfl
              | false => exact .inr (HST.out.2 rfl rfl))
            clear HYES HNO HST
            cases C <;> cases O <;> first | (exfalso; exact hgo2 ⟨rfl, rfl, rfl⟩) | (go_wp2_with fail; exact ⟨⟨b, i + 1, _, rfl, by go_num, by omega, HE2.out⟩, by simp [intOf]; omega⟩)
end Go.Proofs.Ytdalomibilicfaa
/- The document's Least: alike. -/
namespace Go.Proofs.Ytdalomibilicfaa
open Go.RowKit Go.Shelf

/-- No byte leads to states of two classes. -/
def alkC (l : List Ds) (c : List Int) (i k : Nat) : Prop := ∀ z : Nat, z < 256 → clv c (ledD l i z) = clv c (ledD l k z)

set_option maxRecDepth 100000 in
set_option maxHeartbeats 3200000 in
theorem alike_any (l : List Ds) (c : List Int) (nv av cv : Value) (i k : Nat) (w : World) (hG : SlR (gridG l) nv w) (hC : SlI c cv w) (hcl : c.length = l.length) (hf : fitD l) (hi : i < l.length) (hk : k < l.length) :
    Calls Try.prog 57 #[.agg #[nv, av], cv, .int .i64 i, .int .i64 k] w fun e w' => ∃ B, e = .returned (.bool B) ∧ (B = true ↔ alkC l c i k) ∧ Below w.heap.size w w' := by
  obtain ⟨gb, go, nc, rb, ro, rc, rfl, hg1⟩ := grid_at hG hi
  obtain ⟨gb', go', nc', rb2, ro2, rc2, e2, hg2⟩ := grid_at hG hk
  cases e2
  have HX : Hid (∀ W, Below w.heap.size w W → ∀ q : Int, q < c.length → Calls Try.prog 37 #[cv, .int .i64 q] W fun e w' => e = .returned (.int .i64 (clv c q)) ∧ w' = W) := fun W hW q hq => at_any c cv q W (hC.next hW) hq
  have HL : Hid (∀ a : Nat, a < l.length → ∀ z : Int, ledD l a z < c.length) := fun a ha z => by
    have := (led_ok hf (a := (a : Int)) ⟨by omega, by omega⟩ z).2
    omega
  obtain ⟨ca, cc, rfl, _⟩ := hC
  have HG1 : Hid (∀ V, Below w.heap.size w V → V.cell? ⟨gb, go + i, none⟩ = some (.slice (some ⟨rb, ro, none⟩) 256 rc) ∧ ∀ z : Nat, z < 256 → V.cell? ⟨rb, ro + z, none⟩ = some (.int .i64 (ledD l i z))) := hg1
  have HG2 : Hid (∀ V, Below w.heap.size w V → V.cell? ⟨gb, go + k, none⟩ = some (.slice (some ⟨rb2, ro2, none⟩) 256 rc2) ∧ ∀ z : Nat, z < 256 → V.cell? ⟨rb2, ro2 + z, none⟩ = some (.int .i64 (ledD l k z))) := hg2
  obtain ⟨w0, hw0⟩ : ∃ w0, w0 = w.alloc (Obj.cells #[.slice (some ⟨gb, go, none⟩) l.length nc, av] 68) := ⟨_, rfl⟩
  have HB : Hid (Below w.heap.size w w0 ∧ w0.heap[w.heap.size]? = some (Obj.cells #[.slice (some ⟨gb, go, none⟩) l.length nc, av] 68)) := ⟨by rw [hw0]; exact (Below.refl _ _).alloc (Nat.le_refl _) _, by rw [hw0]; exact heap_alloc_new _ _⟩
  have HII : Hid (i < l.length ∧ k < l.length ∧ c.length = l.length) := ⟨hi, hk, hcl⟩
  clear hf hg1 hg2 hcl
  go_enter Try.func57, Try.ntmps57
  go_upto_region 1 with fail
  rw [← hw0]
  clear hw0
  go_wp2_with fail
  go_loopw [9] (fun zv wr => ∃ (z : Nat) (d : Nat), zv = .int .i64 z ∧ z ≤ 256 ∧ wr = w0.drewN d ∧ Hid (∀ y : Nat, y < z → clv c (ledD l i y) = clv c (ledD l k y))) (fun z _ => 256 - (intOf z).toNat)
  case atStart => exact ⟨0, 0, rfl, by omega, rfl, fun y hy => by omega⟩
  case round =>
    obtain ⟨z, d, rfl, hz, hwr, HS⟩ := hrel
    subst hwr
    have B0 : Below w.heap.size w (w0.drewN d) := below_drewN HB.out.1 d
    by_cases hlt : z < 256
    · have d1 : decide ((z : Int) < 256) = true := decide_eq_true (by omega)
      have hz9 : (z : Int) < 256 := by omega
      obtain ⟨g1, r1⟩ := HG1.out _ (below_drewN B0 1)
      obtain ⟨g2, r2⟩ := HG2.out _ (below_drewN B0 1)
      have s1 := r1 z hlt
      have s2 := r2 z hlt
      have bx : ((w0.drewN d).drewN 1).cell? ⟨w.heap.size, 0, none⟩ = some (.slice (some ⟨gb, go, none⟩) l.length nc) := by
        have : (w0.drewN d).drewN 1 = w0.drewN (d + 1) := by rw [World.drewN_drewN]
        rw [this]
        show w0.cell? _ = _
        rw [Lib.cell_of_heap HB.out.2]; rfl
      have HC1 := HX.out _ (below_drewN B0 1) _ (HL.out i hi z)
      have HC2 := HX.out _ (below_drewN B0 1) _ (HL.out k hk z)
      have HN : Hid (clv c (ledD l i z) = clv c (ledD l k z) → ∀ y : Nat, y < z + 1 → clv c (ledD l i y) = clv c (ledD l k y)) := fun h y hy => by
        by_cases e : y = z
        · rw [e]; exact h
        · exact HS.out y (by omega)
      have HNO : Hid (clv c (ledD l i z) ≠ clv c (ledD l k z) → ¬ alkC l c i k) := fun h ha => h (ha z hlt)
      obtain ⟨q1, hq1⟩ : ∃ q, ledD l i (z : Int) = q := ⟨_, rfl⟩
      obtain ⟨q2, hq2⟩ : ∃ q, ledD l k (z : Int) = q := ⟨_, rfl⟩
      rw [hq1] at s1 HC1 HN HNO
      rw [hq2] at s2 HC2 HN HNO
      obtain ⟨u1, hu1⟩ : ∃ q, clv c q1 = q := ⟨_, rfl⟩
      obtain ⟨u2, hu2⟩ : ∃ q, clv c q2 = q := ⟨_, rfl⟩
      rw [hu1] at HC1 HN HNO
      rw [hu2] at HC2 HN HNO
      have HT := And.intro bx (And.intro g1 (And.intro s1 (And.intro g2 s2)))
      have HB2 : Hid (Below w.heap.size w (w0.drewN d)) := B0
      clear HS HX HL r1 r2 hq1 hq2 hu1 hu2 bx g1 s1 g2 s2 B0 HG1 HG2
      go_upto_region 4 with fail
      refine wp_region_L (fun W => W.cell? ⟨w.heap.size, 0, none⟩ = some (.slice (some ⟨gb, go, none⟩) l.length nc) ∧ W.cell? ⟨gb, go + i, none⟩ = some (.slice (some ⟨rb, ro, none⟩) 256 rc) ∧ W.cell? ⟨rb, ro + z, none⟩ = some (.int .i64 q1) ∧ W.cell? ⟨gb, go + k, none⟩ = some (.slice (some ⟨rb2, ro2, none⟩) 256 rc2) ∧ W.cell? ⟨rb2, ro2 + z, none⟩ = some (.int .i64 q2)) 21 (by kernel_rfl) 21 rfl ?_
      refine wpAnyL_take' (i := 0) (v := ?_) (oi := ⟨some 14, .move (.tmp 1), 57, "ref.go:131", #[], none⟩) rfl (by kernel_rfl) (by kernel_rfl) (by kernel_rfl) (by kernel_rfl) rfl (fun _ _ _ h => h) (Or.inl ⟨by rfl, ?_⟩) HT ?_
      rotate_left
      · intro W hSW
        go_simp
        try with_reducible rfl
      simp only [Act.put, List.setIfInBounds_toArray, List.set_cons_zero, List.set_cons_succ]
      refine wpAnyL_take' (i := 1) (v := ?_) (oi := ⟨some 15, .fieldAddr 68 (.tmp 4) 0, 0, "ref.go:131", #[], none⟩) rfl (by kernel_rfl) (by kernel_rfl) (by kernel_rfl) (by kernel_rfl) rfl (fun _ _ _ h => h) (Or.inl ⟨by rfl, ?_⟩) HT ?_
      rotate_left
      · intro W hSW
        go_simp
        try with_reducible rfl
      simp only [Act.put, List.setIfInBounds_toArray, List.set_cons_zero, List.set_cons_succ]
      refine wpAnyL_take' (i := 2) (v := ?_) (oi := ⟨some 16, .load 53 (.tmp 15), 53, "ref.go:131", #[⟨1, .data⟩], none⟩) rfl (by kernel_rfl) (by kernel_rfl) (by kernel_rfl) (by kernel_rfl) rfl (fun _ _ _ h => h) (Or.inl ⟨by rfl, ?_⟩) HT ?_
      rotate_left
      · intro W hSW
        go_simp
        try with_reducible rfl
      simp only [Act.put, List.setIfInBounds_toArray, List.set_cons_zero, List.set_cons_succ]
      refine wpAnyL_take' (i := 3) (v := ?_) (oi := ⟨some 17, .move (.tmp 2), 3, "ref.go:131", #[], none⟩) rfl (by kernel_rfl) (by kernel_rfl) (by kernel_rfl) (by kernel_rfl) rfl (fun _ _ _ h => h) (Or.inl ⟨by rfl, ?_⟩) HT ?_
      rotate_left
      · intro W hSW
        go_simp
        try with_reducible rfl
      simp only [Act.put, List.setIfInBounds_toArray, List.set_cons_zero, List.set_cons_succ]
      refine wpAnyL_take' (i := 4) (v := ?_) (oi := ⟨some 18, .indexAddr 53 (.tmp 16) (.tmp 17), 0, "ref.go:131", #[⟨2, .data⟩, ⟨3, .data⟩], none⟩) rfl (by kernel_rfl) (by kernel_rfl) (by kernel_rfl) (by kernel_rfl) rfl (fun _ _ _ h => h) (Or.inl ⟨by rfl, ?_⟩) HT ?_
      rotate_left
      · intro W hSW
        go_simp
        try with_reducible rfl
      simp only [Act.put, List.setIfInBounds_toArray, List.set_cons_zero, List.set_cons_succ]
      refine wpAnyL_take' (i := 5) (v := ?_) (oi := ⟨some 19, .load 57 (.tmp 18), 57, "ref.go:131", #[⟨4, .data⟩], none⟩) rfl (by kernel_rfl) (by kernel_rfl) (by kernel_rfl) (by kernel_rfl) rfl (fun _ _ _ h => h) (Or.inl ⟨by rfl, ?_⟩) HT ?_
      rotate_left
      · intro W hSW
        go_simp
        try with_reducible rfl
      simp only [Act.put, List.setIfInBounds_toArray, List.set_cons_zero, List.set_cons_succ]
      refine wpAnyL_take' (i := 6) (v := ?_) (oi := ⟨some 20, .move (.tmp 9), 3, "ref.go:131", #[], none⟩) rfl (by kernel_rfl) (by kernel_rfl) (by kernel_rfl) (by kernel_rfl) rfl (fun _ _ _ h => h) (Or.inl ⟨by rfl, ?_⟩) HT ?_
      rotate_left
      · intro W hSW
        go_simp
        try with_reducible rfl
      simp only [Act.put, List.setIfInBounds_toArray, List.set_cons_zero, List.set_cons_succ]
      refine wpAnyL_take' (i := 7) (v := ?_) (oi := ⟨some 21, .indexAddr 57 (.tmp 19) (.tmp 20), 0, "ref.go:131", #[⟨5, .data⟩, ⟨6, .data⟩], none⟩) rfl (by kernel_rfl) (by kernel_rfl) (by kernel_rfl) (by kernel_rfl) rfl (fun _ _ _ h => h) (Or.inl ⟨by rfl, ?_⟩) HT ?_
      rotate_left
      · intro W hSW
        go_simp
        try with_reducible rfl
      simp only [Act.put, List.setIfInBounds_toArray, List.set_cons_zero, List.set_cons_succ]
      refine wpAnyL_take' (i := 8) (v := ?_) (oi := ⟨some 22, .load 3 (.tmp 21), 3, "ref.go:131", #[⟨7, .data⟩], none⟩) rfl (by kernel_rfl) (by kernel_rfl) (by kernel_rfl) (by kernel_rfl) rfl (fun _ _ _ h => h) (Or.inl ⟨by rfl, ?_⟩) HT ?_
      rotate_left
      · intro W hSW
        go_simp
        try with_reducible rfl
      simp only [Act.put, List.setIfInBounds_toArray, List.set_cons_zero, List.set_cons_succ]
      refine wpAnyL_take' (i := 10) (v := ?_) (oi := ⟨some 24, .move (.tmp 1), 57, "ref.go:131", #[], none⟩) rfl (by kernel_rfl) (by kernel_rfl) (by kernel_rfl) (by kernel_rfl) rfl (fun _ _ _ h => h) (Or.inl ⟨by rfl, ?_⟩) HT ?_
      rotate_left
      · intro W hSW
        go_simp
        try with_reducible rfl
      simp only [Act.put, List.setIfInBounds_toArray, List.set_cons_zero, List.set_cons_succ]
      refine wpAnyL_take' (i := 11) (v := ?_) (oi := ⟨some 25, .fieldAddr 68 (.tmp 4) 0, 0, "ref.go:131", #[], none⟩) rfl (by kernel_rfl) (by kernel_rfl) (by kernel_rfl) (by kernel_rfl) rfl (fun _ _ _ h => h) (Or.inl ⟨by rfl, ?_⟩) HT ?_
      rotate_left
      · intro W hSW
        go_simp
        try with_reducible rfl
      simp only [Act.put, List.setIfInBounds_toArray, List.set_cons_zero, List.set_cons_succ]
      refine wpAnyL_take' (i := 12) (v := ?_) (oi := ⟨some 26, .load 53 (.tmp 25), 53, "ref.go:131", #[⟨11, .data⟩], none⟩) rfl (by kernel_rfl) (by kernel_rfl) (by kernel_rfl) (by kernel_rfl) rfl (fun _ _ _ h => h) (Or.inl ⟨by rfl, ?_⟩) HT ?_
      rotate_left
      · intro W hSW
        go_simp
        try with_reducible rfl
      simp only [Act.put, List.setIfInBounds_toArray, List.set_cons_zero, List.set_cons_succ]
      refine wpAnyL_take' (i := 13) (v := ?_) (oi := ⟨some 27, .move (.tmp 3), 3, "ref.go:131", #[], none⟩) rfl (by kernel_rfl) (by kernel_rfl) (by kernel_rfl) (by kernel_rfl) rfl (fun _ _ _ h => h) (Or.inl ⟨by rfl, ?_⟩) HT ?_
      rotate_left
      · intro W hSW
        go_simp
        try with_reducible rfl
      simp only [Act.put, List.setIfInBounds_toArray, List.set_cons_zero, List.set_cons_succ]
      refine wpAnyL_take' (i := 14) (v := ?_) (oi := ⟨some 28, .indexAddr 53 (.tmp 26) (.tmp 27), 0, "ref.go:131", #[⟨12, .data⟩, ⟨13, .data⟩], none⟩) rfl (by kernel_rfl) (by kernel_rfl) (by kernel_rfl) (by kernel_rfl) rfl (fun _ _ _ h => h) (Or.inl ⟨by rfl, ?_⟩) HT ?_
      rotate_left
      · intro W hSW
        go_simp
        try with_reducible rfl
      simp only [Act.put, List.setIfInBounds_toArray, List.set_cons_zero, List.set_cons_succ]
      refine wpAnyL_take' (i := 15) (v := ?_) (oi := ⟨some 29, .load 57 (.tmp 28), 57, "ref.go:131", #[⟨14, .data⟩], none⟩) rfl (by kernel_rfl) (by kernel_rfl) (by kernel_rfl) (by kernel_rfl) rfl (fun _ _ _ h => h) (Or.inl ⟨by rfl, ?_⟩) HT ?_
      rotate_left
      · intro W hSW
        go_simp
        try with_reducible rfl
      simp only [Act.put, List.setIfInBounds_toArray, List.set_cons_zero, List.set_cons_succ]
      refine wpAnyL_take' (i := 16) (v := ?_) (oi := ⟨some 30, .move (.tmp 9), 3, "ref.go:131", #[], none⟩) rfl (by kernel_rfl) (by kernel_rfl) (by kernel_rfl) (by kernel_rfl) rfl (fun _ _ _ h => h) (Or.inl ⟨by rfl, ?_⟩) HT ?_
      rotate_left
      · intro W hSW
        go_simp
        try with_reducible rfl
      simp only [Act.put, List.setIfInBounds_toArray, List.set_cons_zero, List.set_cons_succ]
      refine wpAnyL_take' (i := 17) (v := ?_) (oi := ⟨some 31, .indexAddr 57 (.tmp 29) (.tmp 30), 0, "ref.go:131", #[⟨15, .data⟩, ⟨16, .data⟩], none⟩) rfl (by kernel_rfl) (by kernel_rfl) (by kernel_rfl) (by kernel_rfl) rfl (fun _ _ _ h => h) (Or.inl ⟨by rfl, ?_⟩) HT ?_
      rotate_left
      · intro W hSW
        go_simp
        try with_reducible rfl
      simp only [Act.put, List.setIfInBounds_toArray, List.set_cons_zero, List.set_cons_succ]
      refine wpAnyL_take' (i := 18) (v := ?_) (oi := ⟨some 32, .load 3 (.tmp 31), 3, "ref.go:131", #[⟨17, .data⟩], none⟩) rfl (by kernel_rfl) (by kernel_rfl) (by kernel_rfl) (by kernel_rfl) rfl (fun _ _ _ h => h) (Or.inl ⟨by rfl, ?_⟩) HT ?_
      rotate_left
      · intro W hSW
        go_simp
        try with_reducible rfl
      simp only [Act.put, List.setIfInBounds_toArray, List.set_cons_zero, List.set_cons_succ]
      refine wpAnyL_one' (i := 9) (o := ⟨some 23, .call ⟨.value (.func 37), #[.tmp 14, .tmp 22], #[57, 3]⟩, 3, "ref.go:131", #[⟨0, .data⟩, ⟨8, .data⟩], none⟩) (by kernel_rfl) rfl rfl (fun K hK => ?_)
      go_simp
      refine HC1.mono ?_
      rintro e V1 ⟨rfl, rfl⟩
      refine hK.out _ _ (fun _ => HT) ?_
      clear hK
      refine wpAnyL_one' (i := 19) (o := ⟨some 33, .call ⟨.value (.func 37), #[.tmp 24, .tmp 32], #[57, 3]⟩, 3, "ref.go:131", #[⟨10, .data⟩, ⟨18, .data⟩, ⟨9, .chain⟩], none⟩) (by kernel_rfl) rfl rfl (fun K hK => ?_)
      go_simp
      refine HC2.mono ?_
      rintro e V2 ⟨rfl, rfl⟩
      refine hK.out _ _ (fun _ => HT) ?_
      clear hK
      refine wpAnyL_take' (i := 20) (v := ?_) (oi := ⟨some 34, .binOp .neq 3 (.tmp 23) (.tmp 33) 3, 4, "ref.go:131", #[⟨9, .data⟩, ⟨19, .data⟩], none⟩) rfl (by kernel_rfl) (by kernel_rfl) (by kernel_rfl) (by kernel_rfl) rfl (fun _ _ _ h => h) (Or.inl ⟨by rfl, ?_⟩) HT ?_
      rotate_left
      · intro W hSW
        go_simp
        try with_reducible rfl
      simp only [Act.put, List.setIfInBounds_toArray, List.set_cons_zero, List.set_cons_succ]
      refine wpAnyL_done (by kernel_rfl) ?_ _
      clear HT HC1 HC2
      by_cases hne : u1 = u2
      · have HE := HN.out hne
        have HE2 : Hid (∀ y : Nat, y < z + 1 → clv c (ledD l i y) = clv c (ledD l k y)) := HE
        have dne : (u1 != u2) = false := by simpa using hne
        clear HN HNO hne HE
        go_wp2_with fail
        exact ⟨⟨z + 1, d + 1, by go_num, by omega, by rw [← World.drewN_drewN], HE2.out⟩, by simp [intOf]; omega⟩
      · have HE := HNO.out hne
        have HE2 : Hid (¬ alkC l c i k) := HE
        have dne : (u1 != u2) = true := by simpa using hne
        clear HN HNO hne HE
        go_wp2_with fail
        go_ret
        exact ⟨false, rfl, ⟨fun e => (by cases e), fun e => absurd e HE2.out⟩, below_drewN HB2.out 1⟩
    · obtain rfl : z = 256 := by omega
      have d1 : decide ((256 : Int) < 256) = false := by decide
      have HE2 : Hid (alkC l c i k) := HS.out
      have HB2 : Hid (Below w.heap.size w (w0.drewN d)) := B0
      clear HS HX HL HG1 HG2 B0
      go_wp2_with fail
      go_ret
      exact ⟨true, rfl, ⟨fun _ => HE2.out, fun _ => rfl⟩, HB2.out⟩
end Go.Proofs.Ytdalomibilicfaa
