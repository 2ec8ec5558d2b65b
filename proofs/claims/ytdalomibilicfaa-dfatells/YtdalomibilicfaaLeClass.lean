/- The document's Least: classes. -/
import Derived.Test.YtdalomibilicfaaJLeAlive
namespace Go.Proofs.Ytdalomibilicfaa
open Go.RowKit Go.Shelf

/-- Numbers in a block of their own, made behind a world. -/
structure RwL (wo : World) (L : List Int) (V : World) : Prop where
  bel : Below wo.heap.size wo V
  row : V.ownsRow wo.heap.size 3 1 (.slice (some ⟨wo.heap.size, 0, none⟩) L.length L.length) L.length (L.map encI)
theorem RwL.put {wo : World} {L : List Int} {V : World} (h : RwL wo L V) (j : Nat) (x : Int) : RwL wo (L.set j x) (V.setCell ⟨wo.heap.size, j, none⟩ (.int .i64 x)) := by
  refine ⟨below_but h.bel ((But.refl (fun k => k = wo.heap.size) V).setCell _ _ (.inr rfl)) (Nat.le_refl _) (fun k hk => by omega), ?_⟩
  have h9 := (World.ownsRow.stored h.row j (.int .i64 x)).1
  rw [List.length_set, List.map_set]
  exact h9
theorem RwL.next {wo : World} {L : List Int} {V V' : World} (h : RwL wo L V) (hb : Below V.heap.size V V') : RwL wo L V' := ⟨h.bel.trans (hb.mono h.bel.size), own_below h.row hb⟩
theorem RwL.facts {wo : World} {L : List Int} {V : World} (h : RwL wo L V) {j : Nat} (hj : j < L.length) : V.cell? ⟨wo.heap.size, j, none⟩ = some (.int .i64 L[j]) ∧ V.frozen? ⟨wo.heap.size, j, none⟩ = false :=
  ⟨own_cells1 h.row (by simp [hj, encI]), World.ownsRow.frozenAt h.row _⟩
theorem RwL.made {wo wm : World} {n : Nat} (h2 : wm.ownsRow wo.heap.size 3 1 (.slice (some ⟨wo.heap.size, 0, none⟩) n n) n (madeCells (Value.int .i64 0).cells (n * 1)).toList) (h3 : wo.grownBy wm none) : RwL wo (List.replicate n 0) wm := by
  refine ⟨(but_grown (A := fun _ => False) h3 (fun r h => by cases h)).below (Nat.le_refl _) (fun _ h => h.elim), ?_⟩
  have h1 : (madeCells (Value.int .i64 0).cells (n * 1)).toList = List.replicate n (encI 0) := by rw [Nat.mul_one]; exact toList_madeCells_one _ _
  rw [List.map_replicate, List.length_replicate, ← h1]
  exact h2
/-- The first of them are known. -/
def RepB (l : List Ds) (k : Nat) (c : List Int) (i : Nat) : Prop := c.length = l.length ∧ ∀ (j : Nat) v, j < i → c[j]? = some v → RepAt l k j v
theorem RepB.set {l : List Ds} {k : Nat} {c : List Int} {i : Nat} (h : RepB l k c i) (x : Int) : RepB l k (c.set i x) i := ⟨by rw [List.length_set]; exact h.1, fun j v hj hv => by
  rw [List.getElem?_set_ne (by omega)] at hv
  exact h.2 j v hj hv⟩
theorem RepB.succ {l : List Ds} {k : Nat} {c : List Int} {i : Nat} (h : RepB l k c i) {x : Int} (hx : c[i]? = some x) (hr : RepAt l k i x) : RepB l k c (i + 1) := ⟨h.1, fun j v hj hv => by
  by_cases e : j = i
  · subst e
    rw [hx] at hv
    cases hv
    exact hr
  · exact h.2 j v (by omega) hv⟩
theorem RepB.all {l : List Ds} {k : Nat} {c : List Int} (h : RepB l k c l.length) : Cl2 l k c := ⟨h.1, fun j v hv => h.2 j v (by have := (List.getElem?_eq_some_iff.1 hv).1; rw [h.1] at this; exact this) hv⟩
/-- What is known of one of them while it is looked for. -/
def SeekR (l : List Ds) (k i t : Nat) (L : Bool) (x : Int) : Prop := (L = false → x = -1) ∧ (L = true → (x = -1 ∧ ∀ s : Nat, s < t → ¬ QK l k i s) ∨ RepAt l k i x)
theorem SeekR.start (l : List Ds) (k i : Nat) (L : Bool) : SeekR l k i 0 L (-1) := ⟨fun _ => rfl, fun _ => .inl ⟨rfl, fun s hs => by omega⟩⟩
theorem SeekR.no {l : List Ds} {k i t : Nat} {x : Int} (h : SeekR l k i t true x) (hn : ¬ QK l k i t) : SeekR l k i (t + 1) true x := by
  refine ⟨fun e => (by cases e), fun _ => ?_⟩
  rcases h.2 rfl with ⟨h1, h2⟩ | h1
  · refine .inl ⟨h1, fun s hs => ?_⟩
    by_cases e : s = t
    · rw [e]; exact hn
    · exact h2 s (by omega)
  · exact .inr h1
theorem SeekR.yes {l : List Ds} {k i t : Nat} {y : Int} (ht : t ≤ i) (hy : RepAt l k t y) (hq : QK l k i t) : SeekR l k i (t + 1) true y := ⟨fun e => (by cases e), fun _ => .inr (hy.of ht hq)⟩
/-- Nothing was found: it is its own. -/
theorem SeekR.own {l : List Ds} {k i : Nat} {x : Int} (h : SeekR l k i i true x) (hl : liveD l i) (hx : x < 0) : RepAt l k i i := by
  rcases h.2 rfl with ⟨_, h2⟩ | h1
  · exact RepAt.self hl h2
  · exact absurd (h1.neg.1 hx) (fun hn => hn hl)
theorem SeekR.found {l : List Ds} {k i t : Nat} {L : Bool} {x : Int} (h : SeekR l k i t L x) (hL : L = true ↔ liveD l i) (hx : L = true → 0 ≤ x) : RepAt l k i x := by
  cases L with
  | true =>
    rcases h.2 rfl with ⟨h1, _⟩ | h1
    · have := hx rfl; omega
    · exact h1
  | false => exact ⟨fun _ => h.1 rfl, fun hl => absurd (hL.2 hl) (by decide)⟩
/-- A row of classes, in memory. -/
structure CIn (l : List Ds) (w1 : World) (G k : Nat) (c : List Int) (V : World) : Prop where
  at_ : Cl2 l k c
  row : V.ownsRow w1.heap.size 3 1 (.slice (some ⟨G, 0, none⟩) l.length l.length) l.length (c.map encI)
  bel : Below w1.heap.size w1 V
theorem CIn.next {l : List Ds} {w1 : World} {G k : Nat} {c : List Int} {V V' : World} (h : CIn l w1 G k c V) (hb : Below V.heap.size V V') : CIn l w1 G k c V' := ⟨h.at_, own_below h.row hb, h.bel.trans (hb.mono h.bel.size)⟩
theorem CIn.cell {l : List Ds} {w1 : World} {G k : Nat} {c : List Int} {V : World} (h : CIn l w1 G k c V) {j : Nat} (hj : j < c.length) : V.cell? ⟨G, j, none⟩ = some (.int .i64 c[j]) := own_cells1 h.row (by simp [hj, encI])
theorem CIn.sl {l : List Ds} {w1 : World} {G k : Nat} {c : List Int} {V : World} (h : CIn l w1 G k c V) (hn : l.length ≤ 60) : SlI c (.slice (some ⟨G, 0, none⟩) l.length l.length) V := by
  refine sli_own (B := w1.heap.size) ?_ (fun y hy => ?_)
  · unfold Own1; rw [h.at_.len]; exact h.row
  · obtain ⟨j, hj⟩ := List.getElem?_of_mem hy
    have h1 := (h.at_.rep j y hj).low
    have h2 := (List.getElem?_eq_some_iff.1 hj).1
    rw [h.at_.len] at h2
    exact ⟨by omega, by omega⟩
/-- Whether the first of them have changed. -/
def ChgB (d c : List Int) (ch : Bool) (i : Nat) : Prop := (ch = false → ∀ j : Nat, j < i → d[j]? = c[j]?) ∧ (ch = true → ∃ j : Nat, j < i ∧ d[j]? ≠ c[j]?)
theorem ChgB.set {d c : List Int} {ch : Bool} {i : Nat} (h : ChgB d c ch i) (x : Int) : ChgB (d.set i x) c ch i := ⟨fun e j hj => by rw [List.getElem?_set_ne (by omega)]; exact h.1 e j hj, fun e => by
  obtain ⟨j, hj, hn⟩ := h.2 e
  exact ⟨j, hj, by rw [List.getElem?_set_ne (by omega)]; exact hn⟩⟩
theorem ChgB.succ {d c : List Int} {ch : Bool} {i : Nat} (h : ChgB d c ch i) {y z : Int} (hy : d[i]? = some y) (hz : c[i]? = some z) : ChgB d c (ch || (y != z)) (i + 1) := by
  refine ⟨fun e j hj => ?_, fun e => ?_⟩
  · simp only [Bool.or_eq_false_iff] at e
    by_cases hji : j = i
    · rw [hji, hy, hz]
      have : y = z := by simpa using e.2
      rw [this]
    · exact h.1 e.1 j (by omega)
  · simp only [Bool.or_eq_true] at e
    rcases e with e | e
    · obtain ⟨j, hj, hn⟩ := h.2 e
      exact ⟨j, by omega, hn⟩
    · refine ⟨i, by omega, ?_⟩
      rw [hy, hz]
      intro h9
      have : y = z := Option.some.inj h9
      simp [this] at e
theorem alk_iff {l : List Ds} (hf : fitD l) {k : Nat} {c : List Int} (hc : Cl2 l k c) {i t : Nat} (hi : i < l.length) (ht : t < l.length) {ci ct : Int} (h1 : c[i]? = some ci) (h2 : c[t]? = some ct) : QK l (k + 1) i t ↔ ct = ci ∧ alkC l c i t := by
  have oi : okS l.length (i : Int) := ⟨by omega, by omega⟩
  have ot : okS l.length (t : Int) := ⟨by omega, by omega⟩
  have e1 : clv c (i : Int) = ci := by unfold clv; rw [if_neg (by omega), Int.toNat_natCast, h1]; rfl
  have e2 : clv c (t : Int) = ct := by unfold clv; rw [if_neg (by omega), Int.toNat_natCast, h2]; rfl
  rw [QK_succ, ← hc.tell oi ot, e1, e2]
  constructor
  · rintro ⟨h3, h4⟩
    exact ⟨h3.symm, fun z _ => (hc.tell (led_ok hf oi z) (led_ok hf ot z)).2 (h4 z)⟩
  · rintro ⟨h3, h4⟩
    refine ⟨h3.symm, fun z => (hc.tell (led_ok hf oi z) (led_ok hf ot z)).1 ?_⟩
    by_cases hz : 0 ≤ z ∧ z < 256
    · have := h4 z.toNat (by omega)
      rw [Int.toNat_of_nonneg hz.1] at this
      exact this
    · rw [led_out hf oi (by omega), led_out hf ot (by omega)]
theorem set_get {L : List Int} {i : Nat} {x : Int} (h : i < L.length) : (L.set i x)[i]? = some x := by rw [List.getElem?_set_self h]

set_option maxRecDepth 100000 in
set_option maxHeartbeats 6400000 in
theorem classes_any (l : List Ds) (nv av : Value) (w : World) (hG : SlR (gridG l) nv w) (hA : SlI (l.map Ds.acc) av w) (hf : fitD l) (hn : l.length ≤ 60) :
    Calls Try.prog 36 #[.agg #[nv, av]] w fun e w' => ∃ cv c k, e = .returned cv ∧ SlI c cv w' ∧ Cl2 l k c ∧ Cl2 l (k + 1) c ∧ Below w.heap.size w w' := by
  have h0 := List.length_pos_iff.2 hf.some
  obtain ⟨gb, go, nc, _, _, _, rfl, _⟩ := grid_at hG h0
  obtain ⟨ab, ao, ac, rfl, _⟩ := acc_at hA h0
  have HA : Hid (∀ i : Nat, i < l.length → ∀ V, Below w.heap.size w V → V.cell? ⟨ab, ao + i, none⟩ = some (.int .i64 (accD l i))) := fun i hi => by
    obtain ⟨_, _, _, e, h⟩ := acc_at hA hi
    cases e
    exact h
  have HGA : Hid (∀ V, Below w.heap.size w V → SlR (gridG l) (.slice (some ⟨gb, go, none⟩) l.length nc) V ∧ SlI (l.map Ds.acc) (.slice (some ⟨ab, ao, none⟩) l.length ac) V) := fun V h => ⟨hG.next h, hA.next h⟩
  have HFF : Hid (fitD l ∧ 0 < l.length) := ⟨hf, h0⟩
  obtain ⟨w0, hw0⟩ : ∃ w0, w0 = w.alloc (Obj.cells #[.slice (some ⟨gb, go, none⟩) l.length nc, .slice (some ⟨ab, ao, none⟩) l.length ac] 68) := ⟨_, rfl⟩
  have hb0 : Below w.heap.size w w0 := by rw [hw0]; exact (Below.refl _ _).alloc (Nat.le_refl _) _
  have hx0 : w0.heap[w.heap.size]? = some (Obj.cells #[.slice (some ⟨gb, go, none⟩) l.length nc, .slice (some ⟨ab, ao, none⟩) l.length ac] 68) := by rw [hw0]; exact heap_alloc_new _ _
  have x0 : w0.cell? ⟨w.heap.size, 0, none⟩ = some (.slice (some ⟨gb, go, none⟩) l.length nc) := by rw [Lib.cell_of_heap hx0]; rfl
  have x1 : w0.cell? ⟨w.heap.size, 1, none⟩ = some (.slice (some ⟨ab, ao, none⟩) l.length ac) := by rw [Lib.cell_of_heap hx0]; rfl
  have CL := alive_any l _ _ w0 (hG.next hb0) (hA.next hb0) hf hn
  have HB0 : Hid (Below w.heap.size w w0 ∧ w0.heap[w.heap.size]? = some (Obj.cells #[.slice (some ⟨gb, go, none⟩) l.length nc, .slice (some ⟨ab, ao, none⟩) l.length ac] 68)) := ⟨hb0, hx0⟩
  clear hG hA hf hb0 hx0
  go_enter Try.func36, Try.ntmps36
  go_upto_region 1 with fail
  rw [← hw0]
  clear hw0
  go_wp2_with fail
  refine CL.mono ?_
  rintro e w1 ⟨bv, tb, rfl, hbv, htl, hlv, hb1⟩
  clear CL x0 x1
  have hB1 : Below w.heap.size w w1 := HB0.out.1.trans (hb1.mono HB0.out.1.size)
  obtain ⟨tao, bc, rfl, htr, _⟩ := hbv
  obtain ⟨lb, lo, rfl, _, _⟩ := htr 0 _ (List.getElem?_eq_getElem (by rw [htl]; exact h0))
  rw [htl]
  have HL : Hid (∀ i : Nat, i < l.length → (tb.getD i false = true ↔ liveD l i) ∧ ∀ V, Below w1.heap.size w1 V → V.cell? ⟨lb, lo + i, none⟩ = some (.bool (tb.getD i false))) := fun i hi => by
    have hg : tb[i]? = some (tb[i]'(by rw [htl]; exact hi)) := List.getElem?_eq_getElem _
    have e : tb.getD i false = tb[i]'(by rw [htl]; exact hi) := by rw [List.getD_eq_getElem?_getD, hg]; rfl
    refine ⟨?_, fun V hV => ?_⟩
    · rw [← hlv i hi, e, hg]
      simp
    · obtain ⟨b', o', e1, hb', hc'⟩ := htr i _ hg
      cases e1
      rw [e]
      exact (hV.cell (p := ⟨lb, lo + i, none⟩) hb').trans hc'
  have hx1 := (hb1.block _ (blk_lt HB0.out.2)).trans HB0.out.2
  have HX : Hid (∀ V, Below w1.heap.size w1 V → (V.cell? ⟨w.heap.size, 0, none⟩ = some (.slice (some ⟨gb, go, none⟩) l.length nc) ∧ V.cell? ⟨w.heap.size, 1, none⟩ = some (.slice (some ⟨ab, ao, none⟩) l.length ac)) ∧ Below w.heap.size w V) := fun V hV => by
    have h := (hV.block _ (blk_lt hx1)).trans hx1
    exact ⟨⟨by rw [Lib.cell_of_heap h]; rfl, by rw [Lib.cell_of_heap h]; rfl⟩, hB1.trans (hV.mono hB1.size)⟩
  obtain ⟨y0, _⟩ := (HX.out w1 (Below.refl _ _)).1
  obtain ⟨ii, hii, hz0, hz1, hz2⟩ := info_parts info3
  obtain ⟨wm, hm1, hm2, hm3⟩ := run_makeSlice_full (P := Try.prog) w1 w1.heap.size 57 3 ii _ 1 Try.underlying57 hii hz0 hz1 .i64 .i64 l.length (by omega) (by rw [hz2]; omega) (by unfold maxLen; omega) (Nat.le_refl _)
  have HR0 : Hid (RwL w1 (List.replicate l.length 0) wm ∧ RepB l 0 (List.replicate l.length 0) 0) := ⟨RwL.made hm2 hm3, by simp, fun j v hj => by omega⟩
  generalize tb.getD = Lf at *
  clear hm2 hm3 hx1 hb1 hB1 htr hlv HB0
  go_wp2_with fail
  clear hm1 y0
  go_loopw [5] (fun iv wr => ∃ (i : Nat) (c : List Int), iv = .int .i64 i ∧ i ≤ l.length ∧ c.length = l.length ∧ Hid (RwL w1 c wr ∧ RepB l 0 c i)) (fun i _ => l.length - (intOf i).toNat)
  case atStart => exact ⟨0, _, rfl, Nat.zero_le _, by simp, HR0.out⟩
  case round =>
    rename World => wr
    clear HR0
    obtain ⟨i, c, rfl, hi, hcl, HI⟩ := hrel
    by_cases hlt : i < l.length
    case pos =>
      have hic : i < c.length := by omega
      have d1 : decide ((i : Int) < l.length) = true := decide_eq_true (by omega)
      obtain ⟨LI, hLI⟩ : ∃ B, Lf i false = B := ⟨_, rfl⟩
      have HLI : Hid ((LI = true ↔ liveD l i) ∧ ∀ V, Below w1.heap.size w1 V → V.cell? ⟨lb, lo + i, none⟩ = some (.bool LI)) := by
        have h := HL.out i hlt
        rw [hLI] at h
        exact h
      clear hLI
      obtain ⟨k1, k2⟩ := HI.out.1.facts hic
      have HR : Hid (RwL w1 (c.set i (-1)) (wr.setCell ⟨w1.heap.size, i, none⟩ (.int .i64 (-1))) ∧ RepB l 0 (c.set i (-1)) i ∧ (c.set i (-1))[i]? = some (-1)) := ⟨HI.out.1.put i (-1), HI.out.2.set (-1), set_get hic⟩
      have hcs : (c.set i (-1)).length = l.length := by rw [List.length_set]; exact hcl
      clear HI
      go_wp2_with fail
      clear k1 k2 d1
      go_loopw [6] (fun kv wq => ∃ (k : Nat) (c2 : List Int) (x : Int), kv = .int .i64 k ∧ k ≤ i ∧ c2.length = l.length ∧ Hid (RwL w1 c2 wq ∧ RepB l 0 c2 i ∧ c2[i]? = some x ∧ SeekR l 0 i k LI x)) (fun k _ => i - (intOf k).toNat)
      case atStart => exact ⟨0, _, -1, rfl, Nat.zero_le _, hcs, HR.out.1, HR.out.2.1, HR.out.2.2, SeekR.start l 0 i LI⟩
      case round =>
        rename World => wq
        clear HR hcs
        obtain ⟨k, c2, x, rfl, hk, hcl2, HK⟩ := hrel
        have li := HLI.out.2 wq HK.out.1.bel
        by_cases hgo : k < i ∧ LI = true
        · obtain ⟨hki, rfl⟩ := hgo
          have d1 : decide ((k : Int) < i) = true := decide_eq_true (by omega)
          have hkl : k < l.length := by omega
          obtain ⟨LK, hLK⟩ : ∃ B, Lf k false = B := ⟨_, rfl⟩
          have HLK : Hid ((LK = true ↔ liveD l k) ∧ ∀ V, Below w1.heap.size w1 V → V.cell? ⟨lb, lo + k, none⟩ = some (.bool LK)) := by
            have h := HL.out k hkl
            rw [hLK] at h
            exact h
          clear hLK
          have bd : Below wq.heap.size wq wq.drew := below_drewN (Below.refl _ _) 1
          have HKD : Hid (RwL w1 c2 wq.drew ∧ RepB l 0 c2 i ∧ c2[i]? = some x ∧ SeekR l 0 i k true x) := ⟨HK.out.1.next bd, HK.out.2⟩
          have hwb := (HX.out _ HKD.out.1.bel).2
          have ak := HA.out k hkl _ hwb
          have ai := HA.out i hlt _ hwb
          have lk := HLK.out.2 _ HKD.out.1.bel
          have b1 := (HX.out _ HKD.out.1.bel).1.2
          have HQ : Hid (QK l 0 i k ↔ accD l i = accD l k ∧ (liveD l i ↔ liveD l k)) := QK_zero l i k
          obtain ⟨xk, hxk⟩ : ∃ a, accD l k = a := ⟨_, rfl⟩
          obtain ⟨xi, hxi⟩ : ∃ a, accD l i = a := ⟨_, rfl⟩
          rw [hxk] at ak HQ
          rw [hxi] at ai HQ
          clear hxk hxi hwb bd HK
          go_upto_region 10 with fail
          clear li d1
          cases LK
          case false =>
            have HT := And.intro b1 (And.intro lk (And.intro ak ai))
            have HE : Hid (RwL w1 c2 wq.drew ∧ RepB l 0 c2 i ∧ c2[i]? = some x ∧ SeekR l 0 i (k + 1) true x) := by
              obtain ⟨h1, h2, h3, h4⟩ := HKD.out
              refine ⟨h1, h2, h3, h4.no (fun hq => ?_)⟩
              have h5 := (HQ.out.1 hq).2.1 (HLI.out.1.1 rfl)
              have := HLK.out.1.2 h5
              cases this
            clear HKD HQ HLK ak ai lk b1 HLI HL HX HA HGA HFF
            refine wp_region_L (fun W => W.cell? ⟨w.heap.size, 1, none⟩ = some (.slice (some ⟨ab, ao, none⟩) l.length ac) ∧ W.cell? ⟨lb, lo + k, none⟩ = some (.bool false) ∧ W.cell? ⟨ab, ao + k, none⟩ = some (.int .i64 xk) ∧ W.cell? ⟨ab, ao + i, none⟩ = some (.int .i64 xi)) 17 (by kernel_rfl) 17 rfl ?_
            refine wpAnyL_take' (i := 0) (v := ?_) (oi := ⟨some 37, .move (.tmp 3), 59, "ref.go:99", #[], none⟩) rfl (by kernel_rfl) (by kernel_rfl) (by kernel_rfl) (by kernel_rfl) rfl (fun _ _ _ h => h) (Or.inl ⟨by rfl, ?_⟩) HT ?_
            rotate_left
            · intro W hSW
              go_simp
              try with_reducible rfl
            simp only [Act.put, List.setIfInBounds_toArray, List.set_cons_zero, List.set_cons_succ]
            refine wpAnyL_take' (i := 1) (v := ?_) (oi := ⟨some 38, .move (.tmp 6), 3, "ref.go:99", #[], none⟩) rfl (by kernel_rfl) (by kernel_rfl) (by kernel_rfl) (by kernel_rfl) rfl (fun _ _ _ h => h) (Or.inl ⟨by rfl, ?_⟩) HT ?_
            rotate_left
            · intro W hSW
              go_simp
              try with_reducible rfl
            simp only [Act.put, List.setIfInBounds_toArray, List.set_cons_zero, List.set_cons_succ]
            refine wpAnyL_take' (i := 2) (v := ?_) (oi := ⟨some 39, .indexAddr 59 (.tmp 37) (.tmp 38), 0, "ref.go:99", #[⟨0, .data⟩, ⟨1, .data⟩], none⟩) rfl (by kernel_rfl) (by kernel_rfl) (by kernel_rfl) (by kernel_rfl) rfl (fun _ _ _ h => h) (Or.inl ⟨by rfl, ?_⟩) HT ?_
            rotate_left
            · intro W hSW
              go_simp
              try with_reducible rfl
            simp only [Act.put, List.setIfInBounds_toArray, List.set_cons_zero, List.set_cons_succ]
            refine wpAnyL_take' (i := 3) (v := ?_) (oi := ⟨some 40, .load 4 (.tmp 39), 4, "ref.go:99", #[⟨2, .data⟩], none⟩) rfl (by kernel_rfl) (by kernel_rfl) (by kernel_rfl) (by kernel_rfl) rfl (fun _ _ _ h => h) (Or.inl ⟨by rfl, ?_⟩) HT ?_
            rotate_left
            · intro W hSW
              go_simp
              try with_reducible rfl
            simp only [Act.put, List.setIfInBounds_toArray, List.set_cons_zero, List.set_cons_succ]
            refine wpAnyL_take' (i := 4) (v := ?_) (oi := ⟨some 41, .move (.tmp 40), 4, "ref.go:99", #[⟨3, .data⟩], none⟩) rfl (by kernel_rfl) (by kernel_rfl) (by kernel_rfl) (by kernel_rfl) rfl (fun _ _ _ h => h) (Or.inl ⟨by rfl, ?_⟩) HT ?_
            rotate_left
            · intro W hSW
              go_simp
              try with_reducible rfl
            simp only [Act.put, List.setIfInBounds_toArray, List.set_cons_zero, List.set_cons_succ]
            refine wpAnyL_take' (i := 5) (v := undef) (oi := ⟨some 42, .fieldAddr 68 (.tmp 1) 1, 0, "ref.go:99", #[⟨4, .guard⟩], some (4, true)⟩) rfl (by kernel_rfl) (by kernel_rfl) (by kernel_rfl) (by kernel_rfl) rfl (fun _ _ _ h => h) (Or.inr ⟨by rfl, rfl⟩) HT ?_
            simp only [Act.put, List.setIfInBounds_toArray, List.set_cons_zero, List.set_cons_succ]
            refine wpAnyL_take' (i := 6) (v := undef) (oi := ⟨some 43, .load 57 (.tmp 42), 57, "ref.go:99", #[⟨5, .data⟩, ⟨4, .guard⟩], some (4, true)⟩) rfl (by kernel_rfl) (by kernel_rfl) (by kernel_rfl) (by kernel_rfl) rfl (fun _ _ _ h => h) (Or.inr ⟨by rfl, rfl⟩) HT ?_
            simp only [Act.put, List.setIfInBounds_toArray, List.set_cons_zero, List.set_cons_succ]
            refine wpAnyL_take' (i := 7) (v := undef) (oi := ⟨some 44, .move (.tmp 6), 3, "ref.go:99", #[⟨4, .guard⟩], some (4, true)⟩) rfl (by kernel_rfl) (by kernel_rfl) (by kernel_rfl) (by kernel_rfl) rfl (fun _ _ _ h => h) (Or.inr ⟨by rfl, rfl⟩) HT ?_
            simp only [Act.put, List.setIfInBounds_toArray, List.set_cons_zero, List.set_cons_succ]
            refine wpAnyL_take' (i := 8) (v := undef) (oi := ⟨some 45, .indexAddr 57 (.tmp 43) (.tmp 44), 0, "ref.go:99", #[⟨6, .data⟩, ⟨7, .data⟩, ⟨4, .guard⟩], some (4, true)⟩) rfl (by kernel_rfl) (by kernel_rfl) (by kernel_rfl) (by kernel_rfl) rfl (fun _ _ _ h => h) (Or.inr ⟨by rfl, rfl⟩) HT ?_
            simp only [Act.put, List.setIfInBounds_toArray, List.set_cons_zero, List.set_cons_succ]
            refine wpAnyL_take' (i := 9) (v := undef) (oi := ⟨some 46, .load 3 (.tmp 45), 3, "ref.go:99", #[⟨8, .data⟩, ⟨4, .guard⟩], some (4, true)⟩) rfl (by kernel_rfl) (by kernel_rfl) (by kernel_rfl) (by kernel_rfl) rfl (fun _ _ _ h => h) (Or.inr ⟨by rfl, rfl⟩) HT ?_
            simp only [Act.put, List.setIfInBounds_toArray, List.set_cons_zero, List.set_cons_succ]
            refine wpAnyL_take' (i := 10) (v := undef) (oi := ⟨some 47, .fieldAddr 68 (.tmp 1) 1, 0, "ref.go:99", #[⟨4, .guard⟩], some (4, true)⟩) rfl (by kernel_rfl) (by kernel_rfl) (by kernel_rfl) (by kernel_rfl) rfl (fun _ _ _ h => h) (Or.inr ⟨by rfl, rfl⟩) HT ?_
            simp only [Act.put, List.setIfInBounds_toArray, List.set_cons_zero, List.set_cons_succ]
            refine wpAnyL_take' (i := 11) (v := undef) (oi := ⟨some 48, .load 57 (.tmp 47), 57, "ref.go:99", #[⟨10, .data⟩, ⟨4, .guard⟩], some (4, true)⟩) rfl (by kernel_rfl) (by kernel_rfl) (by kernel_rfl) (by kernel_rfl) rfl (fun _ _ _ h => h) (Or.inr ⟨by rfl, rfl⟩) HT ?_
            simp only [Act.put, List.setIfInBounds_toArray, List.set_cons_zero, List.set_cons_succ]
            refine wpAnyL_take' (i := 12) (v := undef) (oi := ⟨some 49, .move (.tmp 5), 3, "ref.go:99", #[⟨4, .guard⟩], some (4, true)⟩) rfl (by kernel_rfl) (by kernel_rfl) (by kernel_rfl) (by kernel_rfl) rfl (fun _ _ _ h => h) (Or.inr ⟨by rfl, rfl⟩) HT ?_
            simp only [Act.put, List.setIfInBounds_toArray, List.set_cons_zero, List.set_cons_succ]
            refine wpAnyL_take' (i := 13) (v := undef) (oi := ⟨some 50, .indexAddr 57 (.tmp 48) (.tmp 49), 0, "ref.go:99", #[⟨11, .data⟩, ⟨12, .data⟩, ⟨4, .guard⟩], some (4, true)⟩) rfl (by kernel_rfl) (by kernel_rfl) (by kernel_rfl) (by kernel_rfl) rfl (fun _ _ _ h => h) (Or.inr ⟨by rfl, rfl⟩) HT ?_
            simp only [Act.put, List.setIfInBounds_toArray, List.set_cons_zero, List.set_cons_succ]
            refine wpAnyL_take' (i := 14) (v := undef) (oi := ⟨some 51, .load 3 (.tmp 50), 3, "ref.go:99", #[⟨13, .data⟩, ⟨4, .guard⟩], some (4, true)⟩) rfl (by kernel_rfl) (by kernel_rfl) (by kernel_rfl) (by kernel_rfl) rfl (fun _ _ _ h => h) (Or.inr ⟨by rfl, rfl⟩) HT ?_
            simp only [Act.put, List.setIfInBounds_toArray, List.set_cons_zero, List.set_cons_succ]
            refine wpAnyL_take' (i := 15) (v := undef) (oi := ⟨some 52, .binOp .eql 3 (.tmp 46) (.tmp 51) 3, 4, "ref.go:99", #[⟨9, .data⟩, ⟨14, .data⟩, ⟨4, .guard⟩], some (4, true)⟩) rfl (by kernel_rfl) (by kernel_rfl) (by kernel_rfl) (by kernel_rfl) rfl (fun _ _ _ h => h) (Or.inr ⟨by rfl, rfl⟩) HT ?_
            simp only [Act.put, List.setIfInBounds_toArray, List.set_cons_zero, List.set_cons_succ]
            refine wpAnyL_take' (i := 16) (v := ?_) (oi := ⟨some 53, .pick (.tmp 41) (.tmp 52) (.const (.bool false)), 4, "ref.go:99", #[⟨4, .data⟩, ⟨15, .data⟩], none⟩) rfl (by kernel_rfl) (by kernel_rfl) (by kernel_rfl) (by kernel_rfl) rfl (fun _ _ _ h => h) (Or.inl ⟨by rfl, ?_⟩) HT ?_
            rotate_left
            · intro W hSW
              go_simp
              try with_reducible rfl
            simp only [Act.put, List.setIfInBounds_toArray, List.set_cons_zero, List.set_cons_succ]
            refine wpAnyL_done (by kernel_rfl) ?_ _
            clear HT
            go_wp2_with fail
            exact ⟨⟨k + 1, c2, x, by go_num, by omega, hcl2, HE.out⟩, by simp [intOf]; omega⟩
          case true =>
            by_cases hx : xk = xi
            · have HT := And.intro b1 (And.intro lk (And.intro ak ai))
              have hkc : k < c2.length := by omega
              obtain ⟨f1, _⟩ := HKD.out.1.facts hkc
              obtain ⟨f3, f4⟩ := HKD.out.1.facts (j := i) (by omega)
              have HE : Hid (RwL w1 (c2.set i c2[k]) (wq.drew.setCell ⟨w1.heap.size, i, none⟩ (.int .i64 c2[k])) ∧ RepB l 0 (c2.set i c2[k]) i ∧ (c2.set i c2[k])[i]? = some c2[k] ∧ SeekR l 0 i (k + 1) true c2[k]) := by
                obtain ⟨h1, h2, h3, h4⟩ := HKD.out
                refine ⟨h1.put i _, h2.set _, set_get (by omega), SeekR.yes (by omega) (h2.2 k _ hki (List.getElem?_eq_getElem hkc)) (HQ.out.2 ⟨hx.symm, ?_⟩)⟩
                exact ⟨fun _ => HLK.out.1.1 rfl, fun _ => HLI.out.1.1 rfl⟩
              have hcs2 : (c2.set i c2[k]).length = l.length := by rw [List.length_set]; exact hcl2
              have dx : (xk == xi) = true := by simp [hx]
              generalize c2.set i c2[k] = c3 at *
              generalize c2[k] = y at *
              clear HKD HQ HLK ak ai lk b1 HLI HL HX HA HGA HFF hx
              refine wp_region_L (fun W => W.cell? ⟨w.heap.size, 1, none⟩ = some (.slice (some ⟨ab, ao, none⟩) l.length ac) ∧ W.cell? ⟨lb, lo + k, none⟩ = some (.bool true) ∧ W.cell? ⟨ab, ao + k, none⟩ = some (.int .i64 xk) ∧ W.cell? ⟨ab, ao + i, none⟩ = some (.int .i64 xi)) 17 (by kernel_rfl) 17 rfl ?_
              refine wpAnyL_take' (i := 0) (v := ?_) (oi := ⟨some 37, .move (.tmp 3), 59, "ref.go:99", #[], none⟩) rfl (by kernel_rfl) (by kernel_rfl) (by kernel_rfl) (by kernel_rfl) rfl (fun _ _ _ h => h) (Or.inl ⟨by rfl, ?_⟩) HT ?_
              rotate_left
              · intro W hSW
                go_simp
                try with_reducible rfl
              simp only [Act.put, List.setIfInBounds_toArray, List.set_cons_zero, List.set_cons_succ]
              refine wpAnyL_take' (i := 1) (v := ?_) (oi := ⟨some 38, .move (.tmp 6), 3, "ref.go:99", #[], none⟩) rfl (by kernel_rfl) (by kernel_rfl) (by kernel_rfl) (by kernel_rfl) rfl (fun _ _ _ h => h) (Or.inl ⟨by rfl, ?_⟩) HT ?_
              rotate_left
              · intro W hSW
                go_simp
                try with_reducible rfl
              simp only [Act.put, List.setIfInBounds_toArray, List.set_cons_zero, List.set_cons_succ]
              refine wpAnyL_take' (i := 2) (v := ?_) (oi := ⟨some 39, .indexAddr 59 (.tmp 37) (.tmp 38), 0, "ref.go:99", #[⟨0, .data⟩, ⟨1, .data⟩], none⟩) rfl (by kernel_rfl) (by kernel_rfl) (by kernel_rfl) (by kernel_rfl) rfl (fun _ _ _ h => h) (Or.inl ⟨by rfl, ?_⟩) HT ?_
              rotate_left
              · intro W hSW
                go_simp
                try with_reducible rfl
              simp only [Act.put, List.setIfInBounds_toArray, List.set_cons_zero, List.set_cons_succ]
              refine wpAnyL_take' (i := 3) (v := ?_) (oi := ⟨some 40, .load 4 (.tmp 39), 4, "ref.go:99", #[⟨2, .data⟩], none⟩) rfl (by kernel_rfl) (by kernel_rfl) (by kernel_rfl) (by kernel_rfl) rfl (fun _ _ _ h => h) (Or.inl ⟨by rfl, ?_⟩) HT ?_
              rotate_left
              · intro W hSW
                go_simp
                try with_reducible rfl
              simp only [Act.put, List.setIfInBounds_toArray, List.set_cons_zero, List.set_cons_succ]
              refine wpAnyL_take' (i := 4) (v := ?_) (oi := ⟨some 41, .move (.tmp 40), 4, "ref.go:99", #[⟨3, .data⟩], none⟩) rfl (by kernel_rfl) (by kernel_rfl) (by kernel_rfl) (by kernel_rfl) rfl (fun _ _ _ h => h) (Or.inl ⟨by rfl, ?_⟩) HT ?_
              rotate_left
              · intro W hSW
                go_simp
                try with_reducible rfl
              simp only [Act.put, List.setIfInBounds_toArray, List.set_cons_zero, List.set_cons_succ]
              refine wpAnyL_take' (i := 5) (v := ?_) (oi := ⟨some 42, .fieldAddr 68 (.tmp 1) 1, 0, "ref.go:99", #[⟨4, .guard⟩], some (4, true)⟩) rfl (by kernel_rfl) (by kernel_rfl) (by kernel_rfl) (by kernel_rfl) rfl (fun _ _ _ h => h) (Or.inl ⟨by rfl, ?_⟩) HT ?_
              rotate_left
              · intro W hSW
                go_simp
                try with_reducible rfl
              simp only [Act.put, List.setIfInBounds_toArray, List.set_cons_zero, List.set_cons_succ]
              refine wpAnyL_take' (i := 6) (v := ?_) (oi := ⟨some 43, .load 57 (.tmp 42), 57, "ref.go:99", #[⟨5, .data⟩, ⟨4, .guard⟩], some (4, true)⟩) rfl (by kernel_rfl) (by kernel_rfl) (by kernel_rfl) (by kernel_rfl) rfl (fun _ _ _ h => h) (Or.inl ⟨by rfl, ?_⟩) HT ?_
              rotate_left
              · intro W hSW
                go_simp
                try with_reducible rfl
              simp only [Act.put, List.setIfInBounds_toArray, List.set_cons_zero, List.set_cons_succ]
              refine wpAnyL_take' (i := 7) (v := ?_) (oi := ⟨some 44, .move (.tmp 6), 3, "ref.go:99", #[⟨4, .guard⟩], some (4, true)⟩) rfl (by kernel_rfl) (by kernel_rfl) (by kernel_rfl) (by kernel_rfl) rfl (fun _ _ _ h => h) (Or.inl ⟨by rfl, ?_⟩) HT ?_
              rotate_left
              · intro W hSW
                go_simp
                try with_reducible rfl
              simp only [Act.put, List.setIfInBounds_toArray, List.set_cons_zero, List.set_cons_succ]
              refine wpAnyL_take' (i := 8) (v := ?_) (oi := ⟨some 45, .indexAddr 57 (.tmp 43) (.tmp 44), 0, "ref.go:99", #[⟨6, .data⟩, ⟨7, .data⟩, ⟨4, .guard⟩], some (4, true)⟩) rfl (by kernel_rfl) (by kernel_rfl) (by kernel_rfl) (by kernel_rfl) rfl (fun _ _ _ h => h) (Or.inl ⟨by rfl, ?_⟩) HT ?_
              rotate_left
              · intro W hSW
                go_simp
                try with_reducible rfl
              simp only [Act.put, List.setIfInBounds_toArray, List.set_cons_zero, List.set_cons_succ]
              refine wpAnyL_take' (i := 9) (v := ?_) (oi := ⟨some 46, .load 3 (.tmp 45), 3, "ref.go:99", #[⟨8, .data⟩, ⟨4, .guard⟩], some (4, true)⟩) rfl (by kernel_rfl) (by kernel_rfl) (by kernel_rfl) (by kernel_rfl) rfl (fun _ _ _ h => h) (Or.inl ⟨by rfl, ?_⟩) HT ?_
              rotate_left
              · intro W hSW
                go_simp
                try with_reducible rfl
              simp only [Act.put, List.setIfInBounds_toArray, List.set_cons_zero, List.set_cons_succ]
              refine wpAnyL_take' (i := 10) (v := ?_) (oi := ⟨some 47, .fieldAddr 68 (.tmp 1) 1, 0, "ref.go:99", #[⟨4, .guard⟩], some (4, true)⟩) rfl (by kernel_rfl) (by kernel_rfl) (by kernel_rfl) (by kernel_rfl) rfl (fun _ _ _ h => h) (Or.inl ⟨by rfl, ?_⟩) HT ?_
              rotate_left
              · intro W hSW
                go_simp
                try with_reducible rfl
              simp only [Act.put, List.setIfInBounds_toArray, List.set_cons_zero, List.set_cons_succ]
              refine wpAnyL_take' (i := 11) (v := ?_) (oi := ⟨some 48, .load 57 (.tmp 47), 57, "ref.go:99", #[⟨10, .data⟩, ⟨4, .guard⟩], some (4, true)⟩) rfl (by kernel_rfl) (by kernel_rfl) (by kernel_rfl) (by kernel_rfl) rfl (fun _ _ _ h => h) (Or.inl ⟨by rfl, ?_⟩) HT ?_
              rotate_left
              · intro W hSW
                go_simp
                try with_reducible rfl
              simp only [Act.put, List.setIfInBounds_toArray, List.set_cons_zero, List.set_cons_succ]
              refine wpAnyL_take' (i := 12) (v := ?_) (oi := ⟨some 49, .move (.tmp 5), 3, "ref.go:99", #[⟨4, .guard⟩], some (4, true)⟩) rfl (by kernel_rfl) (by kernel_rfl) (by kernel_rfl) (by kernel_rfl) rfl (fun _ _ _ h => h) (Or.inl ⟨by rfl, ?_⟩) HT ?_
              rotate_left
              · intro W hSW
                go_simp
                try with_reducible rfl
              simp only [Act.put, List.setIfInBounds_toArray, List.set_cons_zero, List.set_cons_succ]
              refine wpAnyL_take' (i := 13) (v := ?_) (oi := ⟨some 50, .indexAddr 57 (.tmp 48) (.tmp 49), 0, "ref.go:99", #[⟨11, .data⟩, ⟨12, .data⟩, ⟨4, .guard⟩], some (4, true)⟩) rfl (by kernel_rfl) (by kernel_rfl) (by kernel_rfl) (by kernel_rfl) rfl (fun _ _ _ h => h) (Or.inl ⟨by rfl, ?_⟩) HT ?_
              rotate_left
              · intro W hSW
                go_simp
                try with_reducible rfl
              simp only [Act.put, List.setIfInBounds_toArray, List.set_cons_zero, List.set_cons_succ]
              refine wpAnyL_take' (i := 14) (v := ?_) (oi := ⟨some 51, .load 3 (.tmp 50), 3, "ref.go:99", #[⟨13, .data⟩, ⟨4, .guard⟩], some (4, true)⟩) rfl (by kernel_rfl) (by kernel_rfl) (by kernel_rfl) (by kernel_rfl) rfl (fun _ _ _ h => h) (Or.inl ⟨by rfl, ?_⟩) HT ?_
              rotate_left
              · intro W hSW
                go_simp
                try with_reducible rfl
              simp only [Act.put, List.setIfInBounds_toArray, List.set_cons_zero, List.set_cons_succ]
              refine wpAnyL_take' (i := 15) (v := ?_) (oi := ⟨some 52, .binOp .eql 3 (.tmp 46) (.tmp 51) 3, 4, "ref.go:99", #[⟨9, .data⟩, ⟨14, .data⟩, ⟨4, .guard⟩], some (4, true)⟩) rfl (by kernel_rfl) (by kernel_rfl) (by kernel_rfl) (by kernel_rfl) rfl (fun _ _ _ h => h) (Or.inl ⟨by rfl, ?_⟩) HT ?_
              rotate_left
              · intro W hSW
                go_simp
                try with_reducible rfl
              simp only [Act.put, List.setIfInBounds_toArray, List.set_cons_zero, List.set_cons_succ]
              refine wpAnyL_take' (i := 16) (v := ?_) (oi := ⟨some 53, .pick (.tmp 41) (.tmp 52) (.const (.bool false)), 4, "ref.go:99", #[⟨4, .data⟩, ⟨15, .data⟩], none⟩) rfl (by kernel_rfl) (by kernel_rfl) (by kernel_rfl) (by kernel_rfl) rfl (fun _ _ _ h => h) (Or.inl ⟨by rfl, ?_⟩) HT ?_
              rotate_left
              · intro W hSW
                go_simp
                try with_reducible rfl
              simp only [Act.put, List.setIfInBounds_toArray, List.set_cons_zero, List.set_cons_succ]
              refine wpAnyL_done (by kernel_rfl) ?_ _
              clear HT
              go_wp2_with fail
              exact ⟨⟨k + 1, c3, y, by go_num, by omega, hcs2, HE.out⟩, by simp [intOf]; omega⟩
            · have HT := And.intro b1 (And.intro lk (And.intro ak ai))
              have HE : Hid (RwL w1 c2 wq.drew ∧ RepB l 0 c2 i ∧ c2[i]? = some x ∧ SeekR l 0 i (k + 1) true x) := by
                obtain ⟨h1, h2, h3, h4⟩ := HKD.out
                exact ⟨h1, h2, h3, h4.no (fun hq => hx (HQ.out.1 hq).1.symm)⟩
              have dx : (xk == xi) = false := by simp [hx]
              clear HKD HQ HLK ak ai lk b1 HLI HL HX HA HGA HFF hx
              refine wp_region_L (fun W => W.cell? ⟨w.heap.size, 1, none⟩ = some (.slice (some ⟨ab, ao, none⟩) l.length ac) ∧ W.cell? ⟨lb, lo + k, none⟩ = some (.bool true) ∧ W.cell? ⟨ab, ao + k, none⟩ = some (.int .i64 xk) ∧ W.cell? ⟨ab, ao + i, none⟩ = some (.int .i64 xi)) 17 (by kernel_rfl) 17 rfl ?_
              refine wpAnyL_take' (i := 0) (v := ?_) (oi := ⟨some 37, .move (.tmp 3), 59, "ref.go:99", #[], none⟩) rfl (by kernel_rfl) (by kernel_rfl) (by kernel_rfl) (by kernel_rfl) rfl (fun _ _ _ h => h) (Or.inl ⟨by rfl, ?_⟩) HT ?_
              rotate_left
              · intro W hSW
                go_simp
                try with_reducible rfl
              simp only [Act.put, List.setIfInBounds_toArray, List.set_cons_zero, List.set_cons_succ]
              refine wpAnyL_take' (i := 1) (v := ?_) (oi := ⟨some 38, .move (.tmp 6), 3, "ref.go:99", #[], none⟩) rfl (by kernel_rfl) (by kernel_rfl) (by kernel_rfl) (by kernel_rfl) rfl (fun _ _ _ h => h) (Or.inl ⟨by rfl, ?_⟩) HT ?_
              rotate_left
              · intro W hSW
                go_simp
                try with_reducible rfl
              simp only [Act.put, List.setIfInBounds_toArray, List.set_cons_zero, List.set_cons_succ]
              refine wpAnyL_take' (i := 2) (v := ?_) (oi := ⟨some 39, .indexAddr 59 (.tmp 37) (.tmp 38), 0, "ref.go:99", #[⟨0, .data⟩, ⟨1, .data⟩], none⟩) rfl (by kernel_rfl) (by kernel_rfl) (by kernel_rfl) (by kernel_rfl) rfl (fun _ _ _ h => h) (Or.inl ⟨by rfl, ?_⟩) HT ?_
              rotate_left
              · intro W hSW
                go_simp
                try with_reducible rfl
              simp only [Act.put, List.setIfInBounds_toArray, List.set_cons_zero, List.set_cons_succ]
              refine wpAnyL_take' (i := 3) (v := ?_) (oi := ⟨some 40, .load 4 (.tmp 39), 4, "ref.go:99", #[⟨2, .data⟩], none⟩) rfl (by kernel_rfl) (by kernel_rfl) (by kernel_rfl) (by kernel_rfl) rfl (fun _ _ _ h => h) (Or.inl ⟨by rfl, ?_⟩) HT ?_
              rotate_left
              · intro W hSW
                go_simp
                try with_reducible rfl
              simp only [Act.put, List.setIfInBounds_toArray, List.set_cons_zero, List.set_cons_succ]
              refine wpAnyL_take' (i := 4) (v := ?_) (oi := ⟨some 41, .move (.tmp 40), 4, "ref.go:99", #[⟨3, .data⟩], none⟩) rfl (by kernel_rfl) (by kernel_rfl) (by kernel_rfl) (by kernel_rfl) rfl (fun _ _ _ h => h) (Or.inl ⟨by rfl, ?_⟩) HT ?_
              rotate_left
              · intro W hSW
                go_simp
                try with_reducible rfl
              simp only [Act.put, List.setIfInBounds_toArray, List.set_cons_zero, List.set_cons_succ]
              refine wpAnyL_take' (i := 5) (v := ?_) (oi := ⟨some 42, .fieldAddr 68 (.tmp 1) 1, 0, "ref.go:99", #[⟨4, .guard⟩], some (4, true)⟩) rfl (by kernel_rfl) (by kernel_rfl) (by kernel_rfl) (by kernel_rfl) rfl (fun _ _ _ h => h) (Or.inl ⟨by rfl, ?_⟩) HT ?_
              rotate_left
              · intro W hSW
                go_simp
                try with_reducible rfl
              simp only [Act.put, List.setIfInBounds_toArray, List.set_cons_zero, List.set_cons_succ]
              refine wpAnyL_take' (i := 6) (v := ?_) (oi := ⟨some 43, .load 57 (.tmp 42), 57, "ref.go:99", #[⟨5, .data⟩, ⟨4, .guard⟩], some (4, true)⟩) rfl (by kernel_rfl) (by kernel_rfl) (by kernel_rfl) (by kernel_rfl) rfl (fun _ _ _ h => h) (Or.inl ⟨by rfl, ?_⟩) HT ?_
              rotate_left
              · intro W hSW
                go_simp
                try with_reducible rfl
              simp only [Act.put, List.setIfInBounds_toArray, List.set_cons_zero, List.set_cons_succ]
              refine wpAnyL_take' (i := 7) (v := ?_) (oi := ⟨some 44, .move (.tmp 6), 3, "ref.go:99", #[⟨4, .guard⟩], some (4, true)⟩) rfl (by kernel_rfl) (by kernel_rfl) (by kernel_rfl) (by kernel_rfl) rfl (fun _ _ _ h => h) (Or.inl ⟨by rfl, ?_⟩) HT ?_
              rotate_left
              · intro W hSW
                go_simp
                try with_reducible rfl
              simp only [Act.put, List.setIfInBounds_toArray, List.set_cons_zero, List.set_cons_succ]
              refine wpAnyL_take' (i := 8) (v := ?_) (oi := ⟨some 45, .indexAddr 57 (.tmp 43) (.tmp 44), 0, "ref.go:99", #[⟨6, .data⟩, ⟨7, .data⟩, ⟨4, .guard⟩], some (4, true)⟩) rfl (by kernel_rfl) (by kernel_rfl) (by kernel_rfl) (by kernel_rfl) rfl (fun _ _ _ h => h) (Or.inl ⟨by rfl, ?_⟩) HT ?_
              rotate_left
              · intro W hSW
                go_simp
                try with_reducible rfl
              simp only [Act.put, List.setIfInBounds_toArray, List.set_cons_zero, List.set_cons_succ]
              refine wpAnyL_take' (i := 9) (v := ?_) (oi := ⟨some 46, .load 3 (.tmp 45), 3, "ref.go:99", #[⟨8, .data⟩, ⟨4, .guard⟩], some (4, true)⟩) rfl (by kernel_rfl) (by kernel_rfl) (by kernel_rfl) (by kernel_rfl) rfl (fun _ _ _ h => h) (Or.inl ⟨by rfl, ?_⟩) HT ?_
              rotate_left
              · intro W hSW
                go_simp
                try with_reducible rfl
              simp only [Act.put, List.setIfInBounds_toArray, List.set_cons_zero, List.set_cons_succ]
              refine wpAnyL_take' (i := 10) (v := ?_) (oi := ⟨some 47, .fieldAddr 68 (.tmp 1) 1, 0, "ref.go:99", #[⟨4, .guard⟩], some (4, true)⟩) rfl (by kernel_rfl) (by kernel_rfl) (by kernel_rfl) (by kernel_rfl) rfl (fun _ _ _ h => h) (Or.inl ⟨by rfl, ?_⟩) HT ?_
              rotate_left
              · intro W hSW
                go_simp
                try with_reducible rfl
              simp only [Act.put, List.setIfInBounds_toArray, List.set_cons_zero, List.set_cons_succ]
              refine wpAnyL_take' (i := 11) (v := ?_) (oi := ⟨some 48, .load 57 (.tmp 47), 57, "ref.go:99", #[⟨10, .data⟩, ⟨4, .guard⟩], some (4, true)⟩) rfl (by kernel_rfl) (by kernel_rfl) (by kernel_rfl) (by kernel_rfl) rfl (fun _ _ _ h => h) (Or.inl ⟨by rfl, ?_⟩) HT ?_
              rotate_left
              · intro W hSW
                go_simp
                try with_reducible rfl
              simp only [Act.put, List.setIfInBounds_toArray, List.set_cons_zero, List.set_cons_succ]
              refine wpAnyL_take' (i := 12) (v := ?_) (oi := ⟨some 49, .move (.tmp 5), 3, "ref.go:99", #[⟨4, .guard⟩], some (4, true)⟩) rfl (by kernel_rfl) (by kernel_rfl) (by kernel_rfl) (by kernel_rfl) rfl (fun _ _ _ h => h) (Or.inl ⟨by rfl, ?_⟩) HT ?_
              rotate_left
              · intro W hSW
                go_simp
                try with_reducible rfl
              simp only [Act.put, List.setIfInBounds_toArray, List.set_cons_zero, List.set_cons_succ]
              refine wpAnyL_take' (i := 13) (v := ?_) (oi := ⟨some 50, .indexAddr 57 (.tmp 48) (.tmp 49), 0, "ref.go:99", #[⟨11, .data⟩, ⟨12, .data⟩, ⟨4, .guard⟩], some (4, true)⟩) rfl (by kernel_rfl) (by kernel_rfl) (by kernel_rfl) (by kernel_rfl) rfl (fun _ _ _ h => h) (Or.inl ⟨by rfl, ?_⟩) HT ?_
              rotate_left
              · intro W hSW
                go_simp
                try with_reducible rfl
              simp only [Act.put, List.setIfInBounds_toArray, List.set_cons_zero, List.set_cons_succ]
              refine wpAnyL_take' (i := 14) (v := ?_) (oi := ⟨some 51, .load 3 (.tmp 50), 3, "ref.go:99", #[⟨13, .data⟩, ⟨4, .guard⟩], some (4, true)⟩) rfl (by kernel_rfl) (by kernel_rfl) (by kernel_rfl) (by kernel_rfl) rfl (fun _ _ _ h => h) (Or.inl ⟨by rfl, ?_⟩) HT ?_
              rotate_left
              · intro W hSW
                go_simp
                try with_reducible rfl
              simp only [Act.put, List.setIfInBounds_toArray, List.set_cons_zero, List.set_cons_succ]
              refine wpAnyL_take' (i := 15) (v := ?_) (oi := ⟨some 52, .binOp .eql 3 (.tmp 46) (.tmp 51) 3, 4, "ref.go:99", #[⟨9, .data⟩, ⟨14, .data⟩, ⟨4, .guard⟩], some (4, true)⟩) rfl (by kernel_rfl) (by kernel_rfl) (by kernel_rfl) (by kernel_rfl) rfl (fun _ _ _ h => h) (Or.inl ⟨by rfl, ?_⟩) HT ?_
              rotate_left
              · intro W hSW
                go_simp
                try with_reducible rfl
              simp only [Act.put, List.setIfInBounds_toArray, List.set_cons_zero, List.set_cons_succ]
              refine wpAnyL_take' (i := 16) (v := ?_) (oi := ⟨some 53, .pick (.tmp 41) (.tmp 52) (.const (.bool false)), 4, "ref.go:99", #[⟨4, .data⟩, ⟨15, .data⟩], none⟩) rfl (by kernel_rfl) (by kernel_rfl) (by kernel_rfl) (by kernel_rfl) rfl (fun _ _ _ h => h) (Or.inl ⟨by rfl, ?_⟩) HT ?_
              rotate_left
              · intro W hSW
                go_simp
                try with_reducible rfl
              simp only [Act.put, List.setIfInBounds_toArray, List.set_cons_zero, List.set_cons_succ]
              refine wpAnyL_done (by kernel_rfl) ?_ _
              clear HT
              go_wp2_with fail
              exact ⟨⟨k + 1, c2, x, by go_num, by omega, hcl2, HE.out⟩, by simp [intOf]; omega⟩
        · have hxi : i < c2.length := by omega
          obtain ⟨f3, f4⟩ := HK.out.1.facts hxi
          have hxe : c2[i] = x := by
            have h9 := HK.out.2.2.1
            rw [List.getElem?_eq_getElem hxi] at h9
            exact Option.some.inj h9
          rw [hxe] at f3
          clear hxe
          cases LI
          case false =>
            have HE : Hid (RwL w1 c2 wq ∧ RepB l 0 c2 (i + 1)) := by
              obtain ⟨h1, h2, h3, h4⟩ := HK.out
              exact ⟨h1, h2.succ h3 (h4.found HLI.out.1 (fun e => by cases e))⟩
            obtain ⟨C, hC⟩ : ∃ C, decide ((k : Int) < i) = C := ⟨_, rfl⟩
            clear HK HLI HL HX HA HGA HFF hgo
            cases C
            all_goals (go_wp2_with fail; all_goals exact ⟨⟨i + 1, c2, by go_num, by omega, hcl2, HE.out⟩, by simp [intOf]; omega⟩)
          case true =>
            have hke : k = i := by
              apply Classical.byContradiction
              intro hne
              exact hgo ⟨by omega, rfl⟩
            subst hke
            have d1 : decide ((k : Int) < k) = false := decide_eq_false (by omega)
            by_cases hx : x < 0
            · have HE : Hid (RwL w1 (c2.set k (k : Int)) (wq.setCell ⟨w1.heap.size, k, none⟩ (.int .i64 (k : Int))) ∧ RepB l 0 (c2.set k (k : Int)) (k + 1)) := by
                obtain ⟨h1, h2, h3, h4⟩ := HK.out
                exact ⟨h1.put k _, (h2.set _).succ (set_get hxi) (h4.own (HLI.out.1.1 rfl) hx)⟩
              have hcs2 : (c2.set k (k : Int)).length = l.length := by rw [List.length_set]; exact hcl2
              have dx : decide (x < 0) = true := decide_eq_true hx
              generalize c2.set k (k : Int) = c3 at *
              clear HK HLI HL HX HA HGA HFF hgo
              go_wp2_with fail
              exact ⟨⟨k + 1, c3, by go_num, by omega, hcs2, HE.out⟩, by simp [intOf]; omega⟩
            · have HE : Hid (RwL w1 c2 wq ∧ RepB l 0 c2 (k + 1)) := by
                obtain ⟨h1, h2, h3, h4⟩ := HK.out
                exact ⟨h1, h2.succ h3 (h4.found HLI.out.1 (fun _ => by omega))⟩
              have dx : decide (x < 0) = false := decide_eq_false hx
              clear HK HLI HL HX HA HGA HFF hgo
              go_wp2_with fail
              exact ⟨⟨k + 1, c2, by go_num, by omega, hcl2, HE.out⟩, by simp [intOf]; omega⟩
    obtain rfl : i = l.length := by omega
    have HC0 : Hid (CIn l w1 w1.heap.size 0 c wr) := ⟨HI.out.2.all, by have h9 := HI.out.1.row; rw [hcl] at h9; exact h9, HI.out.1.bel⟩
    have d1 : decide ((l.length : Int) < l.length) = false := decide_eq_false (by omega)
    clear HI hlt
    go_wp2_with fail
    clear d1
    go_loopg [4] (((l.length * l.length : Nat) : Int) - sumI c).toNat (fun g cv wr => ∃ (G : Nat) (c : List Int) (k : Nat), cv = .slice (some ⟨G, 0, none⟩) l.length l.length ∧ g = (((l.length * l.length : Nat) : Int) - sumI c).toNat ∧ c.length = l.length ∧ Hid (CIn l w1 G k c wr))
    case atStart => exact ⟨w1.heap.size, c, 0, rfl, rfl, hcl, HC0.out⟩
    case round =>
      rename World => wo
      clear HC0 hcl
      clear c
      obtain ⟨G, c, k, rfl, rfl, hcl, HC⟩ := hrel
      have HCW : Hid (∀ V, Below wo.heap.size wo V → CIn l w1 G k c V) := fun V hV => HC.out.next hV
      obtain ⟨ii, hii, hz0, hz1, hz2⟩ := info_parts info3
      obtain ⟨wm2, hm1, hm2, hm3⟩ := run_makeSlice_full (P := Try.prog) wo wo.heap.size 57 3 ii _ 1 Try.underlying57 hii hz0 hz1 .i64 .i64 l.length (by omega) (by rw [hz2]; omega) (by unfold maxLen; omega) (Nat.le_refl _)
      have HR0 : Hid (RwL wo (List.replicate l.length 0) wm2) := RwL.made hm2 hm3
      clear hm2 hm3 HC
      go_wp2_with fail
      clear hm1
      go_loopw [8, 9] (fun chv iv wr => ∃ (ch : Bool) (i : Nat) (d : List Int), chv = .bool ch ∧ iv = .int .i64 i ∧ i ≤ l.length ∧ d.length = l.length ∧ Hid (RwL wo d wr ∧ RepB l (k + 1) d i ∧ ChgB d c ch i)) (fun _ i _ => l.length - (intOf i).toNat)
      case atStart => exact ⟨false, 0, _, rfl, rfl, Nat.zero_le _, by simp, HR0.out, ⟨by simp, fun j v hj => by omega⟩, fun _ j hj => by omega, fun e => (by cases e)⟩
      case round =>
        rename World => wr
        clear HR0
        obtain ⟨ch, i, d, rfl, rfl, hi, hdl, HI⟩ := hrel
        by_cases hlt : i < l.length
        case neg =>
          obtain rfl : i = l.length := by omega
          have d1 : decide ((l.length : Int) < l.length) = false := decide_eq_false (by omega)
          have HD : Hid (RwL wo d wr ∧ Cl2 l (k + 1) d ∧ ChgB d c ch l.length ∧ CIn l w1 G k c wr) := ⟨HI.out.1, HI.out.2.1.all, HI.out.2.2, HCW.out wr HI.out.1.bel⟩
          cases ch
          case false =>
            have HE : Hid (SlI c (.slice (some ⟨G, 0, none⟩) l.length l.length) wr ∧ Cl2 l k c ∧ Cl2 l (k + 1) c ∧ Below w.heap.size w wr) := by
              obtain ⟨h1, h2, h3, h4⟩ := HD.out
              have e : d = c := List.ext_getElem? (fun j => by
                by_cases hj : j < l.length
                · exact h3.1 rfl j hj
                · rw [List.getElem?_eq_none (by omega), List.getElem?_eq_none (by omega)])
              exact ⟨h4.sl hn, h4.at_, e ▸ h2, (HX.out wr h4.bel).2⟩
            clear HD HI HCW HL HX HA HGA HFF
            go_wp2_with fail
            go_ret
            exact ⟨_, c, k, rfl, HE.out⟩
          case true =>
            have HE : Hid (CIn l w1 wo.heap.size (k + 1) d wr) := by
              obtain ⟨h1, h2, h3, h4⟩ := HD.out
              refine ⟨h2, ?_, h4.bel⟩
              have h9 := h1.row
              rw [hdl] at h9
              have h8 := (HCW.out wo (Below.refl _ _)).bel.size
              exact own_mono h9 h8
            have HM : Hid ((((l.length * l.length : Nat) : Int) - sumI d).toNat < (((l.length * l.length : Nat) : Int) - sumI c).toNat) := by
              obtain ⟨h1, h2, h3, h4⟩ := HD.out
              obtain ⟨j, _, hj⟩ := h3.2 rfl
              have h5 := h4.at_.rise h2 (fun e => hj (by rw [e]))
              have h6 := h2.most
              show _ < _
              push_cast
              omega
            clear HD HI HCW HL HX HA HGA HFF
            go_wp2_with fail
            go_roundg (((l.length * l.length : Nat) : Int) - sumI d).toNat
            case measure => exact HM.out
            case rel => exact ⟨wo.heap.size, d, k + 1, rfl, rfl, hdl, HE.out⟩
        have hid : i < d.length := by omega
        have d1 : decide ((i : Int) < l.length) = true := decide_eq_true (by omega)
        obtain ⟨LI, hLI⟩ : ∃ B, Lf i false = B := ⟨_, rfl⟩
        have HLI : Hid ((LI = true ↔ liveD l i) ∧ ∀ V, Below w1.heap.size w1 V → V.cell? ⟨lb, lo + i, none⟩ = some (.bool LI)) := by
          have h := HL.out i hlt
          rw [hLI] at h
          exact h
        clear hLI
        obtain ⟨k1, k2⟩ := HI.out.1.facts hid
        have HR : Hid (RwL wo (d.set i (-1)) (wr.setCell ⟨wo.heap.size, i, none⟩ (.int .i64 (-1))) ∧ RepB l (k + 1) (d.set i (-1)) i ∧ ChgB (d.set i (-1)) c ch i ∧ (d.set i (-1))[i]? = some (-1)) := ⟨HI.out.1.put i (-1), HI.out.2.1.set (-1), HI.out.2.2.set (-1), set_get hid⟩
        have hds : (d.set i (-1)).length = l.length := by rw [List.length_set]; exact hdl
        obtain ⟨ci, hci⟩ : ∃ x, c[i]? = some x := ⟨_, List.getElem?_eq_getElem (by omega)⟩
        have HCI : Hid (c[i]? = some ci ∧ ∀ V, Below wo.heap.size wo V → V.cell? ⟨G, i, none⟩ = some (.int .i64 ci)) := ⟨hci, fun V hV => by
          have h9 := (HCW.out V hV).cell (j := i) (by omega)
          rw [List.getElem?_eq_getElem (by omega)] at hci
          rw [Option.some.inj hci] at h9
          exact h9⟩
        clear HI hci
        rw [hdl] at *
        go_wp2_with fail
        clear k1 k2 d1
        go_loopw [10] (fun kv wq => ∃ (t : Nat) (d2 : List Int) (x : Int), kv = .int .i64 t ∧ t ≤ i ∧ d2.length = l.length ∧ Hid (RwL wo d2 wq ∧ RepB l (k + 1) d2 i ∧ ChgB d2 c ch i ∧ d2[i]? = some x ∧ SeekR l (k + 1) i t LI x)) (fun k _ => i - (intOf k).toNat)
        case atStart => exact ⟨0, _, -1, rfl, Nat.zero_le _, hds, HR.out.1, HR.out.2.1, HR.out.2.2.1, HR.out.2.2.2, SeekR.start l (k + 1) i LI⟩
        case round =>
          rename World => wq
          clear HR hds
          obtain ⟨t, d2, x, rfl, ht, hdl2, HK⟩ := hrel
          have hxi : i < d2.length := by omega
          obtain ⟨f3, f4⟩ := HK.out.1.facts hxi
          have hxe : d2[i] = x := by
            have h9 := HK.out.2.2.2.1
            rw [List.getElem?_eq_getElem hxi] at h9
            exact Option.some.inj h9
          rw [hxe] at f3
          clear hxe
          have li := HLI.out.2 wq (HCW.out wq HK.out.1.bel).bel
          by_cases hgo : t < i ∧ LI = true ∧ x < 0
          · obtain ⟨hti, rfl, hx⟩ := hgo
            have d1 : decide ((t : Int) < i) = true := decide_eq_true (by omega)
            have dx : decide (x < 0) = true := decide_eq_true hx
            have htl : t < l.length := by omega
            obtain ⟨LT, hLT⟩ : ∃ B, Lf t false = B := ⟨_, rfl⟩
            have HLT : Hid ((LT = true ↔ liveD l t) ∧ ∀ V, Below w1.heap.size w1 V → V.cell? ⟨lb, lo + t, none⟩ = some (.bool LT)) := by
              have h := HL.out t htl
              rw [hLT] at h
              exact h
            clear hLT
            obtain ⟨ct, hct⟩ : ∃ x, c[t]? = some x := ⟨_, List.getElem?_eq_getElem (by omega)⟩
            have bd : Below wq.heap.size wq wq.drew := below_drewN (Below.refl _ _) 1
            have HKD : Hid (RwL wo d2 wq.drew ∧ RepB l (k + 1) d2 i ∧ ChgB d2 c ch i ∧ d2[i]? = some x ∧ SeekR l (k + 1) i t true x) := ⟨HK.out.1.next bd, HK.out.2⟩
            have hcn := HCW.out _ HKD.out.1.bel
            have gt : wq.drew.cell? ⟨G, t, none⟩ = some (.int .i64 ct) := by
              have h9 := hcn.cell (j := t) (by omega)
              have h8 := hct
              rw [List.getElem?_eq_getElem (by omega)] at h8
              rw [Option.some.inj h8] at h9
              exact h9
            have gi := HCI.out.2 _ HKD.out.1.bel
            have lt := HLT.out.2 _ hcn.bel
            obtain ⟨⟨b0, b1⟩, hwb⟩ := HX.out _ hcn.bel
            have HQ : Hid (QK l (k + 1) i t ↔ ct = ci ∧ alkC l c i t) := alk_iff HFF.out.1 hcn.at_ hlt htl HCI.out.1 hct
            have HAL := alike_any l c (.slice (some ⟨gb, go, none⟩) l.length nc) (.slice (some ⟨ab, ao, none⟩) l.length ac) _ i t wq.drew (HGA.out _ hwb).1 (hcn.sl hn) hcl HFF.out.1 hlt htl
            have HT0 := And.intro b0 (And.intro b1 (And.intro lt (And.intro gt gi)))
            clear hcn gt gi lt b0 b1 hwb bd hct HK
            go_upto_region 23 with fail
            clear li d1 dx f3 f4
            have HNO : Hid (¬ QK l (k + 1) i t → RwL wo d2 wq.drew ∧ RepB l (k + 1) d2 i ∧ ChgB d2 c ch i ∧ d2[i]? = some x ∧ SeekR l (k + 1) i (t + 1) true x) := fun hq => by
              obtain ⟨h1, h2, h3, h4, h5⟩ := HKD.out
              exact ⟨h1, h2, h3, h4, h5.no hq⟩
            cases LT
            case false =>
              have HT := HT0
              have HE : Hid (RwL wo d2 wq.drew ∧ RepB l (k + 1) d2 i ∧ ChgB d2 c ch i ∧ d2[i]? = some x ∧ SeekR l (k + 1) i (t + 1) true x) := HNO.out (fun hq => by
                have h5 := hq.live.1 (HLI.out.1.1 rfl)
                have := HLT.out.1.2 h5
                cases this)
              clear HT0 HAL HQ HNO HKD HLT HCI HL HX HA HGA HFF HCW HLI
              refine wp_region_L (fun W => W.cell? ⟨w.heap.size, 0, none⟩ = some (.slice (some ⟨gb, go, none⟩) l.length nc) ∧ W.cell? ⟨w.heap.size, 1, none⟩ = some (.slice (some ⟨ab, ao, none⟩) l.length ac) ∧ W.cell? ⟨lb, lo + t, none⟩ = some (.bool false) ∧ W.cell? ⟨G, t, none⟩ = some (.int .i64 ct) ∧ W.cell? ⟨G, i, none⟩ = some (.int .i64 ci)) 22 (by kernel_rfl) 22 rfl ?_
              refine wpAnyL_take' (i := 0) (v := ?_) (oi := ⟨some 106, .move (.tmp 3), 59, "ref.go:113", #[], none⟩) rfl (by kernel_rfl) (by kernel_rfl) (by kernel_rfl) (by kernel_rfl) rfl (fun _ _ _ h => h) (Or.inl ⟨by rfl, ?_⟩) HT ?_
              rotate_left
              · intro W hSW
                go_simp
                try with_reducible rfl
              simp only [Act.put, List.setIfInBounds_toArray, List.set_cons_zero, List.set_cons_succ]
              refine wpAnyL_take' (i := 1) (v := ?_) (oi := ⟨some 107, .move (.tmp 10), 3, "ref.go:113", #[], none⟩) rfl (by kernel_rfl) (by kernel_rfl) (by kernel_rfl) (by kernel_rfl) rfl (fun _ _ _ h => h) (Or.inl ⟨by rfl, ?_⟩) HT ?_
              rotate_left
              · intro W hSW
                go_simp
                try with_reducible rfl
              simp only [Act.put, List.setIfInBounds_toArray, List.set_cons_zero, List.set_cons_succ]
              refine wpAnyL_take' (i := 2) (v := ?_) (oi := ⟨some 108, .indexAddr 59 (.tmp 106) (.tmp 107), 0, "ref.go:113", #[⟨0, .data⟩, ⟨1, .data⟩], none⟩) rfl (by kernel_rfl) (by kernel_rfl) (by kernel_rfl) (by kernel_rfl) rfl (fun _ _ _ h => h) (Or.inl ⟨by rfl, ?_⟩) HT ?_
              rotate_left
              · intro W hSW
                go_simp
                try with_reducible rfl
              simp only [Act.put, List.setIfInBounds_toArray, List.set_cons_zero, List.set_cons_succ]
              refine wpAnyL_take' (i := 3) (v := ?_) (oi := ⟨some 109, .load 4 (.tmp 108), 4, "ref.go:113", #[⟨2, .data⟩], none⟩) rfl (by kernel_rfl) (by kernel_rfl) (by kernel_rfl) (by kernel_rfl) rfl (fun _ _ _ h => h) (Or.inl ⟨by rfl, ?_⟩) HT ?_
              rotate_left
              · intro W hSW
                go_simp
                try with_reducible rfl
              simp only [Act.put, List.setIfInBounds_toArray, List.set_cons_zero, List.set_cons_succ]
              refine wpAnyL_take' (i := 4) (v := ?_) (oi := ⟨some 110, .move (.tmp 109), 4, "ref.go:113", #[⟨3, .data⟩], none⟩) rfl (by kernel_rfl) (by kernel_rfl) (by kernel_rfl) (by kernel_rfl) rfl (fun _ _ _ h => h) (Or.inl ⟨by rfl, ?_⟩) HT ?_
              rotate_left
              · intro W hSW
                go_simp
                try with_reducible rfl
              simp only [Act.put, List.setIfInBounds_toArray, List.set_cons_zero, List.set_cons_succ]
              refine wpAnyL_take' (i := 5) (v := undef) (oi := ⟨some 111, .move (.tmp 4), 57, "ref.go:113", #[⟨4, .guard⟩], some (4, true)⟩) rfl (by kernel_rfl) (by kernel_rfl) (by kernel_rfl) (by kernel_rfl) rfl (fun _ _ _ h => h) (Or.inr ⟨by rfl, rfl⟩) HT ?_
              simp only [Act.put, List.setIfInBounds_toArray, List.set_cons_zero, List.set_cons_succ]
              refine wpAnyL_take' (i := 6) (v := undef) (oi := ⟨some 112, .move (.tmp 10), 3, "ref.go:113", #[⟨4, .guard⟩], some (4, true)⟩) rfl (by kernel_rfl) (by kernel_rfl) (by kernel_rfl) (by kernel_rfl) rfl (fun _ _ _ h => h) (Or.inr ⟨by rfl, rfl⟩) HT ?_
              simp only [Act.put, List.setIfInBounds_toArray, List.set_cons_zero, List.set_cons_succ]
              refine wpAnyL_take' (i := 7) (v := undef) (oi := ⟨some 113, .indexAddr 57 (.tmp 111) (.tmp 112), 0, "ref.go:113", #[⟨5, .data⟩, ⟨6, .data⟩, ⟨4, .guard⟩], some (4, true)⟩) rfl (by kernel_rfl) (by kernel_rfl) (by kernel_rfl) (by kernel_rfl) rfl (fun _ _ _ h => h) (Or.inr ⟨by rfl, rfl⟩) HT ?_
              simp only [Act.put, List.setIfInBounds_toArray, List.set_cons_zero, List.set_cons_succ]
              refine wpAnyL_take' (i := 8) (v := undef) (oi := ⟨some 114, .load 3 (.tmp 113), 3, "ref.go:113", #[⟨7, .data⟩, ⟨4, .guard⟩], some (4, true)⟩) rfl (by kernel_rfl) (by kernel_rfl) (by kernel_rfl) (by kernel_rfl) rfl (fun _ _ _ h => h) (Or.inr ⟨by rfl, rfl⟩) HT ?_
              simp only [Act.put, List.setIfInBounds_toArray, List.set_cons_zero, List.set_cons_succ]
              refine wpAnyL_take' (i := 9) (v := undef) (oi := ⟨some 115, .move (.tmp 4), 57, "ref.go:113", #[⟨4, .guard⟩], some (4, true)⟩) rfl (by kernel_rfl) (by kernel_rfl) (by kernel_rfl) (by kernel_rfl) rfl (fun _ _ _ h => h) (Or.inr ⟨by rfl, rfl⟩) HT ?_
              simp only [Act.put, List.setIfInBounds_toArray, List.set_cons_zero, List.set_cons_succ]
              refine wpAnyL_take' (i := 10) (v := undef) (oi := ⟨some 116, .move (.tmp 9), 3, "ref.go:113", #[⟨4, .guard⟩], some (4, true)⟩) rfl (by kernel_rfl) (by kernel_rfl) (by kernel_rfl) (by kernel_rfl) rfl (fun _ _ _ h => h) (Or.inr ⟨by rfl, rfl⟩) HT ?_
              simp only [Act.put, List.setIfInBounds_toArray, List.set_cons_zero, List.set_cons_succ]
              refine wpAnyL_take' (i := 11) (v := undef) (oi := ⟨some 117, .indexAddr 57 (.tmp 115) (.tmp 116), 0, "ref.go:113", #[⟨9, .data⟩, ⟨10, .data⟩, ⟨4, .guard⟩], some (4, true)⟩) rfl (by kernel_rfl) (by kernel_rfl) (by kernel_rfl) (by kernel_rfl) rfl (fun _ _ _ h => h) (Or.inr ⟨by rfl, rfl⟩) HT ?_
              simp only [Act.put, List.setIfInBounds_toArray, List.set_cons_zero, List.set_cons_succ]
              refine wpAnyL_take' (i := 12) (v := undef) (oi := ⟨some 118, .load 3 (.tmp 117), 3, "ref.go:113", #[⟨11, .data⟩, ⟨4, .guard⟩], some (4, true)⟩) rfl (by kernel_rfl) (by kernel_rfl) (by kernel_rfl) (by kernel_rfl) rfl (fun _ _ _ h => h) (Or.inr ⟨by rfl, rfl⟩) HT ?_
              simp only [Act.put, List.setIfInBounds_toArray, List.set_cons_zero, List.set_cons_succ]
              refine wpAnyL_take' (i := 13) (v := undef) (oi := ⟨some 119, .binOp .eql 3 (.tmp 114) (.tmp 118) 3, 4, "ref.go:113", #[⟨8, .data⟩, ⟨12, .data⟩, ⟨4, .guard⟩], some (4, true)⟩) rfl (by kernel_rfl) (by kernel_rfl) (by kernel_rfl) (by kernel_rfl) rfl (fun _ _ _ h => h) (Or.inr ⟨by rfl, rfl⟩) HT ?_
              simp only [Act.put, List.setIfInBounds_toArray, List.set_cons_zero, List.set_cons_succ]
              refine wpAnyL_take' (i := 14) (v := ?_) (oi := ⟨some 120, .pick (.tmp 110) (.tmp 119) (.const (.bool false)), 4, "ref.go:113", #[⟨4, .data⟩, ⟨13, .data⟩], none⟩) rfl (by kernel_rfl) (by kernel_rfl) (by kernel_rfl) (by kernel_rfl) rfl (fun _ _ _ h => h) (Or.inl ⟨by rfl, ?_⟩) HT ?_
              rotate_left
              · intro W hSW
                go_simp
                try with_reducible rfl
              simp only [Act.put, List.setIfInBounds_toArray, List.set_cons_zero, List.set_cons_succ]
              refine wpAnyL_take' (i := 15) (v := ?_) (oi := ⟨some 121, .move (.tmp 120), 4, "ref.go:113", #[⟨14, .data⟩, ⟨4, .chain⟩], none⟩) rfl (by kernel_rfl) (by kernel_rfl) (by kernel_rfl) (by kernel_rfl) rfl (fun _ _ _ h => h) (Or.inl ⟨by rfl, ?_⟩) HT ?_
              rotate_left
              · intro W hSW
                go_simp
                try with_reducible rfl
              simp only [Act.put, List.setIfInBounds_toArray, List.set_cons_zero, List.set_cons_succ]
              refine wpAnyL_take' (i := 16) (v := undef) (oi := ⟨some 122, .load 68 (.tmp 1), 68, "ref.go:113", #[⟨15, .guard⟩], some (15, true)⟩) rfl (by kernel_rfl) (by kernel_rfl) (by kernel_rfl) (by kernel_rfl) rfl (fun _ _ _ h => h) (Or.inr ⟨by rfl, rfl⟩) HT ?_
              simp only [Act.put, List.setIfInBounds_toArray, List.set_cons_zero, List.set_cons_succ]
              refine wpAnyL_take' (i := 17) (v := undef) (oi := ⟨some 123, .move (.tmp 4), 57, "ref.go:113", #[⟨15, .guard⟩], some (15, true)⟩) rfl (by kernel_rfl) (by kernel_rfl) (by kernel_rfl) (by kernel_rfl) rfl (fun _ _ _ h => h) (Or.inr ⟨by rfl, rfl⟩) HT ?_
              simp only [Act.put, List.setIfInBounds_toArray, List.set_cons_zero, List.set_cons_succ]
              refine wpAnyL_take' (i := 18) (v := undef) (oi := ⟨some 124, .move (.tmp 9), 3, "ref.go:113", #[⟨15, .guard⟩], some (15, true)⟩) rfl (by kernel_rfl) (by kernel_rfl) (by kernel_rfl) (by kernel_rfl) rfl (fun _ _ _ h => h) (Or.inr ⟨by rfl, rfl⟩) HT ?_
              simp only [Act.put, List.setIfInBounds_toArray, List.set_cons_zero, List.set_cons_succ]
              refine wpAnyL_take' (i := 19) (v := undef) (oi := ⟨some 125, .move (.tmp 10), 3, "ref.go:113", #[⟨15, .guard⟩], some (15, true)⟩) rfl (by kernel_rfl) (by kernel_rfl) (by kernel_rfl) (by kernel_rfl) rfl (fun _ _ _ h => h) (Or.inr ⟨by rfl, rfl⟩) HT ?_
              simp only [Act.put, List.setIfInBounds_toArray, List.set_cons_zero, List.set_cons_succ]
              refine wpAnyL_take' (i := 20) (v := undef) (oi := ⟨some 126, .call ⟨.value (.func 57), #[.tmp 122, .tmp 123, .tmp 124, .tmp 125], #[68, 57, 3, 3]⟩, 4, "ref.go:113", #[⟨16, .data⟩, ⟨17, .data⟩, ⟨18, .data⟩, ⟨19, .data⟩, ⟨15, .chain⟩, ⟨15, .guard⟩], some (15, true)⟩) rfl (by kernel_rfl) (by kernel_rfl) (by kernel_rfl) (by kernel_rfl) rfl (fun _ _ _ h => h) (Or.inr ⟨by rfl, rfl⟩) HT ?_
              simp only [Act.put, List.setIfInBounds_toArray, List.set_cons_zero, List.set_cons_succ]
              refine wpAnyL_take' (i := 21) (v := ?_) (oi := ⟨some 127, .pick (.tmp 121) (.tmp 126) (.const (.bool false)), 4, "ref.go:113", #[⟨15, .data⟩, ⟨20, .data⟩], none⟩) rfl (by kernel_rfl) (by kernel_rfl) (by kernel_rfl) (by kernel_rfl) rfl (fun _ _ _ h => h) (Or.inl ⟨by rfl, ?_⟩) HT ?_
              rotate_left
              · intro W hSW
                go_simp
                try with_reducible rfl
              simp only [Act.put, List.setIfInBounds_toArray, List.set_cons_zero, List.set_cons_succ]
              refine wpAnyL_done (by kernel_rfl) ?_ _
              clear HT
              go_wp2_with fail
              exact ⟨⟨t + 1, d2, x, by go_num, by omega, hdl2, HE.out⟩, by simp [intOf]; omega⟩
            case true =>
              have HT := HT0
              by_cases hcc : ct = ci
              case neg =>
                have dcc : (ct == ci) = false := by simp [hcc]
                have HE : Hid (RwL wo d2 wq.drew ∧ RepB l (k + 1) d2 i ∧ ChgB d2 c ch i ∧ d2[i]? = some x ∧ SeekR l (k + 1) i (t + 1) true x) := HNO.out (fun hq => hcc (HQ.out.1 hq).1)
                clear HT0 HAL HQ HNO HKD HLT HCI HL HX HA HGA HFF HCW HLI hcc
                refine wp_region_L (fun W => W.cell? ⟨w.heap.size, 0, none⟩ = some (.slice (some ⟨gb, go, none⟩) l.length nc) ∧ W.cell? ⟨w.heap.size, 1, none⟩ = some (.slice (some ⟨ab, ao, none⟩) l.length ac) ∧ W.cell? ⟨lb, lo + t, none⟩ = some (.bool true) ∧ W.cell? ⟨G, t, none⟩ = some (.int .i64 ct) ∧ W.cell? ⟨G, i, none⟩ = some (.int .i64 ci)) 22 (by kernel_rfl) 22 rfl ?_
                refine wpAnyL_take' (i := 0) (v := ?_) (oi := ⟨some 106, .move (.tmp 3), 59, "ref.go:113", #[], none⟩) rfl (by kernel_rfl) (by kernel_rfl) (by kernel_rfl) (by kernel_rfl) rfl (fun _ _ _ h => h) (Or.inl ⟨by rfl, ?_⟩) HT ?_
                rotate_left
                · intro W hSW
                  go_simp
                  try with_reducible rfl
                simp only [Act.put, List.setIfInBounds_toArray, List.set_cons_zero, List.set_cons_succ]
                refine wpAnyL_take' (i := 1) (v := ?_) (oi := ⟨some 107, .move (.tmp 10), 3, "ref.go:113", #[], none⟩) rfl (by kernel_rfl) (by kernel_rfl) (by kernel_rfl) (by kernel_rfl) rfl (fun _ _ _ h => h) (Or.inl ⟨by rfl, ?_⟩) HT ?_
                rotate_left
                · intro W hSW
                  go_simp
                  try with_reducible rfl
                simp only [Act.put, List.setIfInBounds_toArray, List.set_cons_zero, List.set_cons_succ]
                refine wpAnyL_take' (i := 2) (v := ?_) (oi := ⟨some 108, .indexAddr 59 (.tmp 106) (.tmp 107), 0, "ref.go:113", #[⟨0, .data⟩, ⟨1, .data⟩], none⟩) rfl (by kernel_rfl) (by kernel_rfl) (by kernel_rfl) (by kernel_rfl) rfl (fun _ _ _ h => h) (Or.inl ⟨by rfl, ?_⟩) HT ?_
                rotate_left
                · intro W hSW
                  go_simp
                  try with_reducible rfl
                simp only [Act.put, List.setIfInBounds_toArray, List.set_cons_zero, List.set_cons_succ]
                refine wpAnyL_take' (i := 3) (v := ?_) (oi := ⟨some 109, .load 4 (.tmp 108), 4, "ref.go:113", #[⟨2, .data⟩], none⟩) rfl (by kernel_rfl) (by kernel_rfl) (by kernel_rfl) (by kernel_rfl) rfl (fun _ _ _ h => h) (Or.inl ⟨by rfl, ?_⟩) HT ?_
                rotate_left
                · intro W hSW
                  go_simp
                  try with_reducible rfl
                simp only [Act.put, List.setIfInBounds_toArray, List.set_cons_zero, List.set_cons_succ]
                refine wpAnyL_take' (i := 4) (v := ?_) (oi := ⟨some 110, .move (.tmp 109), 4, "ref.go:113", #[⟨3, .data⟩], none⟩) rfl (by kernel_rfl) (by kernel_rfl) (by kernel_rfl) (by kernel_rfl) rfl (fun _ _ _ h => h) (Or.inl ⟨by rfl, ?_⟩) HT ?_
                rotate_left
                · intro W hSW
                  go_simp
                  try with_reducible rfl
                simp only [Act.put, List.setIfInBounds_toArray, List.set_cons_zero, List.set_cons_succ]
                refine wpAnyL_take' (i := 5) (v := ?_) (oi := ⟨some 111, .move (.tmp 4), 57, "ref.go:113", #[⟨4, .guard⟩], some (4, true)⟩) rfl (by kernel_rfl) (by kernel_rfl) (by kernel_rfl) (by kernel_rfl) rfl (fun _ _ _ h => h) (Or.inl ⟨by rfl, ?_⟩) HT ?_
                rotate_left
                · intro W hSW
                  go_simp
                  try with_reducible rfl
                simp only [Act.put, List.setIfInBounds_toArray, List.set_cons_zero, List.set_cons_succ]
                refine wpAnyL_take' (i := 6) (v := ?_) (oi := ⟨some 112, .move (.tmp 10), 3, "ref.go:113", #[⟨4, .guard⟩], some (4, true)⟩) rfl (by kernel_rfl) (by kernel_rfl) (by kernel_rfl) (by kernel_rfl) rfl (fun _ _ _ h => h) (Or.inl ⟨by rfl, ?_⟩) HT ?_
                rotate_left
                · intro W hSW
                  go_simp
                  try with_reducible rfl
                simp only [Act.put, List.setIfInBounds_toArray, List.set_cons_zero, List.set_cons_succ]
                refine wpAnyL_take' (i := 7) (v := ?_) (oi := ⟨some 113, .indexAddr 57 (.tmp 111) (.tmp 112), 0, "ref.go:113", #[⟨5, .data⟩, ⟨6, .data⟩, ⟨4, .guard⟩], some (4, true)⟩) rfl (by kernel_rfl) (by kernel_rfl) (by kernel_rfl) (by kernel_rfl) rfl (fun _ _ _ h => h) (Or.inl ⟨by rfl, ?_⟩) HT ?_
                rotate_left
                · intro W hSW
                  go_simp
                  try with_reducible rfl
                simp only [Act.put, List.setIfInBounds_toArray, List.set_cons_zero, List.set_cons_succ]
                refine wpAnyL_take' (i := 8) (v := ?_) (oi := ⟨some 114, .load 3 (.tmp 113), 3, "ref.go:113", #[⟨7, .data⟩, ⟨4, .guard⟩], some (4, true)⟩) rfl (by kernel_rfl) (by kernel_rfl) (by kernel_rfl) (by kernel_rfl) rfl (fun _ _ _ h => h) (Or.inl ⟨by rfl, ?_⟩) HT ?_
                rotate_left
                · intro W hSW
                  go_simp
                  try with_reducible rfl
                simp only [Act.put, List.setIfInBounds_toArray, List.set_cons_zero, List.set_cons_succ]
                refine wpAnyL_take' (i := 9) (v := ?_) (oi := ⟨some 115, .move (.tmp 4), 57, "ref.go:113", #[⟨4, .guard⟩], some (4, true)⟩) rfl (by kernel_rfl) (by kernel_rfl) (by kernel_rfl) (by kernel_rfl) rfl (fun _ _ _ h => h) (Or.inl ⟨by rfl, ?_⟩) HT ?_
                rotate_left
                · intro W hSW
                  go_simp
                  try with_reducible rfl
                simp only [Act.put, List.setIfInBounds_toArray, List.set_cons_zero, List.set_cons_succ]
                refine wpAnyL_take' (i := 10) (v := ?_) (oi := ⟨some 116, .move (.tmp 9), 3, "ref.go:113", #[⟨4, .guard⟩], some (4, true)⟩) rfl (by kernel_rfl) (by kernel_rfl) (by kernel_rfl) (by kernel_rfl) rfl (fun _ _ _ h => h) (Or.inl ⟨by rfl, ?_⟩) HT ?_
                rotate_left
                · intro W hSW
                  go_simp
                  try with_reducible rfl
                simp only [Act.put, List.setIfInBounds_toArray, List.set_cons_zero, List.set_cons_succ]
                refine wpAnyL_take' (i := 11) (v := ?_) (oi := ⟨some 117, .indexAddr 57 (.tmp 115) (.tmp 116), 0, "ref.go:113", #[⟨9, .data⟩, ⟨10, .data⟩, ⟨4, .guard⟩], some (4, true)⟩) rfl (by kernel_rfl) (by kernel_rfl) (by kernel_rfl) (by kernel_rfl) rfl (fun _ _ _ h => h) (Or.inl ⟨by rfl, ?_⟩) HT ?_
                rotate_left
                · intro W hSW
                  go_simp
                  try with_reducible rfl
                simp only [Act.put, List.setIfInBounds_toArray, List.set_cons_zero, List.set_cons_succ]
                refine wpAnyL_take' (i := 12) (v := ?_) (oi := ⟨some 118, .load 3 (.tmp 117), 3, "ref.go:113", #[⟨11, .data⟩, ⟨4, .guard⟩], some (4, true)⟩) rfl (by kernel_rfl) (by kernel_rfl) (by kernel_rfl) (by kernel_rfl) rfl (fun _ _ _ h => h) (Or.inl ⟨by rfl, ?_⟩) HT ?_
                rotate_left
                · intro W hSW
                  go_simp
                  try with_reducible rfl
                simp only [Act.put, List.setIfInBounds_toArray, List.set_cons_zero, List.set_cons_succ]
                refine wpAnyL_take' (i := 13) (v := ?_) (oi := ⟨some 119, .binOp .eql 3 (.tmp 114) (.tmp 118) 3, 4, "ref.go:113", #[⟨8, .data⟩, ⟨12, .data⟩, ⟨4, .guard⟩], some (4, true)⟩) rfl (by kernel_rfl) (by kernel_rfl) (by kernel_rfl) (by kernel_rfl) rfl (fun _ _ _ h => h) (Or.inl ⟨by rfl, ?_⟩) HT ?_
                rotate_left
                · intro W hSW
                  go_simp
                  try with_reducible rfl
                simp only [Act.put, List.setIfInBounds_toArray, List.set_cons_zero, List.set_cons_succ]
                refine wpAnyL_take' (i := 14) (v := ?_) (oi := ⟨some 120, .pick (.tmp 110) (.tmp 119) (.const (.bool false)), 4, "ref.go:113", #[⟨4, .data⟩, ⟨13, .data⟩], none⟩) rfl (by kernel_rfl) (by kernel_rfl) (by kernel_rfl) (by kernel_rfl) rfl (fun _ _ _ h => h) (Or.inl ⟨by rfl, ?_⟩) HT ?_
                rotate_left
                · intro W hSW
                  go_simp
                  try with_reducible rfl
                simp only [Act.put, List.setIfInBounds_toArray, List.set_cons_zero, List.set_cons_succ]
                refine wpAnyL_take' (i := 15) (v := ?_) (oi := ⟨some 121, .move (.tmp 120), 4, "ref.go:113", #[⟨14, .data⟩, ⟨4, .chain⟩], none⟩) rfl (by kernel_rfl) (by kernel_rfl) (by kernel_rfl) (by kernel_rfl) rfl (fun _ _ _ h => h) (Or.inl ⟨by rfl, ?_⟩) HT ?_
                rotate_left
                · intro W hSW
                  go_simp
                  try with_reducible rfl
                simp only [Act.put, List.setIfInBounds_toArray, List.set_cons_zero, List.set_cons_succ]
                refine wpAnyL_take' (i := 16) (v := undef) (oi := ⟨some 122, .load 68 (.tmp 1), 68, "ref.go:113", #[⟨15, .guard⟩], some (15, true)⟩) rfl (by kernel_rfl) (by kernel_rfl) (by kernel_rfl) (by kernel_rfl) rfl (fun _ _ _ h => h) (Or.inr ⟨by rfl, rfl⟩) HT ?_
                simp only [Act.put, List.setIfInBounds_toArray, List.set_cons_zero, List.set_cons_succ]
                refine wpAnyL_take' (i := 17) (v := undef) (oi := ⟨some 123, .move (.tmp 4), 57, "ref.go:113", #[⟨15, .guard⟩], some (15, true)⟩) rfl (by kernel_rfl) (by kernel_rfl) (by kernel_rfl) (by kernel_rfl) rfl (fun _ _ _ h => h) (Or.inr ⟨by rfl, rfl⟩) HT ?_
                simp only [Act.put, List.setIfInBounds_toArray, List.set_cons_zero, List.set_cons_succ]
                refine wpAnyL_take' (i := 18) (v := undef) (oi := ⟨some 124, .move (.tmp 9), 3, "ref.go:113", #[⟨15, .guard⟩], some (15, true)⟩) rfl (by kernel_rfl) (by kernel_rfl) (by kernel_rfl) (by kernel_rfl) rfl (fun _ _ _ h => h) (Or.inr ⟨by rfl, rfl⟩) HT ?_
                simp only [Act.put, List.setIfInBounds_toArray, List.set_cons_zero, List.set_cons_succ]
                refine wpAnyL_take' (i := 19) (v := undef) (oi := ⟨some 125, .move (.tmp 10), 3, "ref.go:113", #[⟨15, .guard⟩], some (15, true)⟩) rfl (by kernel_rfl) (by kernel_rfl) (by kernel_rfl) (by kernel_rfl) rfl (fun _ _ _ h => h) (Or.inr ⟨by rfl, rfl⟩) HT ?_
                simp only [Act.put, List.setIfInBounds_toArray, List.set_cons_zero, List.set_cons_succ]
                refine wpAnyL_take' (i := 20) (v := undef) (oi := ⟨some 126, .call ⟨.value (.func 57), #[.tmp 122, .tmp 123, .tmp 124, .tmp 125], #[68, 57, 3, 3]⟩, 4, "ref.go:113", #[⟨16, .data⟩, ⟨17, .data⟩, ⟨18, .data⟩, ⟨19, .data⟩, ⟨15, .chain⟩, ⟨15, .guard⟩], some (15, true)⟩) rfl (by kernel_rfl) (by kernel_rfl) (by kernel_rfl) (by kernel_rfl) rfl (fun _ _ _ h => h) (Or.inr ⟨by rfl, rfl⟩) HT ?_
                simp only [Act.put, List.setIfInBounds_toArray, List.set_cons_zero, List.set_cons_succ]
                refine wpAnyL_take' (i := 21) (v := ?_) (oi := ⟨some 127, .pick (.tmp 121) (.tmp 126) (.const (.bool false)), 4, "ref.go:113", #[⟨15, .data⟩, ⟨20, .data⟩], none⟩) rfl (by kernel_rfl) (by kernel_rfl) (by kernel_rfl) (by kernel_rfl) rfl (fun _ _ _ h => h) (Or.inl ⟨by rfl, ?_⟩) HT ?_
                rotate_left
                · intro W hSW
                  go_simp
                  try with_reducible rfl
                simp only [Act.put, List.setIfInBounds_toArray, List.set_cons_zero, List.set_cons_succ]
                refine wpAnyL_done (by kernel_rfl) ?_ _
                clear HT
                go_wp2_with fail
                exact ⟨⟨t + 1, d2, x, by go_num, by omega, hdl2, HE.out⟩, by simp [intOf]; omega⟩
              case pos =>
                have dcc : (ct == ci) = true := by simp [hcc]
                have HQ2 : Hid (QK l (k + 1) i t ↔ alkC l c i t) := ⟨fun h => (HQ.out.1 h).2, fun h => HQ.out.2 ⟨hcc, h⟩⟩
                have HS23 : ∀ V1 : World, Below wq.drew.heap.size wq.drew V1 → V1.cell? ⟨w.heap.size, 0, none⟩ = some (.slice (some ⟨gb, go, none⟩) l.length nc) ∧ V1.cell? ⟨w.heap.size, 1, none⟩ = some (.slice (some ⟨ab, ao, none⟩) l.length ac) ∧ V1.cell? ⟨lb, lo + t, none⟩ = some (.bool true) ∧ V1.cell? ⟨G, t, none⟩ = some (.int .i64 ct) ∧ V1.cell? ⟨G, i, none⟩ = some (.int .i64 ci) := fun V1 hb1 => ⟨(hb1.cell (p := ⟨w.heap.size, 0, none⟩) (World.block_lt_of_cell? _ _ HT0.1)).trans HT0.1, (hb1.cell (p := ⟨w.heap.size, 1, none⟩) (World.block_lt_of_cell? _ _ HT0.2.1)).trans HT0.2.1, (hb1.cell (p := ⟨lb, lo + t, none⟩) (World.block_lt_of_cell? _ _ HT0.2.2.1)).trans HT0.2.2.1, (hb1.cell (p := ⟨G, t, none⟩) (World.block_lt_of_cell? _ _ HT0.2.2.2.1)).trans HT0.2.2.2.1, (hb1.cell (p := ⟨G, i, none⟩) (World.block_lt_of_cell? _ _ HT0.2.2.2.2)).trans HT0.2.2.2.2⟩
                clear HT0 HQ hcc HCI HL HX HA HGA HFF HCW HLI HLT
                refine wp_region_L (fun W => W.cell? ⟨w.heap.size, 0, none⟩ = some (.slice (some ⟨gb, go, none⟩) l.length nc) ∧ W.cell? ⟨w.heap.size, 1, none⟩ = some (.slice (some ⟨ab, ao, none⟩) l.length ac) ∧ W.cell? ⟨lb, lo + t, none⟩ = some (.bool true) ∧ W.cell? ⟨G, t, none⟩ = some (.int .i64 ct) ∧ W.cell? ⟨G, i, none⟩ = some (.int .i64 ci)) 22 (by kernel_rfl) 22 rfl ?_
                refine wpAnyL_take' (i := 0) (v := ?_) (oi := ⟨some 106, .move (.tmp 3), 59, "ref.go:113", #[], none⟩) rfl (by kernel_rfl) (by kernel_rfl) (by kernel_rfl) (by kernel_rfl) rfl (fun _ _ _ h => h) (Or.inl ⟨by rfl, ?_⟩) HT ?_
                rotate_left
                · intro W hSW
                  go_simp
                  try with_reducible rfl
                simp only [Act.put, List.setIfInBounds_toArray, List.set_cons_zero, List.set_cons_succ]
                refine wpAnyL_take' (i := 1) (v := ?_) (oi := ⟨some 107, .move (.tmp 10), 3, "ref.go:113", #[], none⟩) rfl (by kernel_rfl) (by kernel_rfl) (by kernel_rfl) (by kernel_rfl) rfl (fun _ _ _ h => h) (Or.inl ⟨by rfl, ?_⟩) HT ?_
                rotate_left
                · intro W hSW
                  go_simp
                  try with_reducible rfl
                simp only [Act.put, List.setIfInBounds_toArray, List.set_cons_zero, List.set_cons_succ]
                refine wpAnyL_take' (i := 2) (v := ?_) (oi := ⟨some 108, .indexAddr 59 (.tmp 106) (.tmp 107), 0, "ref.go:113", #[⟨0, .data⟩, ⟨1, .data⟩], none⟩) rfl (by kernel_rfl) (by kernel_rfl) (by kernel_rfl) (by kernel_rfl) rfl (fun _ _ _ h => h) (Or.inl ⟨by rfl, ?_⟩) HT ?_
                rotate_left
                · intro W hSW
                  go_simp
                  try with_reducible rfl
                simp only [Act.put, List.setIfInBounds_toArray, List.set_cons_zero, List.set_cons_succ]
                refine wpAnyL_take' (i := 3) (v := ?_) (oi := ⟨some 109, .load 4 (.tmp 108), 4, "ref.go:113", #[⟨2, .data⟩], none⟩) rfl (by kernel_rfl) (by kernel_rfl) (by kernel_rfl) (by kernel_rfl) rfl (fun _ _ _ h => h) (Or.inl ⟨by rfl, ?_⟩) HT ?_
                rotate_left
                · intro W hSW
                  go_simp
                  try with_reducible rfl
                simp only [Act.put, List.setIfInBounds_toArray, List.set_cons_zero, List.set_cons_succ]
                refine wpAnyL_take' (i := 4) (v := ?_) (oi := ⟨some 110, .move (.tmp 109), 4, "ref.go:113", #[⟨3, .data⟩], none⟩) rfl (by kernel_rfl) (by kernel_rfl) (by kernel_rfl) (by kernel_rfl) rfl (fun _ _ _ h => h) (Or.inl ⟨by rfl, ?_⟩) HT ?_
                rotate_left
                · intro W hSW
                  go_simp
                  try with_reducible rfl
                simp only [Act.put, List.setIfInBounds_toArray, List.set_cons_zero, List.set_cons_succ]
                refine wpAnyL_take' (i := 5) (v := ?_) (oi := ⟨some 111, .move (.tmp 4), 57, "ref.go:113", #[⟨4, .guard⟩], some (4, true)⟩) rfl (by kernel_rfl) (by kernel_rfl) (by kernel_rfl) (by kernel_rfl) rfl (fun _ _ _ h => h) (Or.inl ⟨by rfl, ?_⟩) HT ?_
                rotate_left
                · intro W hSW
                  go_simp
                  try with_reducible rfl
                simp only [Act.put, List.setIfInBounds_toArray, List.set_cons_zero, List.set_cons_succ]
                refine wpAnyL_take' (i := 6) (v := ?_) (oi := ⟨some 112, .move (.tmp 10), 3, "ref.go:113", #[⟨4, .guard⟩], some (4, true)⟩) rfl (by kernel_rfl) (by kernel_rfl) (by kernel_rfl) (by kernel_rfl) rfl (fun _ _ _ h => h) (Or.inl ⟨by rfl, ?_⟩) HT ?_
                rotate_left
                · intro W hSW
                  go_simp
                  try with_reducible rfl
                simp only [Act.put, List.setIfInBounds_toArray, List.set_cons_zero, List.set_cons_succ]
                refine wpAnyL_take' (i := 7) (v := ?_) (oi := ⟨some 113, .indexAddr 57 (.tmp 111) (.tmp 112), 0, "ref.go:113", #[⟨5, .data⟩, ⟨6, .data⟩, ⟨4, .guard⟩], some (4, true)⟩) rfl (by kernel_rfl) (by kernel_rfl) (by kernel_rfl) (by kernel_rfl) rfl (fun _ _ _ h => h) (Or.inl ⟨by rfl, ?_⟩) HT ?_
                rotate_left
                · intro W hSW
                  go_simp
                  try with_reducible rfl
                simp only [Act.put, List.setIfInBounds_toArray, List.set_cons_zero, List.set_cons_succ]
                refine wpAnyL_take' (i := 8) (v := ?_) (oi := ⟨some 114, .load 3 (.tmp 113), 3, "ref.go:113", #[⟨7, .data⟩, ⟨4, .guard⟩], some (4, true)⟩) rfl (by kernel_rfl) (by kernel_rfl) (by kernel_rfl) (by kernel_rfl) rfl (fun _ _ _ h => h) (Or.inl ⟨by rfl, ?_⟩) HT ?_
                rotate_left
                · intro W hSW
                  go_simp
                  try with_reducible rfl
                simp only [Act.put, List.setIfInBounds_toArray, List.set_cons_zero, List.set_cons_succ]
                refine wpAnyL_take' (i := 9) (v := ?_) (oi := ⟨some 115, .move (.tmp 4), 57, "ref.go:113", #[⟨4, .guard⟩], some (4, true)⟩) rfl (by kernel_rfl) (by kernel_rfl) (by kernel_rfl) (by kernel_rfl) rfl (fun _ _ _ h => h) (Or.inl ⟨by rfl, ?_⟩) HT ?_
                rotate_left
                · intro W hSW
                  go_simp
                  try with_reducible rfl
                simp only [Act.put, List.setIfInBounds_toArray, List.set_cons_zero, List.set_cons_succ]
                refine wpAnyL_take' (i := 10) (v := ?_) (oi := ⟨some 116, .move (.tmp 9), 3, "ref.go:113", #[⟨4, .guard⟩], some (4, true)⟩) rfl (by kernel_rfl) (by kernel_rfl) (by kernel_rfl) (by kernel_rfl) rfl (fun _ _ _ h => h) (Or.inl ⟨by rfl, ?_⟩) HT ?_
                rotate_left
                · intro W hSW
                  go_simp
                  try with_reducible rfl
                simp only [Act.put, List.setIfInBounds_toArray, List.set_cons_zero, List.set_cons_succ]
                refine wpAnyL_take' (i := 11) (v := ?_) (oi := ⟨some 117, .indexAddr 57 (.tmp 115) (.tmp 116), 0, "ref.go:113", #[⟨9, .data⟩, ⟨10, .data⟩, ⟨4, .guard⟩], some (4, true)⟩) rfl (by kernel_rfl) (by kernel_rfl) (by kernel_rfl) (by kernel_rfl) rfl (fun _ _ _ h => h) (Or.inl ⟨by rfl, ?_⟩) HT ?_
                rotate_left
                · intro W hSW
                  go_simp
                  try with_reducible rfl
                simp only [Act.put, List.setIfInBounds_toArray, List.set_cons_zero, List.set_cons_succ]
                refine wpAnyL_take' (i := 12) (v := ?_) (oi := ⟨some 118, .load 3 (.tmp 117), 3, "ref.go:113", #[⟨11, .data⟩, ⟨4, .guard⟩], some (4, true)⟩) rfl (by kernel_rfl) (by kernel_rfl) (by kernel_rfl) (by kernel_rfl) rfl (fun _ _ _ h => h) (Or.inl ⟨by rfl, ?_⟩) HT ?_
                rotate_left
                · intro W hSW
                  go_simp
                  try with_reducible rfl
                simp only [Act.put, List.setIfInBounds_toArray, List.set_cons_zero, List.set_cons_succ]
                refine wpAnyL_take' (i := 13) (v := ?_) (oi := ⟨some 119, .binOp .eql 3 (.tmp 114) (.tmp 118) 3, 4, "ref.go:113", #[⟨8, .data⟩, ⟨12, .data⟩, ⟨4, .guard⟩], some (4, true)⟩) rfl (by kernel_rfl) (by kernel_rfl) (by kernel_rfl) (by kernel_rfl) rfl (fun _ _ _ h => h) (Or.inl ⟨by rfl, ?_⟩) HT ?_
                rotate_left
                · intro W hSW
                  go_simp
                  try with_reducible rfl
                simp only [Act.put, List.setIfInBounds_toArray, List.set_cons_zero, List.set_cons_succ]
                refine wpAnyL_take' (i := 14) (v := ?_) (oi := ⟨some 120, .pick (.tmp 110) (.tmp 119) (.const (.bool false)), 4, "ref.go:113", #[⟨4, .data⟩, ⟨13, .data⟩], none⟩) rfl (by kernel_rfl) (by kernel_rfl) (by kernel_rfl) (by kernel_rfl) rfl (fun _ _ _ h => h) (Or.inl ⟨by rfl, ?_⟩) HT ?_
                rotate_left
                · intro W hSW
                  go_simp
                  try with_reducible rfl
                simp only [Act.put, List.setIfInBounds_toArray, List.set_cons_zero, List.set_cons_succ]
                refine wpAnyL_take' (i := 15) (v := ?_) (oi := ⟨some 121, .move (.tmp 120), 4, "ref.go:113", #[⟨14, .data⟩, ⟨4, .chain⟩], none⟩) rfl (by kernel_rfl) (by kernel_rfl) (by kernel_rfl) (by kernel_rfl) rfl (fun _ _ _ h => h) (Or.inl ⟨by rfl, ?_⟩) HT ?_
                rotate_left
                · intro W hSW
                  go_simp
                  try with_reducible rfl
                simp only [Act.put, List.setIfInBounds_toArray, List.set_cons_zero, List.set_cons_succ]
                refine wpAnyL_take' (i := 16) (v := ?_) (oi := ⟨some 122, .load 68 (.tmp 1), 68, "ref.go:113", #[⟨15, .guard⟩], some (15, true)⟩) rfl (by kernel_rfl) (by kernel_rfl) (by kernel_rfl) (by kernel_rfl) rfl (fun _ _ _ h => h) (Or.inl ⟨by rfl, ?_⟩) HT ?_
                rotate_left
                · intro W hSW
                  go_simp
                  try with_reducible rfl
                simp only [Act.put, List.setIfInBounds_toArray, List.set_cons_zero, List.set_cons_succ]
                refine wpAnyL_take' (i := 17) (v := ?_) (oi := ⟨some 123, .move (.tmp 4), 57, "ref.go:113", #[⟨15, .guard⟩], some (15, true)⟩) rfl (by kernel_rfl) (by kernel_rfl) (by kernel_rfl) (by kernel_rfl) rfl (fun _ _ _ h => h) (Or.inl ⟨by rfl, ?_⟩) HT ?_
                rotate_left
                · intro W hSW
                  go_simp
                  try with_reducible rfl
                simp only [Act.put, List.setIfInBounds_toArray, List.set_cons_zero, List.set_cons_succ]
                refine wpAnyL_take' (i := 18) (v := ?_) (oi := ⟨some 124, .move (.tmp 9), 3, "ref.go:113", #[⟨15, .guard⟩], some (15, true)⟩) rfl (by kernel_rfl) (by kernel_rfl) (by kernel_rfl) (by kernel_rfl) rfl (fun _ _ _ h => h) (Or.inl ⟨by rfl, ?_⟩) HT ?_
                rotate_left
                · intro W hSW
                  go_simp
                  try with_reducible rfl
                simp only [Act.put, List.setIfInBounds_toArray, List.set_cons_zero, List.set_cons_succ]
                refine wpAnyL_take' (i := 19) (v := ?_) (oi := ⟨some 125, .move (.tmp 10), 3, "ref.go:113", #[⟨15, .guard⟩], some (15, true)⟩) rfl (by kernel_rfl) (by kernel_rfl) (by kernel_rfl) (by kernel_rfl) rfl (fun _ _ _ h => h) (Or.inl ⟨by rfl, ?_⟩) HT ?_
                rotate_left
                · intro W hSW
                  go_simp
                  try with_reducible rfl
                simp only [Act.put, List.setIfInBounds_toArray, List.set_cons_zero, List.set_cons_succ]
                refine wpAnyL_one' (i := 20) (o := ⟨some 126, .call ⟨.value (.func 57), #[.tmp 122, .tmp 123, .tmp 124, .tmp 125], #[68, 57, 3, 3]⟩, 4, "ref.go:113", #[⟨16, .data⟩, ⟨17, .data⟩, ⟨18, .data⟩, ⟨19, .data⟩, ⟨15, .chain⟩, ⟨15, .guard⟩], some (15, true)⟩) (by kernel_rfl) rfl rfl (fun K hK => ?_)
                go_simp
                refine (HAL).mono ?_
                rintro e V1 ⟨B, rfl, hB, hb1⟩
                refine hK.out _ _ (fun _ => (HS23 _ hb1)) ?_
                clear hK
                refine wpAnyL_take' (i := 21) (v := ?_) (oi := ⟨some 127, .pick (.tmp 121) (.tmp 126) (.const (.bool false)), 4, "ref.go:113", #[⟨15, .data⟩, ⟨20, .data⟩], none⟩) rfl (by kernel_rfl) (by kernel_rfl) (by kernel_rfl) (by kernel_rfl) rfl (fun _ _ _ h => h) (Or.inl ⟨by rfl, ?_⟩) (HS23 _ hb1) ?_
                rotate_left
                · intro W hSW
                  go_simp
                  try with_reducible rfl
                simp only [Act.put, List.setIfInBounds_toArray, List.set_cons_zero, List.set_cons_succ]
                refine wpAnyL_done (by kernel_rfl) ?_ _
                have HV : Hid (RwL wo d2 V1 ∧ RepB l (k + 1) d2 i ∧ ChgB d2 c ch i ∧ d2[i]? = some x ∧ SeekR l (k + 1) i t true x) := ⟨HKD.out.1.next hb1, HKD.out.2⟩
                clear HT HAL HS23 HKD HNO hb1
                have htc : t < d2.length := by omega
                obtain ⟨f1, _⟩ := HV.out.1.facts htc
                obtain ⟨f5, f6⟩ := HV.out.1.facts hxi
                cases B
                case false =>
                  have HE : Hid (RwL wo d2 V1 ∧ RepB l (k + 1) d2 i ∧ ChgB d2 c ch i ∧ d2[i]? = some x ∧ SeekR l (k + 1) i (t + 1) true x) := by
                    obtain ⟨h1, h2, h3, h4, h5⟩ := HV.out
                    exact ⟨h1, h2, h3, h4, h5.no (fun hq => by have := hB.2 (HQ2.out.1 hq); cases this)⟩
                  clear HV HQ2 hB f1 f5 f6
                  go_wp2_with fail
                  exact ⟨⟨t + 1, d2, x, by go_num, by omega, hdl2, HE.out⟩, by simp [intOf]; omega⟩
                case true =>
                  have HE : Hid (RwL wo (d2.set i d2[t]) (V1.setCell ⟨wo.heap.size, i, none⟩ (.int .i64 d2[t])) ∧ RepB l (k + 1) (d2.set i d2[t]) i ∧ ChgB (d2.set i d2[t]) c ch i ∧ (d2.set i d2[t])[i]? = some d2[t] ∧ SeekR l (k + 1) i (t + 1) true d2[t]) := by
                    obtain ⟨h1, h2, h3, h4, h5⟩ := HV.out
                    exact ⟨h1.put i _, h2.set _, h3.set _, set_get hxi, SeekR.yes (by omega) (h2.2 t _ hti (List.getElem?_eq_getElem htc)) (HQ2.out.2 (hB.1 rfl))⟩
                  have hds2 : (d2.set i d2[t]).length = l.length := by rw [List.length_set]; exact hdl2
                  generalize d2.set i d2[t] = d3 at *
                  generalize d2[t] = y at *
                  clear HV HQ2 hB
                  go_wp2_with fail
                  exact ⟨⟨t + 1, d3, y, by go_num, by omega, hds2, HE.out⟩, by simp [intOf]; omega⟩
          · by_cases hst : LI = true ∧ x < 0
            · obtain ⟨rfl, hx⟩ := hst
              have hte : t = i := by
                apply Classical.byContradiction
                intro hne
                exact hgo ⟨by omega, rfl, hx⟩
              have hn1 : ¬ ((t : Int) < (i : Int)) := by omega
              have d1 : decide ((t : Int) < i) = false := decide_eq_false hn1
              have dx : decide (x < 0) = true := decide_eq_true hx
              have HE : Hid (RwL wo (d2.set i (i : Int)) (wq.setCell ⟨wo.heap.size, i, none⟩ (.int .i64 (i : Int))) ∧ RepB l (k + 1) (d2.set i (i : Int)) (i + 1) ∧ ChgB (d2.set i (i : Int)) c ch i ∧ (d2.set i (i : Int))[i]? = some (i : Int)) := by
                obtain ⟨h1, h2, h3, h4, h5⟩ := HK.out
                rw [hte] at h5
                exact ⟨h1.put i _, (h2.set _).succ (set_get hxi) (h5.own (HLI.out.1.1 rfl) hx), h3.set _, set_get hxi⟩
              have hds2 : (d2.set i (i : Int)).length = l.length := by rw [List.length_set]; exact hdl2
              generalize d2.set i (i : Int) = d3 at *
              clear HK hgo hte
              go_upto_region 27 with fail
              clear f3 f4 li d1 dx hn1
              have HE9 := HE.out
              generalize (wq.setCell ⟨wo.heap.size, i, none⟩ (.int .i64 (i : Int))) = W3 at *
              have HE : Hid (RwL wo d3 W3 ∧ RepB l (k + 1) d3 (i + 1) ∧ ChgB d3 c ch i ∧ d3[i]? = some (i : Int)) := HE9
              clear HE9
              have bd3 : Below W3.heap.size W3 W3.drew := below_drewN (Below.refl _ _) 1
              have HR3 := HE.out.1.next bd3
              have gy := (HR3.facts (j := i) (by omega)).1
              have hye : d3[i]'(by omega) = (i : Int) := by
                have h9 := HE.out.2.2.2
                rw [List.getElem?_eq_getElem (by omega)] at h9
                exact Option.some.inj h9
              rw [hye] at gy
              have gci := HCI.out.2 _ HR3.bel
              have HT := And.intro gy gci
              have HF : Hid (RwL wo d3 W3.drew ∧ RepB l (k + 1) d3 (i + 1) ∧ ChgB d3 c (ch || ((i : Int) != ci)) (i + 1)) := ⟨HR3, HE.out.2.1, HE.out.2.2.1.succ HE.out.2.2.2 HCI.out.1⟩
              clear hye gy gci HR3 HE HCI HL HX HA HGA HFF HCW HLI
              cases ch
              case true =>
                refine wp_region_L (fun W => W.cell? ⟨wo.heap.size, i, none⟩ = some (.int .i64 (i : Int)) ∧ W.cell? ⟨G, i, none⟩ = some (.int .i64 ci)) 13 (by kernel_rfl) 13 rfl ?_
                refine wpAnyL_take' (i := 0) (v := ?_) (oi := ⟨some 150, .move (.tmp 8), 4, "ref.go:120", #[], none⟩) rfl (by kernel_rfl) (by kernel_rfl) (by kernel_rfl) (by kernel_rfl) rfl (fun _ _ _ h => h) (Or.inl ⟨by rfl, ?_⟩) HT ?_
                rotate_left
                · intro W hSW
                  go_simp
                  try with_reducible rfl
                simp only [Act.put, List.setIfInBounds_toArray, List.set_cons_zero, List.set_cons_succ]
                refine wpAnyL_take' (i := 1) (v := ?_) (oi := ⟨some 151, .move (.tmp 150), 4, "ref.go:120", #[⟨0, .data⟩], none⟩) rfl (by kernel_rfl) (by kernel_rfl) (by kernel_rfl) (by kernel_rfl) rfl (fun _ _ _ h => h) (Or.inl ⟨by rfl, ?_⟩) HT ?_
                rotate_left
                · intro W hSW
                  go_simp
                  try with_reducible rfl
                simp only [Act.put, List.setIfInBounds_toArray, List.set_cons_zero, List.set_cons_succ]
                refine wpAnyL_take' (i := 2) (v := undef) (oi := ⟨some 152, .move (.tmp 7), 57, "ref.go:120", #[⟨1, .guard⟩], some (1, false)⟩) rfl (by kernel_rfl) (by kernel_rfl) (by kernel_rfl) (by kernel_rfl) rfl (fun _ _ _ h => h) (Or.inr ⟨by rfl, rfl⟩) HT ?_
                simp only [Act.put, List.setIfInBounds_toArray, List.set_cons_zero, List.set_cons_succ]
                refine wpAnyL_take' (i := 3) (v := undef) (oi := ⟨some 153, .move (.tmp 9), 3, "ref.go:120", #[⟨1, .guard⟩], some (1, false)⟩) rfl (by kernel_rfl) (by kernel_rfl) (by kernel_rfl) (by kernel_rfl) rfl (fun _ _ _ h => h) (Or.inr ⟨by rfl, rfl⟩) HT ?_
                simp only [Act.put, List.setIfInBounds_toArray, List.set_cons_zero, List.set_cons_succ]
                refine wpAnyL_take' (i := 4) (v := undef) (oi := ⟨some 154, .indexAddr 57 (.tmp 152) (.tmp 153), 0, "ref.go:120", #[⟨2, .data⟩, ⟨3, .data⟩, ⟨1, .guard⟩], some (1, false)⟩) rfl (by kernel_rfl) (by kernel_rfl) (by kernel_rfl) (by kernel_rfl) rfl (fun _ _ _ h => h) (Or.inr ⟨by rfl, rfl⟩) HT ?_
                simp only [Act.put, List.setIfInBounds_toArray, List.set_cons_zero, List.set_cons_succ]
                refine wpAnyL_take' (i := 5) (v := undef) (oi := ⟨some 155, .load 3 (.tmp 154), 3, "ref.go:120", #[⟨4, .data⟩, ⟨1, .guard⟩], some (1, false)⟩) rfl (by kernel_rfl) (by kernel_rfl) (by kernel_rfl) (by kernel_rfl) rfl (fun _ _ _ h => h) (Or.inr ⟨by rfl, rfl⟩) HT ?_
                simp only [Act.put, List.setIfInBounds_toArray, List.set_cons_zero, List.set_cons_succ]
                refine wpAnyL_take' (i := 6) (v := undef) (oi := ⟨some 156, .move (.tmp 4), 57, "ref.go:120", #[⟨1, .guard⟩], some (1, false)⟩) rfl (by kernel_rfl) (by kernel_rfl) (by kernel_rfl) (by kernel_rfl) rfl (fun _ _ _ h => h) (Or.inr ⟨by rfl, rfl⟩) HT ?_
                simp only [Act.put, List.setIfInBounds_toArray, List.set_cons_zero, List.set_cons_succ]
                refine wpAnyL_take' (i := 7) (v := undef) (oi := ⟨some 157, .move (.tmp 9), 3, "ref.go:120", #[⟨1, .guard⟩], some (1, false)⟩) rfl (by kernel_rfl) (by kernel_rfl) (by kernel_rfl) (by kernel_rfl) rfl (fun _ _ _ h => h) (Or.inr ⟨by rfl, rfl⟩) HT ?_
                simp only [Act.put, List.setIfInBounds_toArray, List.set_cons_zero, List.set_cons_succ]
                refine wpAnyL_take' (i := 8) (v := undef) (oi := ⟨some 158, .indexAddr 57 (.tmp 156) (.tmp 157), 0, "ref.go:120", #[⟨6, .data⟩, ⟨7, .data⟩, ⟨1, .guard⟩], some (1, false)⟩) rfl (by kernel_rfl) (by kernel_rfl) (by kernel_rfl) (by kernel_rfl) rfl (fun _ _ _ h => h) (Or.inr ⟨by rfl, rfl⟩) HT ?_
                simp only [Act.put, List.setIfInBounds_toArray, List.set_cons_zero, List.set_cons_succ]
                refine wpAnyL_take' (i := 9) (v := undef) (oi := ⟨some 159, .load 3 (.tmp 158), 3, "ref.go:120", #[⟨8, .data⟩, ⟨1, .guard⟩], some (1, false)⟩) rfl (by kernel_rfl) (by kernel_rfl) (by kernel_rfl) (by kernel_rfl) rfl (fun _ _ _ h => h) (Or.inr ⟨by rfl, rfl⟩) HT ?_
                simp only [Act.put, List.setIfInBounds_toArray, List.set_cons_zero, List.set_cons_succ]
                refine wpAnyL_take' (i := 10) (v := undef) (oi := ⟨some 160, .binOp .neq 3 (.tmp 155) (.tmp 159) 3, 4, "ref.go:120", #[⟨5, .data⟩, ⟨9, .data⟩, ⟨1, .guard⟩], some (1, false)⟩) rfl (by kernel_rfl) (by kernel_rfl) (by kernel_rfl) (by kernel_rfl) rfl (fun _ _ _ h => h) (Or.inr ⟨by rfl, rfl⟩) HT ?_
                simp only [Act.put, List.setIfInBounds_toArray, List.set_cons_zero, List.set_cons_succ]
                refine wpAnyL_take' (i := 11) (v := ?_) (oi := ⟨some 161, .pick (.tmp 151) (.const (.bool true)) (.tmp 160), 4, "ref.go:120", #[⟨1, .data⟩, ⟨10, .data⟩], none⟩) rfl (by kernel_rfl) (by kernel_rfl) (by kernel_rfl) (by kernel_rfl) rfl (fun _ _ _ h => h) (Or.inl ⟨by rfl, ?_⟩) HT ?_
                rotate_left
                · intro W hSW
                  go_simp
                  try with_reducible rfl
                simp only [Act.put, List.setIfInBounds_toArray, List.set_cons_zero, List.set_cons_succ]
                refine wpAnyL_take' (i := 12) (v := ?_) (oi := ⟨some 8, .assign (.tmp 161), 4, "ref.go:120", #[⟨11, .data⟩, ⟨1, .chain⟩, ⟨0, .phase⟩, ⟨1, .phase⟩, ⟨2, .phase⟩, ⟨3, .phase⟩, ⟨4, .phase⟩, ⟨5, .phase⟩, ⟨6, .phase⟩, ⟨7, .phase⟩, ⟨8, .phase⟩, ⟨9, .phase⟩, ⟨10, .phase⟩, ⟨11, .phase⟩], none⟩) rfl (by kernel_rfl) (by kernel_rfl) (by kernel_rfl) (by kernel_rfl) rfl (fun _ _ _ h => h) (Or.inl ⟨by rfl, ?_⟩) HT ?_
                rotate_left
                · intro W hSW
                  go_simp
                  try with_reducible rfl
                simp only [Act.put, List.setIfInBounds_toArray, List.set_cons_zero, List.set_cons_succ]
                refine wpAnyL_done (by kernel_rfl) ?_ _
                clear HT
                go_wp2_with fail
                exact ⟨⟨true, i + 1, d3, rfl, by go_num, by omega, hds2, HF.out⟩, by simp [intOf]; omega⟩
              case false =>
                by_cases hyc : (i : Int) = ci
                · have dne : ((i : Int) != ci) = false := by simp [hyc]
                  have HF2 : Hid (RwL wo d3 W3.drew ∧ RepB l (k + 1) d3 (i + 1) ∧ ChgB d3 c false (i + 1)) := by
                    have h9 := HF.out
                    rw [dne] at h9
                    exact h9
                  clear HF hyc
                  refine wp_region_L (fun W => W.cell? ⟨wo.heap.size, i, none⟩ = some (.int .i64 (i : Int)) ∧ W.cell? ⟨G, i, none⟩ = some (.int .i64 ci)) 13 (by kernel_rfl) 13 rfl ?_
                  refine wpAnyL_take' (i := 0) (v := ?_) (oi := ⟨some 150, .move (.tmp 8), 4, "ref.go:120", #[], none⟩) rfl (by kernel_rfl) (by kernel_rfl) (by kernel_rfl) (by kernel_rfl) rfl (fun _ _ _ h => h) (Or.inl ⟨by rfl, ?_⟩) HT ?_
                  rotate_left
                  · intro W hSW
                    go_simp
                    try with_reducible rfl
                  simp only [Act.put, List.setIfInBounds_toArray, List.set_cons_zero, List.set_cons_succ]
                  refine wpAnyL_take' (i := 1) (v := ?_) (oi := ⟨some 151, .move (.tmp 150), 4, "ref.go:120", #[⟨0, .data⟩], none⟩) rfl (by kernel_rfl) (by kernel_rfl) (by kernel_rfl) (by kernel_rfl) rfl (fun _ _ _ h => h) (Or.inl ⟨by rfl, ?_⟩) HT ?_
                  rotate_left
                  · intro W hSW
                    go_simp
                    try with_reducible rfl
                  simp only [Act.put, List.setIfInBounds_toArray, List.set_cons_zero, List.set_cons_succ]
                  refine wpAnyL_take' (i := 2) (v := ?_) (oi := ⟨some 152, .move (.tmp 7), 57, "ref.go:120", #[⟨1, .guard⟩], some (1, false)⟩) rfl (by kernel_rfl) (by kernel_rfl) (by kernel_rfl) (by kernel_rfl) rfl (fun _ _ _ h => h) (Or.inl ⟨by rfl, ?_⟩) HT ?_
                  rotate_left
                  · intro W hSW
                    go_simp
                    try with_reducible rfl
                  simp only [Act.put, List.setIfInBounds_toArray, List.set_cons_zero, List.set_cons_succ]
                  refine wpAnyL_take' (i := 3) (v := ?_) (oi := ⟨some 153, .move (.tmp 9), 3, "ref.go:120", #[⟨1, .guard⟩], some (1, false)⟩) rfl (by kernel_rfl) (by kernel_rfl) (by kernel_rfl) (by kernel_rfl) rfl (fun _ _ _ h => h) (Or.inl ⟨by rfl, ?_⟩) HT ?_
                  rotate_left
                  · intro W hSW
                    go_simp
                    try with_reducible rfl
                  simp only [Act.put, List.setIfInBounds_toArray, List.set_cons_zero, List.set_cons_succ]
                  refine wpAnyL_take' (i := 4) (v := ?_) (oi := ⟨some 154, .indexAddr 57 (.tmp 152) (.tmp 153), 0, "ref.go:120", #[⟨2, .data⟩, ⟨3, .data⟩, ⟨1, .guard⟩], some (1, false)⟩) rfl (by kernel_rfl) (by kernel_rfl) (by kernel_rfl) (by kernel_rfl) rfl (fun _ _ _ h => h) (Or.inl ⟨by rfl, ?_⟩) HT ?_
                  rotate_left
                  · intro W hSW
                    go_simp
                    try with_reducible rfl
                  simp only [Act.put, List.setIfInBounds_toArray, List.set_cons_zero, List.set_cons_succ]
                  refine wpAnyL_take' (i := 5) (v := ?_) (oi := ⟨some 155, .load 3 (.tmp 154), 3, "ref.go:120", #[⟨4, .data⟩, ⟨1, .guard⟩], some (1, false)⟩) rfl (by kernel_rfl) (by kernel_rfl) (by kernel_rfl) (by kernel_rfl) rfl (fun _ _ _ h => h) (Or.inl ⟨by rfl, ?_⟩) HT ?_
                  rotate_left
                  · intro W hSW
                    go_simp
                    try with_reducible rfl
                  simp only [Act.put, List.setIfInBounds_toArray, List.set_cons_zero, List.set_cons_succ]
                  refine wpAnyL_take' (i := 6) (v := ?_) (oi := ⟨some 156, .move (.tmp 4), 57, "ref.go:120", #[⟨1, .guard⟩], some (1, false)⟩) rfl (by kernel_rfl) (by kernel_rfl) (by kernel_rfl) (by kernel_rfl) rfl (fun _ _ _ h => h) (Or.inl ⟨by rfl, ?_⟩) HT ?_
                  rotate_left
                  · intro W hSW
                    go_simp
                    try with_reducible rfl
                  simp only [Act.put, List.setIfInBounds_toArray, List.set_cons_zero, List.set_cons_succ]
                  refine wpAnyL_take' (i := 7) (v := ?_) (oi := ⟨some 157, .move (.tmp 9), 3, "ref.go:120", #[⟨1, .guard⟩], some (1, false)⟩) rfl (by kernel_rfl) (by kernel_rfl) (by kernel_rfl) (by kernel_rfl) rfl (fun _ _ _ h => h) (Or.inl ⟨by rfl, ?_⟩) HT ?_
                  rotate_left
                  · intro W hSW
                    go_simp
                    try with_reducible rfl
                  simp only [Act.put, List.setIfInBounds_toArray, List.set_cons_zero, List.set_cons_succ]
                  refine wpAnyL_take' (i := 8) (v := ?_) (oi := ⟨some 158, .indexAddr 57 (.tmp 156) (.tmp 157), 0, "ref.go:120", #[⟨6, .data⟩, ⟨7, .data⟩, ⟨1, .guard⟩], some (1, false)⟩) rfl (by kernel_rfl) (by kernel_rfl) (by kernel_rfl) (by kernel_rfl) rfl (fun _ _ _ h => h) (Or.inl ⟨by rfl, ?_⟩) HT ?_
                  rotate_left
                  · intro W hSW
                    go_simp
                    try with_reducible rfl
                  simp only [Act.put, List.setIfInBounds_toArray, List.set_cons_zero, List.set_cons_succ]
                  refine wpAnyL_take' (i := 9) (v := ?_) (oi := ⟨some 159, .load 3 (.tmp 158), 3, "ref.go:120", #[⟨8, .data⟩, ⟨1, .guard⟩], some (1, false)⟩) rfl (by kernel_rfl) (by kernel_rfl) (by kernel_rfl) (by kernel_rfl) rfl (fun _ _ _ h => h) (Or.inl ⟨by rfl, ?_⟩) HT ?_
                  rotate_left
                  · intro W hSW
                    go_simp
                    try with_reducible rfl
                  simp only [Act.put, List.setIfInBounds_toArray, List.set_cons_zero, List.set_cons_succ]
                  refine wpAnyL_take' (i := 10) (v := ?_) (oi := ⟨some 160, .binOp .neq 3 (.tmp 155) (.tmp 159) 3, 4, "ref.go:120", #[⟨5, .data⟩, ⟨9, .data⟩, ⟨1, .guard⟩], some (1, false)⟩) rfl (by kernel_rfl) (by kernel_rfl) (by kernel_rfl) (by kernel_rfl) rfl (fun _ _ _ h => h) (Or.inl ⟨by rfl, ?_⟩) HT ?_
                  rotate_left
                  · intro W hSW
                    go_simp
                    try with_reducible rfl
                  simp only [Act.put, List.setIfInBounds_toArray, List.set_cons_zero, List.set_cons_succ]
                  refine wpAnyL_take' (i := 11) (v := ?_) (oi := ⟨some 161, .pick (.tmp 151) (.const (.bool true)) (.tmp 160), 4, "ref.go:120", #[⟨1, .data⟩, ⟨10, .data⟩], none⟩) rfl (by kernel_rfl) (by kernel_rfl) (by kernel_rfl) (by kernel_rfl) rfl (fun _ _ _ h => h) (Or.inl ⟨by rfl, ?_⟩) HT ?_
                  rotate_left
                  · intro W hSW
                    go_simp
                    try with_reducible rfl
                  simp only [Act.put, List.setIfInBounds_toArray, List.set_cons_zero, List.set_cons_succ]
                  refine wpAnyL_take' (i := 12) (v := ?_) (oi := ⟨some 8, .assign (.tmp 161), 4, "ref.go:120", #[⟨11, .data⟩, ⟨1, .chain⟩, ⟨0, .phase⟩, ⟨1, .phase⟩, ⟨2, .phase⟩, ⟨3, .phase⟩, ⟨4, .phase⟩, ⟨5, .phase⟩, ⟨6, .phase⟩, ⟨7, .phase⟩, ⟨8, .phase⟩, ⟨9, .phase⟩, ⟨10, .phase⟩, ⟨11, .phase⟩], none⟩) rfl (by kernel_rfl) (by kernel_rfl) (by kernel_rfl) (by kernel_rfl) rfl (fun _ _ _ h => h) (Or.inl ⟨by rfl, ?_⟩) HT ?_
                  rotate_left
                  · intro W hSW
                    go_simp
                    try with_reducible rfl
                  simp only [Act.put, List.setIfInBounds_toArray, List.set_cons_zero, List.set_cons_succ]
                  refine wpAnyL_done (by kernel_rfl) ?_ _
                  clear HT
                  go_wp2_with fail
                  exact ⟨⟨false, i + 1, d3, rfl, by go_num, by omega, hds2, HF2.out⟩, by simp [intOf]; omega⟩
                · have dne : ((i : Int) != ci) = true := by simp [hyc]
                  have HF2 : Hid (RwL wo d3 W3.drew ∧ RepB l (k + 1) d3 (i + 1) ∧ ChgB d3 c true (i + 1)) := by
                    have h9 := HF.out
                    rw [dne] at h9
                    exact h9
                  clear HF hyc
                  refine wp_region_L (fun W => W.cell? ⟨wo.heap.size, i, none⟩ = some (.int .i64 (i : Int)) ∧ W.cell? ⟨G, i, none⟩ = some (.int .i64 ci)) 13 (by kernel_rfl) 13 rfl ?_
                  refine wpAnyL_take' (i := 0) (v := ?_) (oi := ⟨some 150, .move (.tmp 8), 4, "ref.go:120", #[], none⟩) rfl (by kernel_rfl) (by kernel_rfl) (by kernel_rfl) (by kernel_rfl) rfl (fun _ _ _ h => h) (Or.inl ⟨by rfl, ?_⟩) HT ?_
                  rotate_left
                  · intro W hSW
                    go_simp
                    try with_reducible rfl
                  simp only [Act.put, List.setIfInBounds_toArray, List.set_cons_zero, List.set_cons_succ]
                  refine wpAnyL_take' (i := 1) (v := ?_) (oi := ⟨some 151, .move (.tmp 150), 4, "ref.go:120", #[⟨0, .data⟩], none⟩) rfl (by kernel_rfl) (by kernel_rfl) (by kernel_rfl) (by kernel_rfl) rfl (fun _ _ _ h => h) (Or.inl ⟨by rfl, ?_⟩) HT ?_
                  rotate_left
                  · intro W hSW
                    go_simp
                    try with_reducible rfl
                  simp only [Act.put, List.setIfInBounds_toArray, List.set_cons_zero, List.set_cons_succ]
                  refine wpAnyL_take' (i := 2) (v := ?_) (oi := ⟨some 152, .move (.tmp 7), 57, "ref.go:120", #[⟨1, .guard⟩], some (1, false)⟩) rfl (by kernel_rfl) (by kernel_rfl) (by kernel_rfl) (by kernel_rfl) rfl (fun _ _ _ h => h) (Or.inl ⟨by rfl, ?_⟩) HT ?_
                  rotate_left
                  · intro W hSW
                    go_simp
                    try with_reducible rfl
                  simp only [Act.put, List.setIfInBounds_toArray, List.set_cons_zero, List.set_cons_succ]
                  refine wpAnyL_take' (i := 3) (v := ?_) (oi := ⟨some 153, .move (.tmp 9), 3, "ref.go:120", #[⟨1, .guard⟩], some (1, false)⟩) rfl (by kernel_rfl) (by kernel_rfl) (by kernel_rfl) (by kernel_rfl) rfl (fun _ _ _ h => h) (Or.inl ⟨by rfl, ?_⟩) HT ?_
                  rotate_left
                  · intro W hSW
                    go_simp
                    try with_reducible rfl
                  simp only [Act.put, List.setIfInBounds_toArray, List.set_cons_zero, List.set_cons_succ]
                  refine wpAnyL_take' (i := 4) (v := ?_) (oi := ⟨some 154, .indexAddr 57 (.tmp 152) (.tmp 153), 0, "ref.go:120", #[⟨2, .data⟩, ⟨3, .data⟩, ⟨1, .guard⟩], some (1, false)⟩) rfl (by kernel_rfl) (by kernel_rfl) (by kernel_rfl) (by kernel_rfl) rfl (fun _ _ _ h => h) (Or.inl ⟨by rfl, ?_⟩) HT ?_
                  rotate_left
                  · intro W hSW
                    go_simp
                    try with_reducible rfl
                  simp only [Act.put, List.setIfInBounds_toArray, List.set_cons_zero, List.set_cons_succ]
                  refine wpAnyL_take' (i := 5) (v := ?_) (oi := ⟨some 155, .load 3 (.tmp 154), 3, "ref.go:120", #[⟨4, .data⟩, ⟨1, .guard⟩], some (1, false)⟩) rfl (by kernel_rfl) (by kernel_rfl) (by kernel_rfl) (by kernel_rfl) rfl (fun _ _ _ h => h) (Or.inl ⟨by rfl, ?_⟩) HT ?_
                  rotate_left
                  · intro W hSW
                    go_simp
                    try with_reducible rfl
                  simp only [Act.put, List.setIfInBounds_toArray, List.set_cons_zero, List.set_cons_succ]
                  refine wpAnyL_take' (i := 6) (v := ?_) (oi := ⟨some 156, .move (.tmp 4), 57, "ref.go:120", #[⟨1, .guard⟩], some (1, false)⟩) rfl (by kernel_rfl) (by kernel_rfl) (by kernel_rfl) (by kernel_rfl) rfl (fun _ _ _ h => h) (Or.inl ⟨by rfl, ?_⟩) HT ?_
                  rotate_left
                  · intro W hSW
                    go_simp
                    try with_reducible rfl
                  simp only [Act.put, List.setIfInBounds_toArray, List.set_cons_zero, List.set_cons_succ]
                  refine wpAnyL_take' (i := 7) (v := ?_) (oi := ⟨some 157, .move (.tmp 9), 3, "ref.go:120", #[⟨1, .guard⟩], some (1, false)⟩) rfl (by kernel_rfl) (by kernel_rfl) (by kernel_rfl) (by kernel_rfl) rfl (fun _ _ _ h => h) (Or.inl ⟨by rfl, ?_⟩) HT ?_
                  rotate_left
                  · intro W hSW
                    go_simp
                    try with_reducible rfl
                  simp only [Act.put, List.setIfInBounds_toArray, List.set_cons_zero, List.set_cons_succ]
                  refine wpAnyL_take' (i := 8) (v := ?_) (oi := ⟨some 158, .indexAddr 57 (.tmp 156) (.tmp 157), 0, "ref.go:120", #[⟨6, .data⟩, ⟨7, .data⟩, ⟨1, .guard⟩], some (1, false)⟩) rfl (by kernel_rfl) (by kernel_rfl) (by kernel_rfl) (by kernel_rfl) rfl (fun _ _ _ h => h) (Or.inl ⟨by rfl, ?_⟩) HT ?_
                  rotate_left
                  · intro W hSW
                    go_simp
                    try with_reducible rfl
                  simp only [Act.put, List.setIfInBounds_toArray, List.set_cons_zero, List.set_cons_succ]
                  refine wpAnyL_take' (i := 9) (v := ?_) (oi := ⟨some 159, .load 3 (.tmp 158), 3, "ref.go:120", #[⟨8, .data⟩, ⟨1, .guard⟩], some (1, false)⟩) rfl (by kernel_rfl) (by kernel_rfl) (by kernel_rfl) (by kernel_rfl) rfl (fun _ _ _ h => h) (Or.inl ⟨by rfl, ?_⟩) HT ?_
                  rotate_left
                  · intro W hSW
                    go_simp
                    try with_reducible rfl
                  simp only [Act.put, List.setIfInBounds_toArray, List.set_cons_zero, List.set_cons_succ]
                  refine wpAnyL_take' (i := 10) (v := ?_) (oi := ⟨some 160, .binOp .neq 3 (.tmp 155) (.tmp 159) 3, 4, "ref.go:120", #[⟨5, .data⟩, ⟨9, .data⟩, ⟨1, .guard⟩], some (1, false)⟩) rfl (by kernel_rfl) (by kernel_rfl) (by kernel_rfl) (by kernel_rfl) rfl (fun _ _ _ h => h) (Or.inl ⟨by rfl, ?_⟩) HT ?_
                  rotate_left
                  · intro W hSW
                    go_simp
                    try with_reducible rfl
                  simp only [Act.put, List.setIfInBounds_toArray, List.set_cons_zero, List.set_cons_succ]
                  refine wpAnyL_take' (i := 11) (v := ?_) (oi := ⟨some 161, .pick (.tmp 151) (.const (.bool true)) (.tmp 160), 4, "ref.go:120", #[⟨1, .data⟩, ⟨10, .data⟩], none⟩) rfl (by kernel_rfl) (by kernel_rfl) (by kernel_rfl) (by kernel_rfl) rfl (fun _ _ _ h => h) (Or.inl ⟨by rfl, ?_⟩) HT ?_
                  rotate_left
                  · intro W hSW
                    go_simp
                    try with_reducible rfl
                  simp only [Act.put, List.setIfInBounds_toArray, List.set_cons_zero, List.set_cons_succ]
                  refine wpAnyL_take' (i := 12) (v := ?_) (oi := ⟨some 8, .assign (.tmp 161), 4, "ref.go:120", #[⟨11, .data⟩, ⟨1, .chain⟩, ⟨0, .phase⟩, ⟨1, .phase⟩, ⟨2, .phase⟩, ⟨3, .phase⟩, ⟨4, .phase⟩, ⟨5, .phase⟩, ⟨6, .phase⟩, ⟨7, .phase⟩, ⟨8, .phase⟩, ⟨9, .phase⟩, ⟨10, .phase⟩, ⟨11, .phase⟩], none⟩) rfl (by kernel_rfl) (by kernel_rfl) (by kernel_rfl) (by kernel_rfl) rfl (fun _ _ _ h => h) (Or.inl ⟨by rfl, ?_⟩) HT ?_
                  rotate_left
                  · intro W hSW
                    go_simp
                    try with_reducible rfl
                  simp only [Act.put, List.setIfInBounds_toArray, List.set_cons_zero, List.set_cons_succ]
                  refine wpAnyL_done (by kernel_rfl) ?_ _
                  clear HT
                  go_wp2_with fail
                  exact ⟨⟨true, i + 1, d3, rfl, by go_num, by omega, hds2, HF2.out⟩, by simp [intOf]; omega⟩
            · have HE : Hid (RwL wo d2 wq ∧ RepB l (k + 1) d2 (i + 1) ∧ ChgB d2 c ch i ∧ d2[i]? = some x) := by
                obtain ⟨h1, h2, h3, h4, h5⟩ := HK.out
                exact ⟨h1, h2.succ h4 (h5.found HLI.out.1 (fun e => by
                  apply Classical.byContradiction
                  intro hn9
                  exact hst ⟨e, by omega⟩)), h3, h4⟩
              clear HK
              clear hgo
              go_upto_region 21 with fail
              go_cut [103] from 166 (fun t103 wx => t103 = .bool false ∧ wx = wq)
              case first =>
                clear HE HCI HL HX HA HGA HFF HCW HLI
                by_cases h1 : (t : Int) < i
                · have d1 := decide_eq_true h1
                  by_cases h2 : x < 0
                  · have d2 := decide_eq_true h2
                    cases LI
                    case true => exact absurd ⟨rfl, h2⟩ hst
                    case false => (go_wp2_with fail; go_meet; exact ⟨rfl, rfl⟩)
                  · have d2 := decide_eq_false h2
                    cases LI
                    case true => (go_wp2_with fail; go_meet; exact ⟨rfl, rfl⟩)
                    case false => (go_wp2_with fail; go_meet; exact ⟨rfl, rfl⟩)
                · have d1 := decide_eq_false h1
                  by_cases h2 : x < 0
                  · have d2 := decide_eq_true h2
                    cases LI
                    case true => exact absurd ⟨rfl, h2⟩ hst
                    case false => (go_wp2_with fail; go_meet; exact ⟨rfl, rfl⟩)
                  · have d2 := decide_eq_false h2
                    cases LI
                    case true => (go_wp2_with fail; go_meet; exact ⟨rfl, rfl⟩)
                    case false => (go_wp2_with fail; go_meet; exact ⟨rfl, rfl⟩)
              case rest =>
              obtain ⟨rfl, hwc⟩ := hcut
              obtain rfl := hwc.symm
              clear hwc
              by_cases h2 : x < 0
              · have d2 := decide_eq_true h2
                cases LI
                case true => exact absurd ⟨rfl, h2⟩ hst
                case false =>
                  clear hst
                  go_upto_region 27 with fail
                  clear f3 f4 li h2 d2
                  have HE9 := HE.out
                  generalize wq = W3 at *
                  have HE : Hid (RwL wo d2 W3 ∧ RepB l (k + 1) d2 (i + 1) ∧ ChgB d2 c ch i ∧ d2[i]? = some x) := HE9
                  clear HE9
                  have bd3 : Below W3.heap.size W3 W3.drew := below_drewN (Below.refl _ _) 1
                  have HR3 := HE.out.1.next bd3
                  have gy := (HR3.facts (j := i) (by omega)).1
                  have hye : d2[i]'(by omega) = x := by
                    have h9 := HE.out.2.2.2
                    rw [List.getElem?_eq_getElem (by omega)] at h9
                    exact Option.some.inj h9
                  rw [hye] at gy
                  have gci := HCI.out.2 _ HR3.bel
                  have HT := And.intro gy gci
                  have HF : Hid (RwL wo d2 W3.drew ∧ RepB l (k + 1) d2 (i + 1) ∧ ChgB d2 c (ch || (x != ci)) (i + 1)) := ⟨HR3, HE.out.2.1, HE.out.2.2.1.succ HE.out.2.2.2 HCI.out.1⟩
                  clear hye gy gci HR3 HE HCI HL HX HA HGA HFF HCW HLI
                  cases ch
                  case true =>
                    refine wp_region_L (fun W => W.cell? ⟨wo.heap.size, i, none⟩ = some (.int .i64 x) ∧ W.cell? ⟨G, i, none⟩ = some (.int .i64 ci)) 13 (by kernel_rfl) 13 rfl ?_
                    refine wpAnyL_take' (i := 0) (v := ?_) (oi := ⟨some 150, .move (.tmp 8), 4, "ref.go:120", #[], none⟩) rfl (by kernel_rfl) (by kernel_rfl) (by kernel_rfl) (by kernel_rfl) rfl (fun _ _ _ h => h) (Or.inl ⟨by rfl, ?_⟩) HT ?_
                    rotate_left
                    · intro W hSW
                      go_simp
                      try with_reducible rfl
                    simp only [Act.put, List.setIfInBounds_toArray, List.set_cons_zero, List.set_cons_succ]
                    refine wpAnyL_take' (i := 1) (v := ?_) (oi := ⟨some 151, .move (.tmp 150), 4, "ref.go:120", #[⟨0, .data⟩], none⟩) rfl (by kernel_rfl) (by kernel_rfl) (by kernel_rfl) (by kernel_rfl) rfl (fun _ _ _ h => h) (Or.inl ⟨by rfl, ?_⟩) HT ?_
                    rotate_left
                    · intro W hSW
                      go_simp
                      try with_reducible rfl
                    simp only [Act.put, List.setIfInBounds_toArray, List.set_cons_zero, List.set_cons_succ]
                    refine wpAnyL_take' (i := 2) (v := undef) (oi := ⟨some 152, .move (.tmp 7), 57, "ref.go:120", #[⟨1, .guard⟩], some (1, false)⟩) rfl (by kernel_rfl) (by kernel_rfl) (by kernel_rfl) (by kernel_rfl) rfl (fun _ _ _ h => h) (Or.inr ⟨by rfl, rfl⟩) HT ?_
                    simp only [Act.put, List.setIfInBounds_toArray, List.set_cons_zero, List.set_cons_succ]
                    refine wpAnyL_take' (i := 3) (v := undef) (oi := ⟨some 153, .move (.tmp 9), 3, "ref.go:120", #[⟨1, .guard⟩], some (1, false)⟩) rfl (by kernel_rfl) (by kernel_rfl) (by kernel_rfl) (by kernel_rfl) rfl (fun _ _ _ h => h) (Or.inr ⟨by rfl, rfl⟩) HT ?_
                    simp only [Act.put, List.setIfInBounds_toArray, List.set_cons_zero, List.set_cons_succ]
                    refine wpAnyL_take' (i := 4) (v := undef) (oi := ⟨some 154, .indexAddr 57 (.tmp 152) (.tmp 153), 0, "ref.go:120", #[⟨2, .data⟩, ⟨3, .data⟩, ⟨1, .guard⟩], some (1, false)⟩) rfl (by kernel_rfl) (by kernel_rfl) (by kernel_rfl) (by kernel_rfl) rfl (fun _ _ _ h => h) (Or.inr ⟨by rfl, rfl⟩) HT ?_
                    simp only [Act.put, List.setIfInBounds_toArray, List.set_cons_zero, List.set_cons_succ]
                    refine wpAnyL_take' (i := 5) (v := undef) (oi := ⟨some 155, .load 3 (.tmp 154), 3, "ref.go:120", #[⟨4, .data⟩, ⟨1, .guard⟩], some (1, false)⟩) rfl (by kernel_rfl) (by kernel_rfl) (by kernel_rfl) (by kernel_rfl) rfl (fun _ _ _ h => h) (Or.inr ⟨by rfl, rfl⟩) HT ?_
                    simp only [Act.put, List.setIfInBounds_toArray, List.set_cons_zero, List.set_cons_succ]
                    refine wpAnyL_take' (i := 6) (v := undef) (oi := ⟨some 156, .move (.tmp 4), 57, "ref.go:120", #[⟨1, .guard⟩], some (1, false)⟩) rfl (by kernel_rfl) (by kernel_rfl) (by kernel_rfl) (by kernel_rfl) rfl (fun _ _ _ h => h) (Or.inr ⟨by rfl, rfl⟩) HT ?_
                    simp only [Act.put, List.setIfInBounds_toArray, List.set_cons_zero, List.set_cons_succ]
                    refine wpAnyL_take' (i := 7) (v := undef) (oi := ⟨some 157, .move (.tmp 9), 3, "ref.go:120", #[⟨1, .guard⟩], some (1, false)⟩) rfl (by kernel_rfl) (by kernel_rfl) (by kernel_rfl) (by kernel_rfl) rfl (fun _ _ _ h => h) (Or.inr ⟨by rfl, rfl⟩) HT ?_
                    simp only [Act.put, List.setIfInBounds_toArray, List.set_cons_zero, List.set_cons_succ]
                    refine wpAnyL_take' (i := 8) (v := undef) (oi := ⟨some 158, .indexAddr 57 (.tmp 156) (.tmp 157), 0, "ref.go:120", #[⟨6, .data⟩, ⟨7, .data⟩, ⟨1, .guard⟩], some (1, false)⟩) rfl (by kernel_rfl) (by kernel_rfl) (by kernel_rfl) (by kernel_rfl) rfl (fun _ _ _ h => h) (Or.inr ⟨by rfl, rfl⟩) HT ?_
                    simp only [Act.put, List.setIfInBounds_toArray, List.set_cons_zero, List.set_cons_succ]
                    refine wpAnyL_take' (i := 9) (v := undef) (oi := ⟨some 159, .load 3 (.tmp 158), 3, "ref.go:120", #[⟨8, .data⟩, ⟨1, .guard⟩], some (1, false)⟩) rfl (by kernel_rfl) (by kernel_rfl) (by kernel_rfl) (by kernel_rfl) rfl (fun _ _ _ h => h) (Or.inr ⟨by rfl, rfl⟩) HT ?_
                    simp only [Act.put, List.setIfInBounds_toArray, List.set_cons_zero, List.set_cons_succ]
                    refine wpAnyL_take' (i := 10) (v := undef) (oi := ⟨some 160, .binOp .neq 3 (.tmp 155) (.tmp 159) 3, 4, "ref.go:120", #[⟨5, .data⟩, ⟨9, .data⟩, ⟨1, .guard⟩], some (1, false)⟩) rfl (by kernel_rfl) (by kernel_rfl) (by kernel_rfl) (by kernel_rfl) rfl (fun _ _ _ h => h) (Or.inr ⟨by rfl, rfl⟩) HT ?_
                    simp only [Act.put, List.setIfInBounds_toArray, List.set_cons_zero, List.set_cons_succ]
                    refine wpAnyL_take' (i := 11) (v := ?_) (oi := ⟨some 161, .pick (.tmp 151) (.const (.bool true)) (.tmp 160), 4, "ref.go:120", #[⟨1, .data⟩, ⟨10, .data⟩], none⟩) rfl (by kernel_rfl) (by kernel_rfl) (by kernel_rfl) (by kernel_rfl) rfl (fun _ _ _ h => h) (Or.inl ⟨by rfl, ?_⟩) HT ?_
                    rotate_left
                    · intro W hSW
                      go_simp
                      try with_reducible rfl
                    simp only [Act.put, List.setIfInBounds_toArray, List.set_cons_zero, List.set_cons_succ]
                    refine wpAnyL_take' (i := 12) (v := ?_) (oi := ⟨some 8, .assign (.tmp 161), 4, "ref.go:120", #[⟨11, .data⟩, ⟨1, .chain⟩, ⟨0, .phase⟩, ⟨1, .phase⟩, ⟨2, .phase⟩, ⟨3, .phase⟩, ⟨4, .phase⟩, ⟨5, .phase⟩, ⟨6, .phase⟩, ⟨7, .phase⟩, ⟨8, .phase⟩, ⟨9, .phase⟩, ⟨10, .phase⟩, ⟨11, .phase⟩], none⟩) rfl (by kernel_rfl) (by kernel_rfl) (by kernel_rfl) (by kernel_rfl) rfl (fun _ _ _ h => h) (Or.inl ⟨by rfl, ?_⟩) HT ?_
                    rotate_left
                    · intro W hSW
                      go_simp
                      try with_reducible rfl
                    simp only [Act.put, List.setIfInBounds_toArray, List.set_cons_zero, List.set_cons_succ]
                    refine wpAnyL_done (by kernel_rfl) ?_ _
                    clear HT
                    go_wp2_with fail
                    exact ⟨⟨true, i + 1, d2, rfl, by go_num, by omega, hdl2, HF.out⟩, by simp [intOf]; omega⟩
                  case false =>
                    by_cases hyc : x = ci
                    · have dne : (x != ci) = false := by simp [hyc]
                      have HF2 : Hid (RwL wo d2 W3.drew ∧ RepB l (k + 1) d2 (i + 1) ∧ ChgB d2 c false (i + 1)) := by
                        have h9 := HF.out
                        rw [dne] at h9
                        exact h9
                      clear HF hyc
                      refine wp_region_L (fun W => W.cell? ⟨wo.heap.size, i, none⟩ = some (.int .i64 x) ∧ W.cell? ⟨G, i, none⟩ = some (.int .i64 ci)) 13 (by kernel_rfl) 13 rfl ?_
                      refine wpAnyL_take' (i := 0) (v := ?_) (oi := ⟨some 150, .move (.tmp 8), 4, "ref.go:120", #[], none⟩) rfl (by kernel_rfl) (by kernel_rfl) (by kernel_rfl) (by kernel_rfl) rfl (fun _ _ _ h => h) (Or.inl ⟨by rfl, ?_⟩) HT ?_
                      rotate_left
                      · intro W hSW
                        go_simp
                        try with_reducible rfl
                      simp only [Act.put, List.setIfInBounds_toArray, List.set_cons_zero, List.set_cons_succ]
                      refine wpAnyL_take' (i := 1) (v := ?_) (oi := ⟨some 151, .move (.tmp 150), 4, "ref.go:120", #[⟨0, .data⟩], none⟩) rfl (by kernel_rfl) (by kernel_rfl) (by kernel_rfl) (by kernel_rfl) rfl (fun _ _ _ h => h) (Or.inl ⟨by rfl, ?_⟩) HT ?_
                      rotate_left
                      · intro W hSW
                        go_simp
                        try with_reducible rfl
                      simp only [Act.put, List.setIfInBounds_toArray, List.set_cons_zero, List.set_cons_succ]
                      refine wpAnyL_take' (i := 2) (v := ?_) (oi := ⟨some 152, .move (.tmp 7), 57, "ref.go:120", #[⟨1, .guard⟩], some (1, false)⟩) rfl (by kernel_rfl) (by kernel_rfl) (by kernel_rfl) (by kernel_rfl) rfl (fun _ _ _ h => h) (Or.inl ⟨by rfl, ?_⟩) HT ?_
                      rotate_left
                      · intro W hSW
                        go_simp
                        try with_reducible rfl
                      simp only [Act.put, List.setIfInBounds_toArray, List.set_cons_zero, List.set_cons_succ]
                      refine wpAnyL_take' (i := 3) (v := ?_) (oi := ⟨some 153, .move (.tmp 9), 3, "ref.go:120", #[⟨1, .guard⟩], some (1, false)⟩) rfl (by kernel_rfl) (by kernel_rfl) (by kernel_rfl) (by kernel_rfl) rfl (fun _ _ _ h => h) (Or.inl ⟨by rfl, ?_⟩) HT ?_
                      rotate_left
                      · intro W hSW
                        go_simp
                        try with_reducible rfl
                      simp only [Act.put, List.setIfInBounds_toArray, List.set_cons_zero, List.set_cons_succ]
                      refine wpAnyL_take' (i := 4) (v := ?_) (oi := ⟨some 154, .indexAddr 57 (.tmp 152) (.tmp 153), 0, "ref.go:120", #[⟨2, .data⟩, ⟨3, .data⟩, ⟨1, .guard⟩], some (1, false)⟩) rfl (by kernel_rfl) (by kernel_rfl) (by kernel_rfl) (by kernel_rfl) rfl (fun _ _ _ h => h) (Or.inl ⟨by rfl, ?_⟩) HT ?_
                      rotate_left
                      · intro W hSW
                        go_simp
                        try with_reducible rfl
                      simp only [Act.put, List.setIfInBounds_toArray, List.set_cons_zero, List.set_cons_succ]
                      refine wpAnyL_take' (i := 5) (v := ?_) (oi := ⟨some 155, .load 3 (.tmp 154), 3, "ref.go:120", #[⟨4, .data⟩, ⟨1, .guard⟩], some (1, false)⟩) rfl (by kernel_rfl) (by kernel_rfl) (by kernel_rfl) (by kernel_rfl) rfl (fun _ _ _ h => h) (Or.inl ⟨by rfl, ?_⟩) HT ?_
                      rotate_left
                      · intro W hSW
                        go_simp
                        try with_reducible rfl
                      simp only [Act.put, List.setIfInBounds_toArray, List.set_cons_zero, List.set_cons_succ]
                      refine wpAnyL_take' (i := 6) (v := ?_) (oi := ⟨some 156, .move (.tmp 4), 57, "ref.go:120", #[⟨1, .guard⟩], some (1, false)⟩) rfl (by kernel_rfl) (by kernel_rfl) (by kernel_rfl) (by kernel_rfl) rfl (fun _ _ _ h => h) (Or.inl ⟨by rfl, ?_⟩) HT ?_
                      rotate_left
                      · intro W hSW
                        go_simp
                        try with_reducible rfl
                      simp only [Act.put, List.setIfInBounds_toArray, List.set_cons_zero, List.set_cons_succ]
                      refine wpAnyL_take' (i := 7) (v := ?_) (oi := ⟨some 157, .move (.tmp 9), 3, "ref.go:120", #[⟨1, .guard⟩], some (1, false)⟩) rfl (by kernel_rfl) (by kernel_rfl) (by kernel_rfl) (by kernel_rfl) rfl (fun _ _ _ h => h) (Or.inl ⟨by rfl, ?_⟩) HT ?_
                      rotate_left
                      · intro W hSW
                        go_simp
                        try with_reducible rfl
                      simp only [Act.put, List.setIfInBounds_toArray, List.set_cons_zero, List.set_cons_succ]
                      refine wpAnyL_take' (i := 8) (v := ?_) (oi := ⟨some 158, .indexAddr 57 (.tmp 156) (.tmp 157), 0, "ref.go:120", #[⟨6, .data⟩, ⟨7, .data⟩, ⟨1, .guard⟩], some (1, false)⟩) rfl (by kernel_rfl) (by kernel_rfl) (by kernel_rfl) (by kernel_rfl) rfl (fun _ _ _ h => h) (Or.inl ⟨by rfl, ?_⟩) HT ?_
                      rotate_left
                      · intro W hSW
                        go_simp
                        try with_reducible rfl
                      simp only [Act.put, List.setIfInBounds_toArray, List.set_cons_zero, List.set_cons_succ]
                      refine wpAnyL_take' (i := 9) (v := ?_) (oi := ⟨some 159, .load 3 (.tmp 158), 3, "ref.go:120", #[⟨8, .data⟩, ⟨1, .guard⟩], some (1, false)⟩) rfl (by kernel_rfl) (by kernel_rfl) (by kernel_rfl) (by kernel_rfl) rfl (fun _ _ _ h => h) (Or.inl ⟨by rfl, ?_⟩) HT ?_
                      rotate_left
                      · intro W hSW
                        go_simp
                        try with_reducible rfl
                      simp only [Act.put, List.setIfInBounds_toArray, List.set_cons_zero, List.set_cons_succ]
                      refine wpAnyL_take' (i := 10) (v := ?_) (oi := ⟨some 160, .binOp .neq 3 (.tmp 155) (.tmp 159) 3, 4, "ref.go:120", #[⟨5, .data⟩, ⟨9, .data⟩, ⟨1, .guard⟩], some (1, false)⟩) rfl (by kernel_rfl) (by kernel_rfl) (by kernel_rfl) (by kernel_rfl) rfl (fun _ _ _ h => h) (Or.inl ⟨by rfl, ?_⟩) HT ?_
                      rotate_left
                      · intro W hSW
                        go_simp
                        try with_reducible rfl
                      simp only [Act.put, List.setIfInBounds_toArray, List.set_cons_zero, List.set_cons_succ]
                      refine wpAnyL_take' (i := 11) (v := ?_) (oi := ⟨some 161, .pick (.tmp 151) (.const (.bool true)) (.tmp 160), 4, "ref.go:120", #[⟨1, .data⟩, ⟨10, .data⟩], none⟩) rfl (by kernel_rfl) (by kernel_rfl) (by kernel_rfl) (by kernel_rfl) rfl (fun _ _ _ h => h) (Or.inl ⟨by rfl, ?_⟩) HT ?_
                      rotate_left
                      · intro W hSW
                        go_simp
                        try with_reducible rfl
                      simp only [Act.put, List.setIfInBounds_toArray, List.set_cons_zero, List.set_cons_succ]
                      refine wpAnyL_take' (i := 12) (v := ?_) (oi := ⟨some 8, .assign (.tmp 161), 4, "ref.go:120", #[⟨11, .data⟩, ⟨1, .chain⟩, ⟨0, .phase⟩, ⟨1, .phase⟩, ⟨2, .phase⟩, ⟨3, .phase⟩, ⟨4, .phase⟩, ⟨5, .phase⟩, ⟨6, .phase⟩, ⟨7, .phase⟩, ⟨8, .phase⟩, ⟨9, .phase⟩, ⟨10, .phase⟩, ⟨11, .phase⟩], none⟩) rfl (by kernel_rfl) (by kernel_rfl) (by kernel_rfl) (by kernel_rfl) rfl (fun _ _ _ h => h) (Or.inl ⟨by rfl, ?_⟩) HT ?_
                      rotate_left
                      · intro W hSW
                        go_simp
                        try with_reducible rfl
                      simp only [Act.put, List.setIfInBounds_toArray, List.set_cons_zero, List.set_cons_succ]
                      refine wpAnyL_done (by kernel_rfl) ?_ _
                      clear HT
                      go_wp2_with fail
                      exact ⟨⟨false, i + 1, d2, rfl, by go_num, by omega, hdl2, HF2.out⟩, by simp [intOf]; omega⟩
                    · have dne : (x != ci) = true := by simp [hyc]
                      have HF2 : Hid (RwL wo d2 W3.drew ∧ RepB l (k + 1) d2 (i + 1) ∧ ChgB d2 c true (i + 1)) := by
                        have h9 := HF.out
                        rw [dne] at h9
                        exact h9
                      clear HF hyc
                      refine wp_region_L (fun W => W.cell? ⟨wo.heap.size, i, none⟩ = some (.int .i64 x) ∧ W.cell? ⟨G, i, none⟩ = some (.int .i64 ci)) 13 (by kernel_rfl) 13 rfl ?_
                      refine wpAnyL_take' (i := 0) (v := ?_) (oi := ⟨some 150, .move (.tmp 8), 4, "ref.go:120", #[], none⟩) rfl (by kernel_rfl) (by kernel_rfl) (by kernel_rfl) (by kernel_rfl) rfl (fun _ _ _ h => h) (Or.inl ⟨by rfl, ?_⟩) HT ?_
                      rotate_left
                      · intro W hSW
                        go_simp
                        try with_reducible rfl
                      simp only [Act.put, List.setIfInBounds_toArray, List.set_cons_zero, List.set_cons_succ]
                      refine wpAnyL_take' (i := 1) (v := ?_) (oi := ⟨some 151, .move (.tmp 150), 4, "ref.go:120", #[⟨0, .data⟩], none⟩) rfl (by kernel_rfl) (by kernel_rfl) (by kernel_rfl) (by kernel_rfl) rfl (fun _ _ _ h => h) (Or.inl ⟨by rfl, ?_⟩) HT ?_
                      rotate_left
                      · intro W hSW
                        go_simp
                        try with_reducible rfl
                      simp only [Act.put, List.setIfInBounds_toArray, List.set_cons_zero, List.set_cons_succ]
                      refine wpAnyL_take' (i := 2) (v := ?_) (oi := ⟨some 152, .move (.tmp 7), 57, "ref.go:120", #[⟨1, .guard⟩], some (1, false)⟩) rfl (by kernel_rfl) (by kernel_rfl) (by kernel_rfl) (by kernel_rfl) rfl (fun _ _ _ h => h) (Or.inl ⟨by rfl, ?_⟩) HT ?_
                      rotate_left
                      · intro W hSW
                        go_simp
                        try with_reducible rfl
                      simp only [Act.put, List.setIfInBounds_toArray, List.set_cons_zero, List.set_cons_succ]
                      refine wpAnyL_take' (i := 3) (v := ?_) (oi := ⟨some 153, .move (.tmp 9), 3, "ref.go:120", #[⟨1, .guard⟩], some (1, false)⟩) rfl (by kernel_rfl) (by kernel_rfl) (by kernel_rfl) (by kernel_rfl) rfl (fun _ _ _ h => h) (Or.inl ⟨by rfl, ?_⟩) HT ?_
                      rotate_left
                      · intro W hSW
                        go_simp
                        try with_reducible rfl
                      simp only [Act.put, List.setIfInBounds_toArray, List.set_cons_zero, List.set_cons_succ]
                      refine wpAnyL_take' (i := 4) (v := ?_) (oi := ⟨some 154, .indexAddr 57 (.tmp 152) (.tmp 153), 0, "ref.go:120", #[⟨2, .data⟩, ⟨3, .data⟩, ⟨1, .guard⟩], some (1, false)⟩) rfl (by kernel_rfl) (by kernel_rfl) (by kernel_rfl) (by kernel_rfl) rfl (fun _ _ _ h => h) (Or.inl ⟨by rfl, ?_⟩) HT ?_
                      rotate_left
                      · intro W hSW
                        go_simp
                        try with_reducible rfl
                      simp only [Act.put, List.setIfInBounds_toArray, List.set_cons_zero, List.set_cons_succ]
                      refine wpAnyL_take' (i := 5) (v := ?_) (oi := ⟨some 155, .load 3 (.tmp 154), 3, "ref.go:120", #[⟨4, .data⟩, ⟨1, .guard⟩], some (1, false)⟩) rfl (by kernel_rfl) (by kernel_rfl) (by kernel_rfl) (by kernel_rfl) rfl (fun _ _ _ h => h) (Or.inl ⟨by rfl, ?_⟩) HT ?_
                      rotate_left
                      · intro W hSW
                        go_simp
                        try with_reducible rfl
                      simp only [Act.put, List.setIfInBounds_toArray, List.set_cons_zero, List.set_cons_succ]
                      refine wpAnyL_take' (i := 6) (v := ?_) (oi := ⟨some 156, .move (.tmp 4), 57, "ref.go:120", #[⟨1, .guard⟩], some (1, false)⟩) rfl (by kernel_rfl) (by kernel_rfl) (by kernel_rfl) (by kernel_rfl) rfl (fun _ _ _ h => h) (Or.inl ⟨by rfl, ?_⟩) HT ?_
                      rotate_left
                      · intro W hSW
                        go_simp
                        try with_reducible rfl
                      simp only [Act.put, List.setIfInBounds_toArray, List.set_cons_zero, List.set_cons_succ]
                      refine wpAnyL_take' (i := 7) (v := ?_) (oi := ⟨some 157, .move (.tmp 9), 3, "ref.go:120", #[⟨1, .guard⟩], some (1, false)⟩) rfl (by kernel_rfl) (by kernel_rfl) (by kernel_rfl) (by kernel_rfl) rfl (fun _ _ _ h => h) (Or.inl ⟨by rfl, ?_⟩) HT ?_
                      rotate_left
                      · intro W hSW
                        go_simp
                        try with_reducible rfl
                      simp only [Act.put, List.setIfInBounds_toArray, List.set_cons_zero, List.set_cons_succ]
                      refine wpAnyL_take' (i := 8) (v := ?_) (oi := ⟨some 158, .indexAddr 57 (.tmp 156) (.tmp 157), 0, "ref.go:120", #[⟨6, .data⟩, ⟨7, .data⟩, ⟨1, .guard⟩], some (1, false)⟩) rfl (by kernel_rfl) (by kernel_rfl) (by kernel_rfl) (by kernel_rfl) rfl (fun _ _ _ h => h) (Or.inl ⟨by rfl, ?_⟩) HT ?_
                      rotate_left
                      · intro W hSW
                        go_simp
                        try with_reducible rfl
                      simp only [Act.put, List.setIfInBounds_toArray, List.set_cons_zero, List.set_cons_succ]
                      refine wpAnyL_take' (i := 9) (v := ?_) (oi := ⟨some 159, .load 3 (.tmp 158), 3, "ref.go:120", #[⟨8, .data⟩, ⟨1, .guard⟩], some (1, false)⟩) rfl (by kernel_rfl) (by kernel_rfl) (by kernel_rfl) (by kernel_rfl) rfl (fun _ _ _ h => h) (Or.inl ⟨by rfl, ?_⟩) HT ?_
                      rotate_left
                      · intro W hSW
                        go_simp
                        try with_reducible rfl
                      simp only [Act.put, List.setIfInBounds_toArray, List.set_cons_zero, List.set_cons_succ]
                      refine wpAnyL_take' (i := 10) (v := ?_) (oi := ⟨some 160, .binOp .neq 3 (.tmp 155) (.tmp 159) 3, 4, "ref.go:120", #[⟨5, .data⟩, ⟨9, .data⟩, ⟨1, .guard⟩], some (1, false)⟩) rfl (by kernel_rfl) (by kernel_rfl) (by kernel_rfl) (by kernel_rfl) rfl (fun _ _ _ h => h) (Or.inl ⟨by rfl, ?_⟩) HT ?_
                      rotate_left
                      · intro W hSW
                        go_simp
                        try with_reducible rfl
                      simp only [Act.put, List.setIfInBounds_toArray, List.set_cons_zero, List.set_cons_succ]
                      refine wpAnyL_take' (i := 11) (v := ?_) (oi := ⟨some 161, .pick (.tmp 151) (.const (.bool true)) (.tmp 160), 4, "ref.go:120", #[⟨1, .data⟩, ⟨10, .data⟩], none⟩) rfl (by kernel_rfl) (by kernel_rfl) (by kernel_rfl) (by kernel_rfl) rfl (fun _ _ _ h => h) (Or.inl ⟨by rfl, ?_⟩) HT ?_
                      rotate_left
                      · intro W hSW
                        go_simp
                        try with_reducible rfl
                      simp only [Act.put, List.setIfInBounds_toArray, List.set_cons_zero, List.set_cons_succ]
                      refine wpAnyL_take' (i := 12) (v := ?_) (oi := ⟨some 8, .assign (.tmp 161), 4, "ref.go:120", #[⟨11, .data⟩, ⟨1, .chain⟩, ⟨0, .phase⟩, ⟨1, .phase⟩, ⟨2, .phase⟩, ⟨3, .phase⟩, ⟨4, .phase⟩, ⟨5, .phase⟩, ⟨6, .phase⟩, ⟨7, .phase⟩, ⟨8, .phase⟩, ⟨9, .phase⟩, ⟨10, .phase⟩, ⟨11, .phase⟩], none⟩) rfl (by kernel_rfl) (by kernel_rfl) (by kernel_rfl) (by kernel_rfl) rfl (fun _ _ _ h => h) (Or.inl ⟨by rfl, ?_⟩) HT ?_
                      rotate_left
                      · intro W hSW
                        go_simp
                        try with_reducible rfl
                      simp only [Act.put, List.setIfInBounds_toArray, List.set_cons_zero, List.set_cons_succ]
                      refine wpAnyL_done (by kernel_rfl) ?_ _
                      clear HT
                      go_wp2_with fail
                      exact ⟨⟨true, i + 1, d2, rfl, by go_num, by omega, hdl2, HF2.out⟩, by simp [intOf]; omega⟩
              · have d2 := decide_eq_false h2
                clear hst
                cases LI
                case false =>
                  go_upto_region 27 with fail
                  clear f3 f4 li h2 d2
                  have HE9 := HE.out
                  generalize wq = W3 at *
                  have HE : Hid (RwL wo d2 W3 ∧ RepB l (k + 1) d2 (i + 1) ∧ ChgB d2 c ch i ∧ d2[i]? = some x) := HE9
                  clear HE9
                  have bd3 : Below W3.heap.size W3 W3.drew := below_drewN (Below.refl _ _) 1
                  have HR3 := HE.out.1.next bd3
                  have gy := (HR3.facts (j := i) (by omega)).1
                  have hye : d2[i]'(by omega) = x := by
                    have h9 := HE.out.2.2.2
                    rw [List.getElem?_eq_getElem (by omega)] at h9
                    exact Option.some.inj h9
                  rw [hye] at gy
                  have gci := HCI.out.2 _ HR3.bel
                  have HT := And.intro gy gci
                  have HF : Hid (RwL wo d2 W3.drew ∧ RepB l (k + 1) d2 (i + 1) ∧ ChgB d2 c (ch || (x != ci)) (i + 1)) := ⟨HR3, HE.out.2.1, HE.out.2.2.1.succ HE.out.2.2.2 HCI.out.1⟩
                  clear hye gy gci HR3 HE HCI HL HX HA HGA HFF HCW HLI
                  cases ch
                  case true =>
                    refine wp_region_L (fun W => W.cell? ⟨wo.heap.size, i, none⟩ = some (.int .i64 x) ∧ W.cell? ⟨G, i, none⟩ = some (.int .i64 ci)) 13 (by kernel_rfl) 13 rfl ?_
                    refine wpAnyL_take' (i := 0) (v := ?_) (oi := ⟨some 150, .move (.tmp 8), 4, "ref.go:120", #[], none⟩) rfl (by kernel_rfl) (by kernel_rfl) (by kernel_rfl) (by kernel_rfl) rfl (fun _ _ _ h => h) (Or.inl ⟨by rfl, ?_⟩) HT ?_
                    rotate_left
                    · intro W hSW
                      go_simp
                      try with_reducible rfl
                    simp only [Act.put, List.setIfInBounds_toArray, List.set_cons_zero, List.set_cons_succ]
                    refine wpAnyL_take' (i := 1) (v := ?_) (oi := ⟨some 151, .move (.tmp 150), 4, "ref.go:120", #[⟨0, .data⟩], none⟩) rfl (by kernel_rfl) (by kernel_rfl) (by kernel_rfl) (by kernel_rfl) rfl (fun _ _ _ h => h) (Or.inl ⟨by rfl, ?_⟩) HT ?_
                    rotate_left
                    · intro W hSW
                      go_simp
                      try with_reducible rfl
                    simp only [Act.put, List.setIfInBounds_toArray, List.set_cons_zero, List.set_cons_succ]
                    refine wpAnyL_take' (i := 2) (v := undef) (oi := ⟨some 152, .move (.tmp 7), 57, "ref.go:120", #[⟨1, .guard⟩], some (1, false)⟩) rfl (by kernel_rfl) (by kernel_rfl) (by kernel_rfl) (by kernel_rfl) rfl (fun _ _ _ h => h) (Or.inr ⟨by rfl, rfl⟩) HT ?_
                    simp only [Act.put, List.setIfInBounds_toArray, List.set_cons_zero, List.set_cons_succ]
                    refine wpAnyL_take' (i := 3) (v := undef) (oi := ⟨some 153, .move (.tmp 9), 3, "ref.go:120", #[⟨1, .guard⟩], some (1, false)⟩) rfl (by kernel_rfl) (by kernel_rfl) (by kernel_rfl) (by kernel_rfl) rfl (fun _ _ _ h => h) (Or.inr ⟨by rfl, rfl⟩) HT ?_
                    simp only [Act.put, List.setIfInBounds_toArray, List.set_cons_zero, List.set_cons_succ]
                    refine wpAnyL_take' (i := 4) (v := undef) (oi := ⟨some 154, .indexAddr 57 (.tmp 152) (.tmp 153), 0, "ref.go:120", #[⟨2, .data⟩, ⟨3, .data⟩, ⟨1, .guard⟩], some (1, false)⟩) rfl (by kernel_rfl) (by kernel_rfl) (by kernel_rfl) (by kernel_rfl) rfl (fun _ _ _ h => h) (Or.inr ⟨by rfl, rfl⟩) HT ?_
                    simp only [Act.put, List.setIfInBounds_toArray, List.set_cons_zero, List.set_cons_succ]
                    refine wpAnyL_take' (i := 5) (v := undef) (oi := ⟨some 155, .load 3 (.tmp 154), 3, "ref.go:120", #[⟨4, .data⟩, ⟨1, .guard⟩], some (1, false)⟩) rfl (by kernel_rfl) (by kernel_rfl) (by kernel_rfl) (by kernel_rfl) rfl (fun _ _ _ h => h) (Or.inr ⟨by rfl, rfl⟩) HT ?_
                    simp only [Act.put, List.setIfInBounds_toArray, List.set_cons_zero, List.set_cons_succ]
                    refine wpAnyL_take' (i := 6) (v := undef) (oi := ⟨some 156, .move (.tmp 4), 57, "ref.go:120", #[⟨1, .guard⟩], some (1, false)⟩) rfl (by kernel_rfl) (by kernel_rfl) (by kernel_rfl) (by kernel_rfl) rfl (fun _ _ _ h => h) (Or.inr ⟨by rfl, rfl⟩) HT ?_
                    simp only [Act.put, List.setIfInBounds_toArray, List.set_cons_zero, List.set_cons_succ]
                    refine wpAnyL_take' (i := 7) (v := undef) (oi := ⟨some 157, .move (.tmp 9), 3, "ref.go:120", #[⟨1, .guard⟩], some (1, false)⟩) rfl (by kernel_rfl) (by kernel_rfl) (by kernel_rfl) (by kernel_rfl) rfl (fun _ _ _ h => h) (Or.inr ⟨by rfl, rfl⟩) HT ?_
                    simp only [Act.put, List.setIfInBounds_toArray, List.set_cons_zero, List.set_cons_succ]
                    refine wpAnyL_take' (i := 8) (v := undef) (oi := ⟨some 158, .indexAddr 57 (.tmp 156) (.tmp 157), 0, "ref.go:120", #[⟨6, .data⟩, ⟨7, .data⟩, ⟨1, .guard⟩], some (1, false)⟩) rfl (by kernel_rfl) (by kernel_rfl) (by kernel_rfl) (by kernel_rfl) rfl (fun _ _ _ h => h) (Or.inr ⟨by rfl, rfl⟩) HT ?_
                    simp only [Act.put, List.setIfInBounds_toArray, List.set_cons_zero, List.set_cons_succ]
                    refine wpAnyL_take' (i := 9) (v := undef) (oi := ⟨some 159, .load 3 (.tmp 158), 3, "ref.go:120", #[⟨8, .data⟩, ⟨1, .guard⟩], some (1, false)⟩) rfl (by kernel_rfl) (by kernel_rfl) (by kernel_rfl) (by kernel_rfl) rfl (fun _ _ _ h => h) (Or.inr ⟨by rfl, rfl⟩) HT ?_
                    simp only [Act.put, List.setIfInBounds_toArray, List.set_cons_zero, List.set_cons_succ]
                    refine wpAnyL_take' (i := 10) (v := undef) (oi := ⟨some 160, .binOp .neq 3 (.tmp 155) (.tmp 159) 3, 4, "ref.go:120", #[⟨5, .data⟩, ⟨9, .data⟩, ⟨1, .guard⟩], some (1, false)⟩) rfl (by kernel_rfl) (by kernel_rfl) (by kernel_rfl) (by kernel_rfl) rfl (fun _ _ _ h => h) (Or.inr ⟨by rfl, rfl⟩) HT ?_
                    simp only [Act.put, List.setIfInBounds_toArray, List.set_cons_zero, List.set_cons_succ]
                    refine wpAnyL_take' (i := 11) (v := ?_) (oi := ⟨some 161, .pick (.tmp 151) (.const (.bool true)) (.tmp 160), 4, "ref.go:120", #[⟨1, .data⟩, ⟨10, .data⟩], none⟩) rfl (by kernel_rfl) (by kernel_rfl) (by kernel_rfl) (by kernel_rfl) rfl (fun _ _ _ h => h) (Or.inl ⟨by rfl, ?_⟩) HT ?_
                    rotate_left
                    · intro W hSW
                      go_simp
                      try with_reducible rfl
                    simp only [Act.put, List.setIfInBounds_toArray, List.set_cons_zero, List.set_cons_succ]
                    refine wpAnyL_take' (i := 12) (v := ?_) (oi := ⟨some 8, .assign (.tmp 161), 4, "ref.go:120", #[⟨11, .data⟩, ⟨1, .chain⟩, ⟨0, .phase⟩, ⟨1, .phase⟩, ⟨2, .phase⟩, ⟨3, .phase⟩, ⟨4, .phase⟩, ⟨5, .phase⟩, ⟨6, .phase⟩, ⟨7, .phase⟩, ⟨8, .phase⟩, ⟨9, .phase⟩, ⟨10, .phase⟩, ⟨11, .phase⟩], none⟩) rfl (by kernel_rfl) (by kernel_rfl) (by kernel_rfl) (by kernel_rfl) rfl (fun _ _ _ h => h) (Or.inl ⟨by rfl, ?_⟩) HT ?_
                    rotate_left
                    · intro W hSW
                      go_simp
                      try with_reducible rfl
                    simp only [Act.put, List.setIfInBounds_toArray, List.set_cons_zero, List.set_cons_succ]
                    refine wpAnyL_done (by kernel_rfl) ?_ _
                    clear HT
                    go_wp2_with fail
                    exact ⟨⟨true, i + 1, d2, rfl, by go_num, by omega, hdl2, HF.out⟩, by simp [intOf]; omega⟩
                  case false =>
                    by_cases hyc : x = ci
                    · have dne : (x != ci) = false := by simp [hyc]
                      have HF2 : Hid (RwL wo d2 W3.drew ∧ RepB l (k + 1) d2 (i + 1) ∧ ChgB d2 c false (i + 1)) := by
                        have h9 := HF.out
                        rw [dne] at h9
                        exact h9
                      clear HF hyc
                      refine wp_region_L (fun W => W.cell? ⟨wo.heap.size, i, none⟩ = some (.int .i64 x) ∧ W.cell? ⟨G, i, none⟩ = some (.int .i64 ci)) 13 (by kernel_rfl) 13 rfl ?_
                      refine wpAnyL_take' (i := 0) (v := ?_) (oi := ⟨some 150, .move (.tmp 8), 4, "ref.go:120", #[], none⟩) rfl (by kernel_rfl) (by kernel_rfl) (by kernel_rfl) (by kernel_rfl) rfl (fun _ _ _ h => h) (Or.inl ⟨by rfl, ?_⟩) HT ?_
                      rotate_left
                      · intro W hSW
                        go_simp
                        try with_reducible rfl
                      simp only [Act.put, List.setIfInBounds_toArray, List.set_cons_zero, List.set_cons_succ]
                      refine wpAnyL_take' (i := 1) (v := ?_) (oi := ⟨some 151, .move (.tmp 150), 4, "ref.go:120", #[⟨0, .data⟩], none⟩) rfl (by kernel_rfl) (by kernel_rfl) (by kernel_rfl) (by kernel_rfl) rfl (fun _ _ _ h => h) (Or.inl ⟨by rfl, ?_⟩) HT ?_
                      rotate_left
                      · intro W hSW
                        go_simp
                        try with_reducible rfl
                      simp only [Act.put, List.setIfInBounds_toArray, List.set_cons_zero, List.set_cons_succ]
                      refine wpAnyL_take' (i := 2) (v := ?_) (oi := ⟨some 152, .move (.tmp 7), 57, "ref.go:120", #[⟨1, .guard⟩], some (1, false)⟩) rfl (by kernel_rfl) (by kernel_rfl) (by kernel_rfl) (by kernel_rfl) rfl (fun _ _ _ h => h) (Or.inl ⟨by rfl, ?_⟩) HT ?_
                      rotate_left
                      · intro W hSW
                        go_simp
                        try with_reducible rfl
                      simp only [Act.put, List.setIfInBounds_toArray, List.set_cons_zero, List.set_cons_succ]
                      refine wpAnyL_take' (i := 3) (v := ?_) (oi := ⟨some 153, .move (.tmp 9), 3, "ref.go:120", #[⟨1, .guard⟩], some (1, false)⟩) rfl (by kernel_rfl) (by kernel_rfl) (by kernel_rfl) (by kernel_rfl) rfl (fun _ _ _ h => h) (Or.inl ⟨by rfl, ?_⟩) HT ?_
                      rotate_left
                      · intro W hSW
                        go_simp
                        try with_reducible rfl
                      simp only [Act.put, List.setIfInBounds_toArray, List.set_cons_zero, List.set_cons_succ]
                      refine wpAnyL_take' (i := 4) (v := ?_) (oi := ⟨some 154, .indexAddr 57 (.tmp 152) (.tmp 153), 0, "ref.go:120", #[⟨2, .data⟩, ⟨3, .data⟩, ⟨1, .guard⟩], some (1, false)⟩) rfl (by kernel_rfl) (by kernel_rfl) (by kernel_rfl) (by kernel_rfl) rfl (fun _ _ _ h => h) (Or.inl ⟨by rfl, ?_⟩) HT ?_
                      rotate_left
                      · intro W hSW
                        go_simp
                        try with_reducible rfl
                      simp only [Act.put, List.setIfInBounds_toArray, List.set_cons_zero, List.set_cons_succ]
                      refine wpAnyL_take' (i := 5) (v := ?_) (oi := ⟨some 155, .load 3 (.tmp 154), 3, "ref.go:120", #[⟨4, .data⟩, ⟨1, .guard⟩], some (1, false)⟩) rfl (by kernel_rfl) (by kernel_rfl) (by kernel_rfl) (by kernel_rfl) rfl (fun _ _ _ h => h) (Or.inl ⟨by rfl, ?_⟩) HT ?_
                      rotate_left
                      · intro W hSW
                        go_simp
                        try with_reducible rfl
                      simp only [Act.put, List.setIfInBounds_toArray, List.set_cons_zero, List.set_cons_succ]
                      refine wpAnyL_take' (i := 6) (v := ?_) (oi := ⟨some 156, .move (.tmp 4), 57, "ref.go:120", #[⟨1, .guard⟩], some (1, false)⟩) rfl (by kernel_rfl) (by kernel_rfl) (by kernel_rfl) (by kernel_rfl) rfl (fun _ _ _ h => h) (Or.inl ⟨by rfl, ?_⟩) HT ?_
                      rotate_left
                      · intro W hSW
                        go_simp
                        try with_reducible rfl
                      simp only [Act.put, List.setIfInBounds_toArray, List.set_cons_zero, List.set_cons_succ]
                      refine wpAnyL_take' (i := 7) (v := ?_) (oi := ⟨some 157, .move (.tmp 9), 3, "ref.go:120", #[⟨1, .guard⟩], some (1, false)⟩) rfl (by kernel_rfl) (by kernel_rfl) (by kernel_rfl) (by kernel_rfl) rfl (fun _ _ _ h => h) (Or.inl ⟨by rfl, ?_⟩) HT ?_
                      rotate_left
                      · intro W hSW
                        go_simp
                        try with_reducible rfl
                      simp only [Act.put, List.setIfInBounds_toArray, List.set_cons_zero, List.set_cons_succ]
                      refine wpAnyL_take' (i := 8) (v := ?_) (oi := ⟨some 158, .indexAddr 57 (.tmp 156) (.tmp 157), 0, "ref.go:120", #[⟨6, .data⟩, ⟨7, .data⟩, ⟨1, .guard⟩], some (1, false)⟩) rfl (by kernel_rfl) (by kernel_rfl) (by kernel_rfl) (by kernel_rfl) rfl (fun _ _ _ h => h) (Or.inl ⟨by rfl, ?_⟩) HT ?_
                      rotate_left
                      · intro W hSW
                        go_simp
                        try with_reducible rfl
                      simp only [Act.put, List.setIfInBounds_toArray, List.set_cons_zero, List.set_cons_succ]
                      refine wpAnyL_take' (i := 9) (v := ?_) (oi := ⟨some 159, .load 3 (.tmp 158), 3, "ref.go:120", #[⟨8, .data⟩, ⟨1, .guard⟩], some (1, false)⟩) rfl (by kernel_rfl) (by kernel_rfl) (by kernel_rfl) (by kernel_rfl) rfl (fun _ _ _ h => h) (Or.inl ⟨by rfl, ?_⟩) HT ?_
                      rotate_left
                      · intro W hSW
                        go_simp
                        try with_reducible rfl
                      simp only [Act.put, List.setIfInBounds_toArray, List.set_cons_zero, List.set_cons_succ]
                      refine wpAnyL_take' (i := 10) (v := ?_) (oi := ⟨some 160, .binOp .neq 3 (.tmp 155) (.tmp 159) 3, 4, "ref.go:120", #[⟨5, .data⟩, ⟨9, .data⟩, ⟨1, .guard⟩], some (1, false)⟩) rfl (by kernel_rfl) (by kernel_rfl) (by kernel_rfl) (by kernel_rfl) rfl (fun _ _ _ h => h) (Or.inl ⟨by rfl, ?_⟩) HT ?_
                      rotate_left
                      · intro W hSW
                        go_simp
                        try with_reducible rfl
                      simp only [Act.put, List.setIfInBounds_toArray, List.set_cons_zero, List.set_cons_succ]
                      refine wpAnyL_take' (i := 11) (v := ?_) (oi := ⟨some 161, .pick (.tmp 151) (.const (.bool true)) (.tmp 160), 4, "ref.go:120", #[⟨1, .data⟩, ⟨10, .data⟩], none⟩) rfl (by kernel_rfl) (by kernel_rfl) (by kernel_rfl) (by kernel_rfl) rfl (fun _ _ _ h => h) (Or.inl ⟨by rfl, ?_⟩) HT ?_
                      rotate_left
                      · intro W hSW
                        go_simp
                        try with_reducible rfl
                      simp only [Act.put, List.setIfInBounds_toArray, List.set_cons_zero, List.set_cons_succ]
                      refine wpAnyL_take' (i := 12) (v := ?_) (oi := ⟨some 8, .assign (.tmp 161), 4, "ref.go:120", #[⟨11, .data⟩, ⟨1, .chain⟩, ⟨0, .phase⟩, ⟨1, .phase⟩, ⟨2, .phase⟩, ⟨3, .phase⟩, ⟨4, .phase⟩, ⟨5, .phase⟩, ⟨6, .phase⟩, ⟨7, .phase⟩, ⟨8, .phase⟩, ⟨9, .phase⟩, ⟨10, .phase⟩, ⟨11, .phase⟩], none⟩) rfl (by kernel_rfl) (by kernel_rfl) (by kernel_rfl) (by kernel_rfl) rfl (fun _ _ _ h => h) (Or.inl ⟨by rfl, ?_⟩) HT ?_
                      rotate_left
                      · intro W hSW
                        go_simp
                        try with_reducible rfl
                      simp only [Act.put, List.setIfInBounds_toArray, List.set_cons_zero, List.set_cons_succ]
                      refine wpAnyL_done (by kernel_rfl) ?_ _
                      clear HT
                      go_wp2_with fail
                      exact ⟨⟨false, i + 1, d2, rfl, by go_num, by omega, hdl2, HF2.out⟩, by simp [intOf]; omega⟩
                    · have dne : (x != ci) = true := by simp [hyc]
                      have HF2 : Hid (RwL wo d2 W3.drew ∧ RepB l (k + 1) d2 (i + 1) ∧ ChgB d2 c true (i + 1)) := by
                        have h9 := HF.out
                        rw [dne] at h9
                        exact h9
                      clear HF hyc
                      refine wp_region_L (fun W => W.cell? ⟨wo.heap.size, i, none⟩ = some (.int .i64 x) ∧ W.cell? ⟨G, i, none⟩ = some (.int .i64 ci)) 13 (by kernel_rfl) 13 rfl ?_
                      refine wpAnyL_take' (i := 0) (v := ?_) (oi := ⟨some 150, .move (.tmp 8), 4, "ref.go:120", #[], none⟩) rfl (by kernel_rfl) (by kernel_rfl) (by kernel_rfl) (by kernel_rfl) rfl (fun _ _ _ h => h) (Or.inl ⟨by rfl, ?_⟩) HT ?_
                      rotate_left
                      · intro W hSW
                        go_simp
                        try with_reducible rfl
                      simp only [Act.put, List.setIfInBounds_toArray, List.set_cons_zero, List.set_cons_succ]
                      refine wpAnyL_take' (i := 1) (v := ?_) (oi := ⟨some 151, .move (.tmp 150), 4, "ref.go:120", #[⟨0, .data⟩], none⟩) rfl (by kernel_rfl) (by kernel_rfl) (by kernel_rfl) (by kernel_rfl) rfl (fun _ _ _ h => h) (Or.inl ⟨by rfl, ?_⟩) HT ?_
                      rotate_left
                      · intro W hSW
                        go_simp
                        try with_reducible rfl
                      simp only [Act.put, List.setIfInBounds_toArray, List.set_cons_zero, List.set_cons_succ]
                      refine wpAnyL_take' (i := 2) (v := ?_) (oi := ⟨some 152, .move (.tmp 7), 57, "ref.go:120", #[⟨1, .guard⟩], some (1, false)⟩) rfl (by kernel_rfl) (by kernel_rfl) (by kernel_rfl) (by kernel_rfl) rfl (fun _ _ _ h => h) (Or.inl ⟨by rfl, ?_⟩) HT ?_
                      rotate_left
                      · intro W hSW
                        go_simp
                        try with_reducible rfl
                      simp only [Act.put, List.setIfInBounds_toArray, List.set_cons_zero, List.set_cons_succ]
                      refine wpAnyL_take' (i := 3) (v := ?_) (oi := ⟨some 153, .move (.tmp 9), 3, "ref.go:120", #[⟨1, .guard⟩], some (1, false)⟩) rfl (by kernel_rfl) (by kernel_rfl) (by kernel_rfl) (by kernel_rfl) rfl (fun _ _ _ h => h) (Or.inl ⟨by rfl, ?_⟩) HT ?_
                      rotate_left
                      · intro W hSW
                        go_simp
                        try with_reducible rfl
                      simp only [Act.put, List.setIfInBounds_toArray, List.set_cons_zero, List.set_cons_succ]
                      refine wpAnyL_take' (i := 4) (v := ?_) (oi := ⟨some 154, .indexAddr 57 (.tmp 152) (.tmp 153), 0, "ref.go:120", #[⟨2, .data⟩, ⟨3, .data⟩, ⟨1, .guard⟩], some (1, false)⟩) rfl (by kernel_rfl) (by kernel_rfl) (by kernel_rfl) (by kernel_rfl) rfl (fun _ _ _ h => h) (Or.inl ⟨by rfl, ?_⟩) HT ?_
                      rotate_left
                      · intro W hSW
                        go_simp
                        try with_reducible rfl
                      simp only [Act.put, List.setIfInBounds_toArray, List.set_cons_zero, List.set_cons_succ]
                      refine wpAnyL_take' (i := 5) (v := ?_) (oi := ⟨some 155, .load 3 (.tmp 154), 3, "ref.go:120", #[⟨4, .data⟩, ⟨1, .guard⟩], some (1, false)⟩) rfl (by kernel_rfl) (by kernel_rfl) (by kernel_rfl) (by kernel_rfl) rfl (fun _ _ _ h => h) (Or.inl ⟨by rfl, ?_⟩) HT ?_
                      rotate_left
                      · intro W hSW
                        go_simp
                        try with_reducible rfl
                      simp only [Act.put, List.setIfInBounds_toArray, List.set_cons_zero, List.set_cons_succ]
                      refine wpAnyL_take' (i := 6) (v := ?_) (oi := ⟨some 156, .move (.tmp 4), 57, "ref.go:120", #[⟨1, .guard⟩], some (1, false)⟩) rfl (by kernel_rfl) (by kernel_rfl) (by kernel_rfl) (by kernel_rfl) rfl (fun _ _ _ h => h) (Or.inl ⟨by rfl, ?_⟩) HT ?_
                      rotate_left
                      · intro W hSW
                        go_simp
                        try with_reducible rfl
                      simp only [Act.put, List.setIfInBounds_toArray, List.set_cons_zero, List.set_cons_succ]
                      refine wpAnyL_take' (i := 7) (v := ?_) (oi := ⟨some 157, .move (.tmp 9), 3, "ref.go:120", #[⟨1, .guard⟩], some (1, false)⟩) rfl (by kernel_rfl) (by kernel_rfl) (by kernel_rfl) (by kernel_rfl) rfl (fun _ _ _ h => h) (Or.inl ⟨by rfl, ?_⟩) HT ?_
                      rotate_left
                      · intro W hSW
                        go_simp
                        try with_reducible rfl
                      simp only [Act.put, List.setIfInBounds_toArray, List.set_cons_zero, List.set_cons_succ]
                      refine wpAnyL_take' (i := 8) (v := ?_) (oi := ⟨some 158, .indexAddr 57 (.tmp 156) (.tmp 157), 0, "ref.go:120", #[⟨6, .data⟩, ⟨7, .data⟩, ⟨1, .guard⟩], some (1, false)⟩) rfl (by kernel_rfl) (by kernel_rfl) (by kernel_rfl) (by kernel_rfl) rfl (fun _ _ _ h => h) (Or.inl ⟨by rfl, ?_⟩) HT ?_
                      rotate_left
                      · intro W hSW
                        go_simp
                        try with_reducible rfl
                      simp only [Act.put, List.setIfInBounds_toArray, List.set_cons_zero, List.set_cons_succ]
                      refine wpAnyL_take' (i := 9) (v := ?_) (oi := ⟨some 159, .load 3 (.tmp 158), 3, "ref.go:120", #[⟨8, .data⟩, ⟨1, .guard⟩], some (1, false)⟩) rfl (by kernel_rfl) (by kernel_rfl) (by kernel_rfl) (by kernel_rfl) rfl (fun _ _ _ h => h) (Or.inl ⟨by rfl, ?_⟩) HT ?_
                      rotate_left
                      · intro W hSW
                        go_simp
                        try with_reducible rfl
                      simp only [Act.put, List.setIfInBounds_toArray, List.set_cons_zero, List.set_cons_succ]
                      refine wpAnyL_take' (i := 10) (v := ?_) (oi := ⟨some 160, .binOp .neq 3 (.tmp 155) (.tmp 159) 3, 4, "ref.go:120", #[⟨5, .data⟩, ⟨9, .data⟩, ⟨1, .guard⟩], some (1, false)⟩) rfl (by kernel_rfl) (by kernel_rfl) (by kernel_rfl) (by kernel_rfl) rfl (fun _ _ _ h => h) (Or.inl ⟨by rfl, ?_⟩) HT ?_
                      rotate_left
                      · intro W hSW
                        go_simp
                        try with_reducible rfl
                      simp only [Act.put, List.setIfInBounds_toArray, List.set_cons_zero, List.set_cons_succ]
                      refine wpAnyL_take' (i := 11) (v := ?_) (oi := ⟨some 161, .pick (.tmp 151) (.const (.bool true)) (.tmp 160), 4, "ref.go:120", #[⟨1, .data⟩, ⟨10, .data⟩], none⟩) rfl (by kernel_rfl) (by kernel_rfl) (by kernel_rfl) (by kernel_rfl) rfl (fun _ _ _ h => h) (Or.inl ⟨by rfl, ?_⟩) HT ?_
                      rotate_left
                      · intro W hSW
                        go_simp
                        try with_reducible rfl
                      simp only [Act.put, List.setIfInBounds_toArray, List.set_cons_zero, List.set_cons_succ]
                      refine wpAnyL_take' (i := 12) (v := ?_) (oi := ⟨some 8, .assign (.tmp 161), 4, "ref.go:120", #[⟨11, .data⟩, ⟨1, .chain⟩, ⟨0, .phase⟩, ⟨1, .phase⟩, ⟨2, .phase⟩, ⟨3, .phase⟩, ⟨4, .phase⟩, ⟨5, .phase⟩, ⟨6, .phase⟩, ⟨7, .phase⟩, ⟨8, .phase⟩, ⟨9, .phase⟩, ⟨10, .phase⟩, ⟨11, .phase⟩], none⟩) rfl (by kernel_rfl) (by kernel_rfl) (by kernel_rfl) (by kernel_rfl) rfl (fun _ _ _ h => h) (Or.inl ⟨by rfl, ?_⟩) HT ?_
                      rotate_left
                      · intro W hSW
                        go_simp
                        try with_reducible rfl
                      simp only [Act.put, List.setIfInBounds_toArray, List.set_cons_zero, List.set_cons_succ]
                      refine wpAnyL_done (by kernel_rfl) ?_ _
                      clear HT
                      go_wp2_with fail
                      exact ⟨⟨true, i + 1, d2, rfl, by go_num, by omega, hdl2, HF2.out⟩, by simp [intOf]; omega⟩
                case true =>
                  go_upto_region 27 with fail
                  clear f3 f4 li h2 d2
                  have HE9 := HE.out
                  generalize wq = W3 at *
                  have HE : Hid (RwL wo d2 W3 ∧ RepB l (k + 1) d2 (i + 1) ∧ ChgB d2 c ch i ∧ d2[i]? = some x) := HE9
                  clear HE9
                  have bd3 : Below W3.heap.size W3 W3.drew := below_drewN (Below.refl _ _) 1
                  have HR3 := HE.out.1.next bd3
                  have gy := (HR3.facts (j := i) (by omega)).1
                  have hye : d2[i]'(by omega) = x := by
                    have h9 := HE.out.2.2.2
                    rw [List.getElem?_eq_getElem (by omega)] at h9
                    exact Option.some.inj h9
                  rw [hye] at gy
                  have gci := HCI.out.2 _ HR3.bel
                  have HT := And.intro gy gci
                  have HF : Hid (RwL wo d2 W3.drew ∧ RepB l (k + 1) d2 (i + 1) ∧ ChgB d2 c (ch || (x != ci)) (i + 1)) := ⟨HR3, HE.out.2.1, HE.out.2.2.1.succ HE.out.2.2.2 HCI.out.1⟩
                  clear hye gy gci HR3 HE HCI HL HX HA HGA HFF HCW HLI
                  cases ch
                  case true =>
                    refine wp_region_L (fun W => W.cell? ⟨wo.heap.size, i, none⟩ = some (.int .i64 x) ∧ W.cell? ⟨G, i, none⟩ = some (.int .i64 ci)) 13 (by kernel_rfl) 13 rfl ?_
                    refine wpAnyL_take' (i := 0) (v := ?_) (oi := ⟨some 150, .move (.tmp 8), 4, "ref.go:120", #[], none⟩) rfl (by kernel_rfl) (by kernel_rfl) (by kernel_rfl) (by kernel_rfl) rfl (fun _ _ _ h => h) (Or.inl ⟨by rfl, ?_⟩) HT ?_
                    rotate_left
                    · intro W hSW
                      go_simp
                      try with_reducible rfl
                    simp only [Act.put, List.setIfInBounds_toArray, List.set_cons_zero, List.set_cons_succ]
                    refine wpAnyL_take' (i := 1) (v := ?_) (oi := ⟨some 151, .move (.tmp 150), 4, "ref.go:120", #[⟨0, .data⟩], none⟩) rfl (by kernel_rfl) (by kernel_rfl) (by kernel_rfl) (by kernel_rfl) rfl (fun _ _ _ h => h) (Or.inl ⟨by rfl, ?_⟩) HT ?_
                    rotate_left
                    · intro W hSW
                      go_simp
                      try with_reducible rfl
                    simp only [Act.put, List.setIfInBounds_toArray, List.set_cons_zero, List.set_cons_succ]
                    refine wpAnyL_take' (i := 2) (v := undef) (oi := ⟨some 152, .move (.tmp 7), 57, "ref.go:120", #[⟨1, .guard⟩], some (1, false)⟩) rfl (by kernel_rfl) (by kernel_rfl) (by kernel_rfl) (by kernel_rfl) rfl (fun _ _ _ h => h) (Or.inr ⟨by rfl, rfl⟩) HT ?_
                    simp only [Act.put, List.setIfInBounds_toArray, List.set_cons_zero, List.set_cons_succ]
                    refine wpAnyL_take' (i := 3) (v := undef) (oi := ⟨some 153, .move (.tmp 9), 3, "ref.go:120", #[⟨1, .guard⟩], some (1, false)⟩) rfl (by kernel_rfl) (by kernel_rfl) (by kernel_rfl) (by kernel_rfl) rfl (fun _ _ _ h => h) (Or.inr ⟨by rfl, rfl⟩) HT ?_
                    simp only [Act.put, List.setIfInBounds_toArray, List.set_cons_zero, List.set_cons_succ]
                    refine wpAnyL_take' (i := 4) (v := undef) (oi := ⟨some 154, .indexAddr 57 (.tmp 152) (.tmp 153), 0, "ref.go:120", #[⟨2, .data⟩, ⟨3, .data⟩, ⟨1, .guard⟩], some (1, false)⟩) rfl (by kernel_rfl) (by kernel_rfl) (by kernel_rfl) (by kernel_rfl) rfl (fun _ _ _ h => h) (Or.inr ⟨by rfl, rfl⟩) HT ?_
                    simp only [Act.put, List.setIfInBounds_toArray, List.set_cons_zero, List.set_cons_succ]
                    refine wpAnyL_take' (i := 5) (v := undef) (oi := ⟨some 155, .load 3 (.tmp 154), 3, "ref.go:120", #[⟨4, .data⟩, ⟨1, .guard⟩], some (1, false)⟩) rfl (by kernel_rfl) (by kernel_rfl) (by kernel_rfl) (by kernel_rfl) rfl (fun _ _ _ h => h) (Or.inr ⟨by rfl, rfl⟩) HT ?_
                    simp only [Act.put, List.setIfInBounds_toArray, List.set_cons_zero, List.set_cons_succ]
                    refine wpAnyL_take' (i := 6) (v := undef) (oi := ⟨some 156, .move (.tmp 4), 57, "ref.go:120", #[⟨1, .guard⟩], some (1, false)⟩) rfl (by kernel_rfl) (by kernel_rfl) (by kernel_rfl) (by kernel_rfl) rfl (fun _ _ _ h => h) (Or.inr ⟨by rfl, rfl⟩) HT ?_
                    simp only [Act.put, List.setIfInBounds_toArray, List.set_cons_zero, List.set_cons_succ]
                    refine wpAnyL_take' (i := 7) (v := undef) (oi := ⟨some 157, .move (.tmp 9), 3, "ref.go:120", #[⟨1, .guard⟩], some (1, false)⟩) rfl (by kernel_rfl) (by kernel_rfl) (by kernel_rfl) (by kernel_rfl) rfl (fun _ _ _ h => h) (Or.inr ⟨by rfl, rfl⟩) HT ?_
                    simp only [Act.put, List.setIfInBounds_toArray, List.set_cons_zero, List.set_cons_succ]
                    refine wpAnyL_take' (i := 8) (v := undef) (oi := ⟨some 158, .indexAddr 57 (.tmp 156) (.tmp 157), 0, "ref.go:120", #[⟨6, .data⟩, ⟨7, .data⟩, ⟨1, .guard⟩], some (1, false)⟩) rfl (by kernel_rfl) (by kernel_rfl) (by kernel_rfl) (by kernel_rfl) rfl (fun _ _ _ h => h) (Or.inr ⟨by rfl, rfl⟩) HT ?_
                    simp only [Act.put, List.setIfInBounds_toArray, List.set_cons_zero, List.set_cons_succ]
                    refine wpAnyL_take' (i := 9) (v := undef) (oi := ⟨some 159, .load 3 (.tmp 158), 3, "ref.go:120", #[⟨8, .data⟩, ⟨1, .guard⟩], some (1, false)⟩) rfl (by kernel_rfl) (by kernel_rfl) (by kernel_rfl) (by kernel_rfl) rfl (fun _ _ _ h => h) (Or.inr ⟨by rfl, rfl⟩) HT ?_
                    simp only [Act.put, List.setIfInBounds_toArray, List.set_cons_zero, List.set_cons_succ]
                    refine wpAnyL_take' (i := 10) (v := undef) (oi := ⟨some 160, .binOp .neq 3 (.tmp 155) (.tmp 159) 3, 4, "ref.go:120", #[⟨5, .data⟩, ⟨9, .data⟩, ⟨1, .guard⟩], some (1, false)⟩) rfl (by kernel_rfl) (by kernel_rfl) (by kernel_rfl) (by kernel_rfl) rfl (fun _ _ _ h => h) (Or.inr ⟨by rfl, rfl⟩) HT ?_
                    simp only [Act.put, List.setIfInBounds_toArray, List.set_cons_zero, List.set_cons_succ]
                    refine wpAnyL_take' (i := 11) (v := ?_) (oi := ⟨some 161, .pick (.tmp 151) (.const (.bool true)) (.tmp 160), 4, "ref.go:120", #[⟨1, .data⟩, ⟨10, .data⟩], none⟩) rfl (by kernel_rfl) (by kernel_rfl) (by kernel_rfl) (by kernel_rfl) rfl (fun _ _ _ h => h) (Or.inl ⟨by rfl, ?_⟩) HT ?_
                    rotate_left
                    · intro W hSW
                      go_simp
                      try with_reducible rfl
                    simp only [Act.put, List.setIfInBounds_toArray, List.set_cons_zero, List.set_cons_succ]
                    refine wpAnyL_take' (i := 12) (v := ?_) (oi := ⟨some 8, .assign (.tmp 161), 4, "ref.go:120", #[⟨11, .data⟩, ⟨1, .chain⟩, ⟨0, .phase⟩, ⟨1, .phase⟩, ⟨2, .phase⟩, ⟨3, .phase⟩, ⟨4, .phase⟩, ⟨5, .phase⟩, ⟨6, .phase⟩, ⟨7, .phase⟩, ⟨8, .phase⟩, ⟨9, .phase⟩, ⟨10, .phase⟩, ⟨11, .phase⟩], none⟩) rfl (by kernel_rfl) (by kernel_rfl) (by kernel_rfl) (by kernel_rfl) rfl (fun _ _ _ h => h) (Or.inl ⟨by rfl, ?_⟩) HT ?_
                    rotate_left
                    · intro W hSW
                      go_simp
                      try with_reducible rfl
                    simp only [Act.put, List.setIfInBounds_toArray, List.set_cons_zero, List.set_cons_succ]
                    refine wpAnyL_done (by kernel_rfl) ?_ _
                    clear HT
                    go_wp2_with fail
                    exact ⟨⟨true, i + 1, d2, rfl, by go_num, by omega, hdl2, HF.out⟩, by simp [intOf]; omega⟩
                  case false =>
                    by_cases hyc : x = ci
                    · have dne : (x != ci) = false := by simp [hyc]
                      have HF2 : Hid (RwL wo d2 W3.drew ∧ RepB l (k + 1) d2 (i + 1) ∧ ChgB d2 c false (i + 1)) := by
                        have h9 := HF.out
                        rw [dne] at h9
                        exact h9
                      clear HF hyc
                      refine wp_region_L (fun W => W.cell? ⟨wo.heap.size, i, none⟩ = some (.int .i64 x) ∧ W.cell? ⟨G, i, none⟩ = some (.int .i64 ci)) 13 (by kernel_rfl) 13 rfl ?_
                      refine wpAnyL_take' (i := 0) (v := ?_) (oi := ⟨some 150, .move (.tmp 8), 4, "ref.go:120", #[], none⟩) rfl (by kernel_rfl) (by kernel_rfl) (by kernel_rfl) (by kernel_rfl) rfl (fun _ _ _ h => h) (Or.inl ⟨by rfl, ?_⟩) HT ?_
                      rotate_left
                      · intro W hSW
                        go_simp
                        try with_reducible rfl
                      simp only [Act.put, List.setIfInBounds_toArray, List.set_cons_zero, List.set_cons_succ]
                      refine wpAnyL_take' (i := 1) (v := ?_) (oi := ⟨some 151, .move (.tmp 150), 4, "ref.go:120", #[⟨0, .data⟩], none⟩) rfl (by kernel_rfl) (by kernel_rfl) (by kernel_rfl) (by kernel_rfl) rfl (fun _ _ _ h => h) (Or.inl ⟨by rfl, ?_⟩) HT ?_
                      rotate_left
                      · intro W hSW
                        go_simp
                        try with_reducible rfl
                      simp only [Act.put, List.setIfInBounds_toArray, List.set_cons_zero, List.set_cons_succ]
                      refine wpAnyL_take' (i := 2) (v := ?_) (oi := ⟨some 152, .move (.tmp 7), 57, "ref.go:120", #[⟨1, .guard⟩], some (1, false)⟩) rfl (by kernel_rfl) (by kernel_rfl) (by kernel_rfl) (by kernel_rfl) rfl (fun _ _ _ h => h) (Or.inl ⟨by rfl, ?_⟩) HT ?_
                      rotate_left
                      · intro W hSW
                        go_simp
                        try with_reducible rfl
                      simp only [Act.put, List.setIfInBounds_toArray, List.set_cons_zero, List.set_cons_succ]
                      refine wpAnyL_take' (i := 3) (v := ?_) (oi := ⟨some 153, .move (.tmp 9), 3, "ref.go:120", #[⟨1, .guard⟩], some (1, false)⟩) rfl (by kernel_rfl) (by kernel_rfl) (by kernel_rfl) (by kernel_rfl) rfl (fun _ _ _ h => h) (Or.inl ⟨by rfl, ?_⟩) HT ?_
                      rotate_left
                      · intro W hSW
                        go_simp
                        try with_reducible rfl
                      simp only [Act.put, List.setIfInBounds_toArray, List.set_cons_zero, List.set_cons_succ]
                      refine wpAnyL_take' (i := 4) (v := ?_) (oi := ⟨some 154, .indexAddr 57 (.tmp 152) (.tmp 153), 0, "ref.go:120", #[⟨2, .data⟩, ⟨3, .data⟩, ⟨1, .guard⟩], some (1, false)⟩) rfl (by kernel_rfl) (by kernel_rfl) (by kernel_rfl) (by kernel_rfl) rfl (fun _ _ _ h => h) (Or.inl ⟨by rfl, ?_⟩) HT ?_
                      rotate_left
                      · intro W hSW
                        go_simp
                        try with_reducible rfl
                      simp only [Act.put, List.setIfInBounds_toArray, List.set_cons_zero, List.set_cons_succ]
                      refine wpAnyL_take' (i := 5) (v := ?_) (oi := ⟨some 155, .load 3 (.tmp 154), 3, "ref.go:120", #[⟨4, .data⟩, ⟨1, .guard⟩], some (1, false)⟩) rfl (by kernel_rfl) (by kernel_rfl) (by kernel_rfl) (by kernel_rfl) rfl (fun _ _ _ h => h) (Or.inl ⟨by rfl, ?_⟩) HT ?_
                      rotate_left
                      · intro W hSW
                        go_simp
                        try with_reducible rfl
                      simp only [Act.put, List.setIfInBounds_toArray, List.set_cons_zero, List.set_cons_succ]
                      refine wpAnyL_take' (i := 6) (v := ?_) (oi := ⟨some 156, .move (.tmp 4), 57, "ref.go:120", #[⟨1, .guard⟩], some (1, false)⟩) rfl (by kernel_rfl) (by kernel_rfl) (by kernel_rfl) (by kernel_rfl) rfl (fun _ _ _ h => h) (Or.inl ⟨by rfl, ?_⟩) HT ?_
                      rotate_left
                      · intro W hSW
                        go_simp
                        try with_reducible rfl
                      simp only [Act.put, List.setIfInBounds_toArray, List.set_cons_zero, List.set_cons_succ]
                      refine wpAnyL_take' (i := 7) (v := ?_) (oi := ⟨some 157, .move (.tmp 9), 3, "ref.go:120", #[⟨1, .guard⟩], some (1, false)⟩) rfl (by kernel_rfl) (by kernel_rfl) (by kernel_rfl) (by kernel_rfl) rfl (fun _ _ _ h => h) (Or.inl ⟨by rfl, ?_⟩) HT ?_
                      rotate_left
                      · intro W hSW
                        go_simp
                        try with_reducible rfl
                      simp only [Act.put, List.setIfInBounds_toArray, List.set_cons_zero, List.set_cons_succ]
                      refine wpAnyL_take' (i := 8) (v := ?_) (oi := ⟨some 158, .indexAddr 57 (.tmp 156) (.tmp 157), 0, "ref.go:120", #[⟨6, .data⟩, ⟨7, .data⟩, ⟨1, .guard⟩], some (1, false)⟩) rfl (by kernel_rfl) (by kernel_rfl) (by kernel_rfl) (by kernel_rfl) rfl (fun _ _ _ h => h) (Or.inl ⟨by rfl, ?_⟩) HT ?_
                      rotate_left
                      · intro W hSW
                        go_simp
                        try with_reducible rfl
                      simp only [Act.put, List.setIfInBounds_toArray, List.set_cons_zero, List.set_cons_succ]
                      refine wpAnyL_take' (i := 9) (v := ?_) (oi := ⟨some 159, .load 3 (.tmp 158), 3, "ref.go:120", #[⟨8, .data⟩, ⟨1, .guard⟩], some (1, false)⟩) rfl (by kernel_rfl) (by kernel_rfl) (by kernel_rfl) (by kernel_rfl) rfl (fun _ _ _ h => h) (Or.inl ⟨by rfl, ?_⟩) HT ?_
                      rotate_left
                      · intro W hSW
                        go_simp
                        try with_reducible rfl
                      simp only [Act.put, List.setIfInBounds_toArray, List.set_cons_zero, List.set_cons_succ]
                      refine wpAnyL_take' (i := 10) (v := ?_) (oi := ⟨some 160, .binOp .neq 3 (.tmp 155) (.tmp 159) 3, 4, "ref.go:120", #[⟨5, .data⟩, ⟨9, .data⟩, ⟨1, .guard⟩], some (1, false)⟩) rfl (by kernel_rfl) (by kernel_rfl) (by kernel_rfl) (by kernel_rfl) rfl (fun _ _ _ h => h) (Or.inl ⟨by rfl, ?_⟩) HT ?_
                      rotate_left
                      · intro W hSW
                        go_simp
                        try with_reducible rfl
                      simp only [Act.put, List.setIfInBounds_toArray, List.set_cons_zero, List.set_cons_succ]
                      refine wpAnyL_take' (i := 11) (v := ?_) (oi := ⟨some 161, .pick (.tmp 151) (.const (.bool true)) (.tmp 160), 4, "ref.go:120", #[⟨1, .data⟩, ⟨10, .data⟩], none⟩) rfl (by kernel_rfl) (by kernel_rfl) (by kernel_rfl) (by kernel_rfl) rfl (fun _ _ _ h => h) (Or.inl ⟨by rfl, ?_⟩) HT ?_
                      rotate_left
                      · intro W hSW
                        go_simp
                        try with_reducible rfl
                      simp only [Act.put, List.setIfInBounds_toArray, List.set_cons_zero, List.set_cons_succ]
                      refine wpAnyL_take' (i := 12) (v := ?_) (oi := ⟨some 8, .assign (.tmp 161), 4, "ref.go:120", #[⟨11, .data⟩, ⟨1, .chain⟩, ⟨0, .phase⟩, ⟨1, .phase⟩, ⟨2, .phase⟩, ⟨3, .phase⟩, ⟨4, .phase⟩, ⟨5, .phase⟩, ⟨6, .phase⟩, ⟨7, .phase⟩, ⟨8, .phase⟩, ⟨9, .phase⟩, ⟨10, .phase⟩, ⟨11, .phase⟩], none⟩) rfl (by kernel_rfl) (by kernel_rfl) (by kernel_rfl) (by kernel_rfl) rfl (fun _ _ _ h => h) (Or.inl ⟨by rfl, ?_⟩) HT ?_
                      rotate_left
                      · intro W hSW
                        go_simp
                        try with_reducible rfl
                      simp only [Act.put, List.setIfInBounds_toArray, List.set_cons_zero, List.set_cons_succ]
                      refine wpAnyL_done (by kernel_rfl) ?_ _
                      clear HT
                      go_wp2_with fail
                      exact ⟨⟨false, i + 1, d2, rfl, by go_num, by omega, hdl2, HF2.out⟩, by simp [intOf]; omega⟩
                    · have dne : (x != ci) = true := by simp [hyc]
                      have HF2 : Hid (RwL wo d2 W3.drew ∧ RepB l (k + 1) d2 (i + 1) ∧ ChgB d2 c true (i + 1)) := by
                        have h9 := HF.out
                        rw [dne] at h9
                        exact h9
                      clear HF hyc
                      refine wp_region_L (fun W => W.cell? ⟨wo.heap.size, i, none⟩ = some (.int .i64 x) ∧ W.cell? ⟨G, i, none⟩ = some (.int .i64 ci)) 13 (by kernel_rfl) 13 rfl ?_
                      refine wpAnyL_take' (i := 0) (v := ?_) (oi := ⟨some 150, .move (.tmp 8), 4, "ref.go:120", #[], none⟩) rfl (by kernel_rfl) (by kernel_rfl) (by kernel_rfl) (by kernel_rfl) rfl (fun _ _ _ h => h) (Or.inl ⟨by rfl, ?_⟩) HT ?_
                      rotate_left
                      · intro W hSW
                        go_simp
                        try with_reducible rfl
                      simp only [Act.put, List.setIfInBounds_toArray, List.set_cons_zero, List.set_cons_succ]
                      refine wpAnyL_take' (i := 1) (v := ?_) (oi := ⟨some 151, .move (.tmp 150), 4, "ref.go:120", #[⟨0, .data⟩], none⟩) rfl (by kernel_rfl) (by kernel_rfl) (by kernel_rfl) (by kernel_rfl) rfl (fun _ _ _ h => h) (Or.inl ⟨by rfl, ?_⟩) HT ?_
                      rotate_left
                      · intro W hSW
                        go_simp
                        try with_reducible rfl
                      simp only [Act.put, List.setIfInBounds_toArray, List.set_cons_zero, List.set_cons_succ]
                      refine wpAnyL_take' (i := 2) (v := ?_) (oi := ⟨some 152, .move (.tmp 7), 57, "ref.go:120", #[⟨1, .guard⟩], some (1, false)⟩) rfl (by kernel_rfl) (by kernel_rfl) (by kernel_rfl) (by kernel_rfl) rfl (fun _ _ _ h => h) (Or.inl ⟨by rfl, ?_⟩) HT ?_
                      rotate_left
                      · intro W hSW
                        go_simp
                        try with_reducible rfl
                      simp only [Act.put, List.setIfInBounds_toArray, List.set_cons_zero, List.set_cons_succ]
                      refine wpAnyL_take' (i := 3) (v := ?_) (oi := ⟨some 153, .move (.tmp 9), 3, "ref.go:120", #[⟨1, .guard⟩], some (1, false)⟩) rfl (by kernel_rfl) (by kernel_rfl) (by kernel_rfl) (by kernel_rfl) rfl (fun _ _ _ h => h) (Or.inl ⟨by rfl, ?_⟩) HT ?_
                      rotate_left
                      · intro W hSW
                        go_simp
                        try with_reducible rfl
                      simp only [Act.put, List.setIfInBounds_toArray, List.set_cons_zero, List.set_cons_succ]
                      refine wpAnyL_take' (i := 4) (v := ?_) (oi := ⟨some 154, .indexAddr 57 (.tmp 152) (.tmp 153), 0, "ref.go:120", #[⟨2, .data⟩, ⟨3, .data⟩, ⟨1, .guard⟩], some (1, false)⟩) rfl (by kernel_rfl) (by kernel_rfl) (by kernel_rfl) (by kernel_rfl) rfl (fun _ _ _ h => h) (Or.inl ⟨by rfl, ?_⟩) HT ?_
                      rotate_left
                      · intro W hSW
                        go_simp
                        try with_reducible rfl
                      simp only [Act.put, List.setIfInBounds_toArray, List.set_cons_zero, List.set_cons_succ]
                      refine wpAnyL_take' (i := 5) (v := ?_) (oi := ⟨some 155, .load 3 (.tmp 154), 3, "ref.go:120", #[⟨4, .data⟩, ⟨1, .guard⟩], some (1, false)⟩) rfl (by kernel_rfl) (by kernel_rfl) (by kernel_rfl) (by kernel_rfl) rfl (fun _ _ _ h => h) (Or.inl ⟨by rfl, ?_⟩) HT ?_
                      rotate_left
                      · intro W hSW
                        go_simp
                        try with_reducible rfl
                      simp only [Act.put, List.setIfInBounds_toArray, List.set_cons_zero, List.set_cons_succ]
                      refine wpAnyL_take' (i := 6) (v := ?_) (oi := ⟨some 156, .move (.tmp 4), 57, "ref.go:120", #[⟨1, .guard⟩], some (1, false)⟩) rfl (by kernel_rfl) (by kernel_rfl) (by kernel_rfl) (by kernel_rfl) rfl (fun _ _ _ h => h) (Or.inl ⟨by rfl, ?_⟩) HT ?_
                      rotate_left
                      · intro W hSW
                        go_simp
                        try with_reducible rfl
                      simp only [Act.put, List.setIfInBounds_toArray, List.set_cons_zero, List.set_cons_succ]
                      refine wpAnyL_take' (i := 7) (v := ?_) (oi := ⟨some 157, .move (.tmp 9), 3, "ref.go:120", #[⟨1, .guard⟩], some (1, false)⟩) rfl (by kernel_rfl) (by kernel_rfl) (by kernel_rfl) (by kernel_rfl) rfl (fun _ _ _ h => h) (Or.inl ⟨by rfl, ?_⟩) HT ?_
                      rotate_left
                      · intro W hSW
                        go_simp
                        try with_reducible rfl
                      simp only [Act.put, List.setIfInBounds_toArray, List.set_cons_zero, List.set_cons_succ]
                      refine wpAnyL_take' (i := 8) (v := ?_) (oi := ⟨some 158, .indexAddr 57 (.tmp 156) (.tmp 157), 0, "ref.go:120", #[⟨6, .data⟩, ⟨7, .data⟩, ⟨1, .guard⟩], some (1, false)⟩) rfl (by kernel_rfl) (by kernel_rfl) (by kernel_rfl) (by kernel_rfl) rfl (fun _ _ _ h => h) (Or.inl ⟨by rfl, ?_⟩) HT ?_
                      rotate_left
                      · intro W hSW
                        go_simp
                        try with_reducible rfl
                      simp only [Act.put, List.setIfInBounds_toArray, List.set_cons_zero, List.set_cons_succ]
                      refine wpAnyL_take' (i := 9) (v := ?_) (oi := ⟨some 159, .load 3 (.tmp 158), 3, "ref.go:120", #[⟨8, .data⟩, ⟨1, .guard⟩], some (1, false)⟩) rfl (by kernel_rfl) (by kernel_rfl) (by kernel_rfl) (by kernel_rfl) rfl (fun _ _ _ h => h) (Or.inl ⟨by rfl, ?_⟩) HT ?_
                      rotate_left
                      · intro W hSW
                        go_simp
                        try with_reducible rfl
                      simp only [Act.put, List.setIfInBounds_toArray, List.set_cons_zero, List.set_cons_succ]
                      refine wpAnyL_take' (i := 10) (v := ?_) (oi := ⟨some 160, .binOp .neq 3 (.tmp 155) (.tmp 159) 3, 4, "ref.go:120", #[⟨5, .data⟩, ⟨9, .data⟩, ⟨1, .guard⟩], some (1, false)⟩) rfl (by kernel_rfl) (by kernel_rfl) (by kernel_rfl) (by kernel_rfl) rfl (fun _ _ _ h => h) (Or.inl ⟨by rfl, ?_⟩) HT ?_
                      rotate_left
                      · intro W hSW
                        go_simp
                        try with_reducible rfl
                      simp only [Act.put, List.setIfInBounds_toArray, List.set_cons_zero, List.set_cons_succ]
                      refine wpAnyL_take' (i := 11) (v := ?_) (oi := ⟨some 161, .pick (.tmp 151) (.const (.bool true)) (.tmp 160), 4, "ref.go:120", #[⟨1, .data⟩, ⟨10, .data⟩], none⟩) rfl (by kernel_rfl) (by kernel_rfl) (by kernel_rfl) (by kernel_rfl) rfl (fun _ _ _ h => h) (Or.inl ⟨by rfl, ?_⟩) HT ?_
                      rotate_left
                      · intro W hSW
                        go_simp
                        try with_reducible rfl
                      simp only [Act.put, List.setIfInBounds_toArray, List.set_cons_zero, List.set_cons_succ]
                      refine wpAnyL_take' (i := 12) (v := ?_) (oi := ⟨some 8, .assign (.tmp 161), 4, "ref.go:120", #[⟨11, .data⟩, ⟨1, .chain⟩, ⟨0, .phase⟩, ⟨1, .phase⟩, ⟨2, .phase⟩, ⟨3, .phase⟩, ⟨4, .phase⟩, ⟨5, .phase⟩, ⟨6, .phase⟩, ⟨7, .phase⟩, ⟨8, .phase⟩, ⟨9, .phase⟩, ⟨10, .phase⟩, ⟨11, .phase⟩], none⟩) rfl (by kernel_rfl) (by kernel_rfl) (by kernel_rfl) (by kernel_rfl) rfl (fun _ _ _ h => h) (Or.inl ⟨by rfl, ?_⟩) HT ?_
                      rotate_left
                      · intro W hSW
                        go_simp
                        try with_reducible rfl
                      simp only [Act.put, List.setIfInBounds_toArray, List.set_cons_zero, List.set_cons_succ]
                      refine wpAnyL_done (by kernel_rfl) ?_ _
                      clear HT
                      go_wp2_with fail
                      exact ⟨⟨true, i + 1, d2, rfl, by go_num, by omega, hdl2, HF2.out⟩, by simp [intOf]; omega⟩
end Go.Proofs.Ytdalomibilicfaa
