/- The document's Least. -/
import Derived.Test.YtdalomibilicfaaLeRound
namespace Go.Proofs.Ytdalomibilicfaa
open Go.RowKit Go.Shelf

theorem clOk_of {l : List Ds} (hf : fitD l) {k : Nat} {c : List Int} (h1 : Cl2 l k c) (h2 : Cl2 l (k + 1) c) : ClOk l (clv c) := ⟨fun _ _ ha hb => h1.all hf h2 ha hb, fun _ ha => h1.neg ha⟩
theorem OI.small {n : Nat} {cl : Int → Int} {O : List Int} (h : OI n cl O) : O.length ≤ n := by
  have hnd : O.Nodup := List.pairwise_iff_getElem.2 (fun i j hi hj hij e => by
    have := h.nd i j O[i] O[j] (List.getElem?_eq_getElem hi) (List.getElem?_eq_getElem hj) (by rw [e])
    omega)
  have := nodup_le (c := (List.range n).map fun k : Nat => (k : Int)) hnd (fun x hx => by
    have := h.ok x hx
    exact List.mem_map.2 ⟨x.toNat, List.mem_range.2 (by omega), by omega⟩)
  simpa using this
theorem upA_lenL : ∀ {R : List Ar} {a : Int}, a ≤ 256 → upA R a → (R.length : Int) + a ≤ 256
  | [], a, h, _ => by simpa using h
  | x :: R, a, _, h => by
    unfold upA at h
    have := upA_lenL (R := R) (a := x.hi + 1) (by omega) h.2.2.2
    simp only [List.length_cons, Int.natCast_add, Int.natCast_one]
    omega
theorem upA_high : ∀ {R : List Ar} {a : Int}, upA R a → ∀ x ∈ R, x.hi ≤ 255
  | y :: R, a, h, x, hx => by
    unfold upA at h
    rcases List.mem_cons.1 hx with rfl | hx
    · exact h.2.2.1
    · exact upA_high h.2.2.2 x hx
theorem acc_i64 {l : List Ds} {v : Value} {w : World} (h : SlD l v w) {a : Int} (h0 : 0 ≤ a) (h1 : a < l.length) : i64B (accD l a) := by
  obtain ⟨n, rfl⟩ : ∃ n : Nat, a = n := ⟨a.toNat, by omega⟩
  have hn : n < l.length := by omega
  obtain ⟨_, _, _, hd, _⟩ := h
  obtain ⟨_, _, _, _, _, _, _, _, hb⟩ := hd n _ (List.getElem?_eq_getElem hn)
  rw [(arcsD_mem hn).2]
  exact hb
theorem LM.but2 {n : Nat} {cl : Int → Int} {w2 : World} {ob sb : Nat} {O nb : List Int} {ov : Value} {Z : List (Ds × Value)} {dv : Value} {V W : World} {D : Nat → Prop} (h : LM n cl w2 ob O nb ov Z dv V) (hs : w2.heap.size + 1 ≤ sb) (h1 : ∀ k, dv.ownBlock = some k → k < sb) (h2 : ∀ q ∈ Z, ∀ k, q.2.ownBlock = some k → k < sb) (hb : But D V W) (hd : ∀ k, D k → sb ≤ k ∧ ∃ cs, V.heap[k]? = some (Obj.cells cs 37) ∨ V.heap[k]? = some (Obj.cells cs 39)) : LM n cl w2 ob O nb ov Z dv W := by
  refine ⟨⟨below_but h.num.bel hb (Nat.le_refl _) (fun k hk => by have := (hd k hk).1; omega), ownsRow_keep h.num.row hb (fun k hk e => ?_)⟩, h.nt, ownsRow_keep h.ord hb (fun k hk e => ?_), but_blk hb h.obx (fun e => ?_), h.obl, ⟨ownsRow_keep h.done.row hb (fun k hk e => ?_), fun q hq => ownsRow_keep (h.done.arcs q hq) hb (fun k hk e => ?_)⟩⟩
  · have h9 : w2.heap.size = k := by simpa [Value.ownBlock] using hk
    have := (hd k e).1
    omega
  · obtain ⟨_, cs, hc | hc⟩ := hd k e
    · exact own_nb h.ord hc (by decide) hk
    · exact own_nb h.ord hc (by decide) hk
  · obtain ⟨_, cs, hc | hc⟩ := hd _ e
    · rw [h.obx] at hc; simp at hc
    · rw [h.obx] at hc; simp at hc
  · have := (hd k e).1
    have := h1 k hk
    omega
  · have := (hd k e).1
    have := h2 q hq k hk
    omega
theorem set_hi (R : List Ar) (x : Ar) (m : Int) : ((R ++ [x]).flatMap encA3).set (R.length * 3 + 1) (.int .i64 m) = (R ++ [(⟨x.lo, m, x.tg⟩ : Ar)]).flatMap encA3 := by
  have hl : (R.flatMap encA3).length = R.length * 3 := by
    induction R with
    | nil => rfl
    | cons y R ih => rw [List.flatMap_cons, List.length_append, ih]; simp [encA3]; omega
  rw [List.flatMap_append, List.flatMap_append, List.set_append_right _ _ (by omega), hl, Nat.add_sub_cancel_left]
  simp [encA3]
/-- The last arc, longer. -/
theorem SB.ext {w2 : World} {sb rg : Nat} {R : List Ar} {x : Ar} {rc : Nat} {acc : Int} {V : World} (h : SB w2 sb (R ++ [x]) (.slice (some ⟨rg, 0, none⟩) (R.length + 1) rc) acc V) (m : Int) : SB w2 sb (R ++ [⟨x.lo, m, x.tg⟩]) (.slice (some ⟨rg, 0, none⟩) (R.length + 1) rc) acc (V.setCell ⟨rg, R.length * 3 + 1, none⟩ (.int .i64 m)) := by
  have har := h.ar
  unfold OwnA at har
  rw [show (R ++ [x]).length = R.length + 1 by simp] at har
  refine ⟨set_blk h.bx (fun e => ?_), ?_, h.lo⟩
  · exact own_nb har h.bx (by decide) (by rw [e]; rfl)
  · have h9 := (World.ownsRow.stored har (R.length * 3 + 1) (.int .i64 m)).1
    rw [set_hi] at h9
    unfold OwnA
    rw [show (R ++ [(⟨x.lo, m, x.tg⟩ : Ar)]).length = R.length + 1 by simp]
    exact h9
/-- An arc more. -/
theorem SB.add {w2 : World} {sb : Nat} {R : List Ar} {rv rv' : Value} {acc : Int} {V W : World} (h : SB w2 sb R rv acc V) (y : Ar) (hb : But (fun k => rv.ownBlock = some k) V W) (ho : W.ownsRow (w2.heap.size + 1) 39 3 rv' (R.length + 1) (R.flatMap encA3 ++ encA3 y)) : SB w2 sb (R ++ [y]) rv' acc (W.setCell ⟨sb, 0, none⟩ rv') := by
  have hbx := but_blk hb h.bx (fun e => own_nb h.ar h.bx (by decide) e)
  refine ⟨by simpa using blk_set (o := 0) hbx rv', ?_, h.lo⟩
  unfold OwnA
  rw [List.length_append, List.flatMap_append]
  have h8 : [y].flatMap encA3 = encA3 y := by simp
  rw [h8]
  exact ownsRow_keep ho ((But.refl (fun k => k = sb) W).setCell _ _ (.inr rfl)) (fun k hk e => own_nb ho hbx (by decide) (by rw [hk, e]))
/-- A state more. -/
theorem LM.state {n : Nat} {cl : Int → Int} {w2 : World} {ob sb : Nat} {O nb : List Int} {ov : Value} {Z : List (Ds × Value)} {dv dv' rv : Value} {R : List Ar} {acc : Int} {V W : World} (h : LM n cl w2 ob O nb ov Z dv V) (hs : SB w2 sb R rv acc V) (hb : But (fun k => dv.ownBlock = some k) V W) (ho : W.ownsRow (w2.heap.size + 1) 37 2 dv' (Z.length + 1) (Z.flatMap encD2 ++ [rv, .int .i64 acc])) : LM n cl w2 ob O nb ov (Z ++ [(⟨R, acc⟩, rv)]) dv' (W.setCell ⟨ob, 0, none⟩ dv') := by
  have b2 : But (fun k => k = ob) W (W.setCell ⟨ob, 0, none⟩ dv') := (But.refl _ _).setCell _ _ (.inr rfl)
  have hob := but_blk hb h.obx (fun e => own_nb h.done.row h.obx (by decide) e)
  have keep : ∀ {e : TypeId} {s n B : Nat} {u : Value} {xs : List Value}, e ≠ 37 → e ≠ 24 → V.ownsRow B e s u n xs → (W.setCell ⟨ob, 0, none⟩ dv').ownsRow B e s u n xs := fun {e s n B u xs} h1 h2 hu => by
    refine ownsRow_keep (ownsRow_keep hu hb (fun k hk e => ?_)) b2 (fun k hk e => ?_)
    · obtain ⟨cs, hc⟩ := own_is_cells h.done.row e
      exact own_nb hu hc h1 hk
    · exact own_nb hu h.obx h2 (by rw [hk, e])
  have hd := fun k hk => (World.ownsRow.lt h.done.row k hk).1
  have hobl := h.obl
  refine ⟨⟨below_but (below_but h.num.bel hb (Nat.le_refl _) (fun k hk => by have := hd k hk; omega)) b2 (Nat.le_refl _) (fun k hk => by omega), keep (by decide) (by decide) h.num.row⟩, h.nt, keep (by decide) (by decide) h.ord, by simpa using blk_set (o := 0) hob dv', h.obl, ⟨?_, fun q hq => ?_⟩⟩
  · rw [List.length_append, List.flatMap_append]
    have h8 : [((⟨R, acc⟩ : Ds), rv)].flatMap encD2 = [rv, .int .i64 acc] := by simp [encD2]
    rw [h8]
    exact ownsRow_keep ho b2 (fun k hk e => own_nb ho hob (by decide) (by rw [hk, e]))
  · rcases List.mem_append.1 hq with hq | hq
    · exact keep (by decide) (by decide) (h.done.arcs q hq)
    · simp at hq
      subst hq
      exact keep (by decide) (by decide) hs.ar
/-- What is made fits into memory. -/
theorem DI.bounds {l : List Ds} {cl : Int → Int} {p : Nat} {O : List Int} {Z : List (Ds × Value)} (h : DI l cl p O (Z.map Prod.fst)) {v : Value} {w : World} (hs : SlD l v w) (hn : l.length ≤ 60) : ∀ q ∈ Z, q.1.arcs.length ≤ 1000000 ∧ i64B q.1.acc ∧ ∀ x ∈ q.1.arcs, i64B x.lo ∧ i64B x.hi ∧ i64B x.tg := by
  intro q hq
  have hm : q.1 ∈ Z.map Prod.fst := List.mem_map.2 ⟨q, hq, rfl⟩
  obtain ⟨i, hi⟩ := List.getElem?_of_mem hm
  have hil := (List.getElem?_eq_some_iff.1 hi).1
  have hip : i < p := by rw [← h.len]; exact hil
  have hiO : i < O.length := Nat.lt_of_lt_of_le hip h.le
  obtain ⟨h1, h2⟩ := h.st i O[i] hip (List.getElem?_eq_getElem hiO)
  have e := arcsD_mem hil
  rw [List.getElem?_eq_getElem hil] at hi
  rw [Option.some.inj hi] at e
  rw [e.1] at h2
  rw [e.2] at h1
  have ho := h.oi.ok O[i] (List.getElem_mem hiO)
  have hl := upA_lenL (by omega) h2.up
  have hO := h.oi.small
  refine ⟨by omega, by rw [h1]; exact acc_i64 hs ho.1 ho.2, fun x hx => ?_⟩
  have u1 := upA_low h2.up x hx
  have u2 := upA_high h2.up x hx
  obtain ⟨j, b, e1, e2, _⟩ := h2.tgs hx
  have := (List.getElem?_eq_some_iff.1 e2).1
  exact ⟨⟨by omega, by omega⟩, ⟨by omega, by omega⟩, by omega, by omega⟩

set_option maxRecDepth 100000 in
set_option maxHeartbeats 6400000 in
theorem rleast_any (l : List Ds) (v : Value) (w : World) (hl : SlD l v w) (hf : fitD l) (hn : l.length ≤ 60) :
    Calls Try.prog 15 #[.agg #[v]] w fun e w' => ∃ dv d, e = .returned (.agg #[dv]) ∧ SlD d dv w' ∧ NF d ∧ resD d 0 = resD l 0 ∧ Below w.heap.size w w' := by
  have h0 := List.length_pos_iff.2 hf.some
  have HL : Hid (∀ W, Below w.heap.size w W → SlD l v W) := fun W h => hl.next h
  obtain ⟨va, vc, rfl, _⟩ := hl
  obtain ⟨w0, hw0⟩ : ∃ w0, w0 = (w.alloc (Obj.cells #[.slice va l.length vc] 24)).alloc (Obj.cells #[.slice none 0 0] 24) := ⟨_, rfl⟩
  have HB0 : Hid (Below w.heap.size w w0 ∧ w0.heap[w.heap.size]? = some (Obj.cells #[.slice va l.length vc] 24) ∧ w0.heap[w.heap.size + 1]? = some (Obj.cells #[.slice none 0 0] 24)) := by
    have a2 := heap_alloc_new (w.alloc (Obj.cells #[.slice va l.length vc] 24)) (Obj.cells #[.slice none 0 0] 24)
    rw [hw0]
    exact ⟨((Below.refl _ _).alloc (Nat.le_refl _) _).alloc (by simp) _, blk_new (heap_alloc_new _ _), by simpa using a2⟩
  have x0 : w0.cell? ⟨w.heap.size, 0, none⟩ = some (.slice va l.length vc) := by rw [Lib.cell_of_heap HB0.out.2.1]; rfl
  have C1 := full_any l _ w0 (HL.out _ HB0.out.1) hf hn
  go_enter Try.func15, Try.ntmps15
  go_upto_region 1 with fail
  rw [← hw0]
  clear hw0
  go_wp2_with fail
  refine C1.mono ?_
  rintro e w1 ⟨nv, av, rfl, hG, hA, hb1⟩
  clear C1 x0
  obtain ⟨gb, go, nc, _, _, _, rfl, _⟩ := grid_at hG h0
  obtain ⟨ab, ao, ac, rfl, _⟩ := acc_at hA h0
  have HB1 : Hid (Below w.heap.size w w1 ∧ w1.heap[w.heap.size + 1]? = some (Obj.cells #[.slice none 0 0] 24)) := ⟨HB0.out.1.trans (hb1.mono HB0.out.1.size), (hb1.block _ (blk_lt HB0.out.2.2)).trans HB0.out.2.2⟩
  have HGR : Hid (∀ W, Below w1.heap.size w1 W → SlR (gridG l) (.slice (some ⟨gb, go, none⟩) l.length nc) W ∧ SlI (l.map Ds.acc) (.slice (some ⟨ab, ao, none⟩) l.length ac) W) := fun W hW => ⟨hG.next hW, hA.next hW⟩
  have HWG : Hid (∀ W, W = w1.alloc (Obj.cells #[.slice (some ⟨gb, go, none⟩) l.length nc, .slice (some ⟨ab, ao, none⟩) l.length ac] 68) → Below w1.heap.size w1 W ∧ W.heap[w1.heap.size]? = some (Obj.cells #[.slice (some ⟨gb, go, none⟩) l.length nc, .slice (some ⟨ab, ao, none⟩) l.length ac] 68)) := fun W hW => by
    rw [hW]
    exact ⟨(Below.refl w1.heap.size w1).alloc (Nat.le_refl _) _, heap_alloc_new _ _⟩
  clear hG hA hb1 HB0
  go_upto_region 2 with fail
  have hwg := HWG.out _ rfl
  clear HWG
  generalize w1.alloc (Obj.cells #[.slice (some ⟨gb, go, none⟩) l.length nc, .slice (some ⟨ab, ao, none⟩) l.length ac] 68) = wg at *
  have HWG : Hid (Below w1.heap.size w1 wg ∧ wg.heap[w1.heap.size]? = some (Obj.cells #[.slice (some ⟨gb, go, none⟩) l.length nc, .slice (some ⟨ab, ao, none⟩) l.length ac] 68)) := hwg
  have y0 : wg.cell? ⟨w1.heap.size, 0, none⟩ = some (.slice (some ⟨gb, go, none⟩) l.length nc) := by rw [Lib.cell_of_heap hwg.2]; rfl
  have y1 : wg.cell? ⟨w1.heap.size, 1, none⟩ = some (.slice (some ⟨ab, ao, none⟩) l.length ac) := by rw [Lib.cell_of_heap hwg.2]; rfl
  have C2 := classes_any l _ _ wg (HGR.out _ hwg.1).1 (HGR.out _ hwg.1).2 hf hn
  clear hwg
  go_wp2_with fail
  refine C2.mono ?_
  rintro e w2 ⟨cv, c, k, rfl, hC, hk1, hk2, hb2⟩
  clear C2 y0 y1
  have HB2 : Hid (Below w1.heap.size w1 w2 ∧ w2.heap[w1.heap.size]? = some (Obj.cells #[.slice (some ⟨gb, go, none⟩) l.length nc, .slice (some ⟨ab, ao, none⟩) l.length ac] 68)) := ⟨HWG.out.1.trans (hb2.mono HWG.out.1.size), (hb2.block _ (blk_lt HWG.out.2)).trans HWG.out.2⟩
  have HCL : Hid (ClOk l (clv c) ∧ fitD l) := ⟨clOk_of hf hk1 hk2, hf⟩
  have HCN : Hid (c.length = l.length ∧ 0 < l.length) := ⟨hk1.len, h0⟩
  have HLO : Hid (∀ a, okS l.length a → -1 ≤ clv c a ∧ clv c a < l.length) := fun a ha => hk1.low ha
  have HCI : Hid (∀ W, Below w2.heap.size w2 W → SlI c cv W) := fun W h => hC.next h
  have hcl : c.length = l.length := hk1.len
  obtain ⟨ca, cc, rfl, hcr, _⟩ := hC
  rw [hcl] at *
  have hcl : c.length = l.length := hk1.len
  obtain ⟨cb, co, rfl, hcb, hc0⟩ := hcr 0 c[0] (List.getElem?_eq_getElem (by omega))
  have hcz : clv c 0 = c[0] := by
    unfold clv
    rw [if_neg (by omega)]
    show (c[0]?).getD (-1) = _
    rw [List.getElem?_eq_getElem (by omega)]
    rfl
  have hc0' : w2.cell? ⟨cb, co + 0, none⟩ = some (.int .i64 (clv c 0)) := by rw [hcz]; exact hc0
  rw [Nat.add_zero] at hc0'
  have HC0 : Hid (∀ W, Below w2.heap.size w2 W → W.cell? ⟨cb, co, none⟩ = some (.int .i64 (clv c 0))) := fun W hW => (hW.cell (p := ⟨cb, co, none⟩) hcb).trans hc0'
  obtain ⟨ii, hii, hz0, hz1, hz2⟩ := info_parts info3
  obtain ⟨wm, hm1, hm2, hm3⟩ := run_makeSlice_full (P := Try.prog) w2 w2.heap.size 57 3 ii _ 1 Try.underlying57 hii hz0 hz1 .i64 .i64 l.length (by omega) (by rw [hz2]; omega) (by unfold maxLen; omega) (Nat.le_refl _)
  have HR0 : Hid (RwL w2 (List.replicate l.length 0) wm) := RwL.made hm2 hm3
  clear hm2 hm3 hf hk1 hk2 hb2 hcr hcb hc0 hc0' hcz HWG
  go_wp2_with fail
  clear hm1
  go_loopw [6] (fun iv wr => ∃ (i : Nat) (L : List Int), iv = .int .i64 i ∧ i ≤ l.length ∧ L.length = l.length ∧ Hid (RwL w2 L wr ∧ ∀ k : Nat, k < i → L[k]? = some (-1))) (fun i _ => l.length - (intOf i).toNat)
  case atStart => exact ⟨0, _, rfl, Nat.zero_le _, by simp, HR0.out, fun k hk => by omega⟩
  case round =>
    rename World => wr
    clear HR0
    obtain ⟨i, L, rfl, hi, hLl, HI⟩ := hrel
    by_cases hlt : i < l.length
    case pos =>
      have d1 : decide ((i : Int) < l.length) = true := decide_eq_true (by omega)
      obtain ⟨k1, k2⟩ := HI.out.1.facts (j := i) (by omega)
      have HE : Hid (RwL w2 (L.set i (-1)) (wr.setCell ⟨w2.heap.size, i, none⟩ (.int .i64 (-1))) ∧ ∀ k : Nat, k < i + 1 → (L.set i (-1))[k]? = some (-1)) := ⟨HI.out.1.put i (-1), fun k hk => by
        by_cases e : i = k
        · subst e; rw [List.getElem?_set_self (by omega)]
        · rw [List.getElem?_set_ne e]; exact HI.out.2 k (by omega)⟩
      have hls : (L.set i (-1)).length = l.length := by rw [List.length_set]; exact hLl
      generalize L.set i (-1) = L2 at *
      clear HI HB1 HGR HB2 HCL HLO HCI HC0 HL
      go_wp2_with fail
      exact ⟨⟨i + 1, L2, by go_num, by omega, hls, HE.out⟩, by simp [intOf]; omega⟩
    obtain rfl : i = l.length := by omega
    have d1 : decide ((l.length : Int) < l.length) = false := decide_eq_false (by omega)
    have HLL : Hid (RwL w2 L wr ∧ ∀ k : Nat, k < l.length → L[k]? = some (-1)) := HI.out
    clear HI hlt
    go_upto_region 8 with fail
    clear d1
    have hw2 : w2.heap.size + 1 ≤ wr.heap.size := by have := (World.ownsRow.lt HLL.out.1.row w2.heap.size rfl).2; omega
    have bA : Below wr.heap.size wr (wr.alloc (Obj.cells #[.int .i64 0] 3)) := below_box _ _ _
    have HO0 : Hid (∀ W, W = wr.alloc (Obj.cells #[.int .i64 0] 3) → RwL w2 L W ∧ W.ownsRow (w2.heap.size + 1) 3 1 (.slice (some ⟨wr.heap.size, 0, none⟩) 1 1) 1 [.int .i64 0]) := fun W hW => by
      rw [hW]
      exact ⟨HLL.out.1.next bA, World.ownsRow_lit (base := w2.heap.size + 1) (e := 3) (size := 1) wr #[.int .i64 0] 1 hw2 (by unfold maxLen; omega) rfl⟩
    have HZ0 : Hid (∀ k : Nat, k < l.length → L[k]? = some (-1)) := HLL.out.2
    have HC1 : Hid (∀ W, W = wr.alloc (Obj.cells #[.int .i64 0] 3) → W.cell? ⟨cb, co, none⟩ = some (.int .i64 (clv c 0))) := fun W hW => HC0.out W (by rw [hW]; exact HLL.out.1.bel.trans (bA.mono HLL.out.1.bel.size))
    clear HLL bA
    go_upto_region 10 with fail
    have h1 := HO0.out _ rfl
    have h2 := HC1.out _ rfl
    clear HO0 HC1
    generalize wr.alloc (Obj.cells #[.int .i64 0] 3) = wp at *
    have HO1 : Hid (RwL w2 L wp ∧ wp.ownsRow (w2.heap.size + 1) 3 1 (.slice (some ⟨wr.heap.size, 0, none⟩) 1 1) 1 [.int .i64 0]) := h1
    obtain ⟨z0, hz0⟩ : ∃ z, clv c 0 = z := ⟨_, rfl⟩
    rw [hz0] at h2
    have HZC : Hid (clv c 0 = z0 ∧ -1 ≤ z0 ∧ z0 < l.length) := ⟨hz0, by rw [← hz0]; exact HLO.out 0 ⟨by omega, by omega⟩⟩
    obtain ⟨GB, hGB⟩ : ∃ B, decide (z0 ≥ 0) = B := ⟨_, rfl⟩
    clear h1 hz0
    go_upto_if 36 with fail
    go_cut [8] from 152 (fun t8 wx => ∃ z : Nat, t8 = .int .i64 z ∧ wx = wp ∧ Hid (z < l.length ∧ (0 ≤ clv c 0 → clv c 0 = (z : Int))))
    case first =>
      clear HO1 HZ0 HC0 HCI HLO HCL HGR HB2 HB1 HL
      cases GB
      case true =>
        have hzz := of_decide_eq_true hGB
        have HE : Hid (z0.toNat < l.length ∧ (0 ≤ clv c 0 → clv c 0 = ((z0.toNat : Nat) : Int))) := ⟨by have := HZC.out.2.2; omega, fun _ => by rw [HZC.out.1]; omega⟩
        have HZN : Hid (((z0.toNat : Nat) : Int) = z0) := Int.toNat_of_nonneg hzz
        clear HZC hzz
        go_wp2_with fail
        go_meet
        exact ⟨z0.toNat, by rw [HZN.out], rfl, HE.out⟩
      case false =>
        have hzz := of_decide_eq_false hGB
        have HE : Hid (0 < l.length ∧ (0 ≤ clv c 0 → clv c 0 = ((0 : Nat) : Int))) := ⟨h0, fun h => by have := HZC.out.1; omega⟩
        clear HZC hzz
        go_wp2_with fail
        go_meet
        exact ⟨0, rfl, rfl, HE.out⟩
    case rest =>
    obtain ⟨z, rfl, hwc, HZ⟩ := hcut
    obtain rfl := hwc.symm
    clear hwc h2 hGB
    have hzl : z < l.length := HZ.out.1
    obtain ⟨k1, k2⟩ := HO1.out.1.facts (j := z) (by omega)
    have HE1 : Hid (∀ W, W = (wp.setCell ⟨w2.heap.size, z, none⟩ (.int .i64 0)).alloc (Obj.cells #[.slice none 0 0] 24) → LM l.length (clv c) w2 wp.heap.size [0] (L.set z 0) (.slice (some ⟨wr.heap.size, 0, none⟩) 1 1) [] (.slice none 0 0) W) := fun W hW => by
      have hp := HO1.out.1.put z 0
      have b2 : Below (wp.setCell ⟨w2.heap.size, z, none⟩ (.int .i64 0)).heap.size (wp.setCell ⟨w2.heap.size, z, none⟩ (.int .i64 0)) W := by rw [hW]; exact below_box _ _ _
      have hsz : (wp.setCell ⟨w2.heap.size, z, none⟩ (.int .i64 0)).heap.size = wp.heap.size := by simp
      refine ⟨hp.next b2, NumT.start hzl HZ.out.2 hLl HZ0.out, ?_, ?_, ?_, ⟨World.ownsRow_nil _ _ _ _, fun q hq => by cases hq⟩⟩
      · refine own_below (ownsRow_keep HO1.out.2 ((But.refl (fun k => k = w2.heap.size) wp).setCell _ _ (.inr rfl)) (fun k hk e => ?_)) b2
        have h9 := (World.ownsRow.lt HO1.out.2 k hk).1
        omega
      · have a1 := heap_alloc_new (wp.setCell ⟨w2.heap.size, z, none⟩ (.int .i64 0)) (Obj.cells #[.slice none 0 0] 24)
        rw [hW, ← hsz]
        exact a1
      · have := (World.ownsRow.lt HO1.out.1.row w2.heap.size rfl).2
        omega
    clear HO1 HZ0 HZ
    go_upto_region 14 with fail
    have HLM := HE1.out _ rfl
    clear HE1 k1 k2
    generalize (wp.setCell ⟨w2.heap.size, z, none⟩ (.int .i64 0)).alloc (Obj.cells #[.slice none 0 0] 24) = wo at *
    have HM0 : Hid (LM l.length (clv c) w2 wp.heap.size [0] (L.set z 0) (.slice (some ⟨wr.heap.size, 0, none⟩) 1 1) [] (.slice none 0 0) wo) := HLM
    generalize wp.heap.size = ob at *
    clear HLM
    go_wp2_with fail
    go_loopw [7, 10] (fun ov nv wq => ∃ (p : Nat) (O nb : List Int) (oa : Option Addr) (oc : Nat) (Z : List (Ds × Value)) (dv : Value), ov = .slice oa O.length oc ∧ nv = .int .i64 p ∧ p ≤ O.length ∧ O.length ≤ l.length ∧ Hid (DI l (clv c) p O (Z.map Prod.fst) ∧ LM l.length (clv c) w2 ob O nb (.slice oa O.length oc) Z dv wq)) (fun _ i _ => l.length - (intOf i).toNat)
    case atStart => exact ⟨0, [0], _, _, 1, [], _, rfl, rfl, by simp, h0, DI.start h0 _, HM0.out⟩
    case round =>
      rename World => wq
      clear HM0
      obtain ⟨p, O, nb, oa, oc, Z, dv, rfl, rfl, hp, hO, HI⟩ := hrel
      have HDB : Hid (∀ V, Below w2.heap.size w2 V → (V.cell? ⟨w1.heap.size, 0, none⟩ = some (.slice (some ⟨gb, go, none⟩) l.length nc) ∧ V.cell? ⟨w1.heap.size, 1, none⟩ = some (.slice (some ⟨ab, ao, none⟩) l.length ac)) ∧ Below w1.heap.size w1 V) := fun V hV => by
        have h := (hV.block _ (blk_lt HB2.out.2)).trans HB2.out.2
        exact ⟨⟨by rw [Lib.cell_of_heap h]; rfl, by rw [Lib.cell_of_heap h]; rfl⟩, HB2.out.1.trans (hV.mono HB2.out.1.size)⟩
      by_cases hlt : p < O.length
      case neg =>
        obtain rfl : p = O.length := by omega
        have d1 : decide ((O.length : Int) < O.length) = false := decide_eq_false (by omega)
        obtain ⟨hD, hM⟩ := HI.out
        have hbw := HDB.out wq hM.num.bel
        have hBW : Below w.heap.size w wq := HB1.out.1.trans (hbw.2.mono HB1.out.1.size)
        have hrb := (hbw.2.block _ (blk_lt HB1.out.2)).trans HB1.out.2
        obtain ⟨da, dc, rfl⟩ := slice_of_ownK hM.done.row
        have o0 : wq.cell? ⟨ob, 0, none⟩ = some (.slice da Z.length dc) := by rw [Lib.cell_of_heap hM.obx]; rfl
        have r0 : wq.cell? ⟨w.heap.size + 1, 0, none⟩ = some (.slice none 0 0) := by rw [Lib.cell_of_heap hrb]; rfl
        have f0 : wq.frozen? ⟨w.heap.size + 1, 0, none⟩ = false := Lib.frozen_of_heap hrb _
        have hlow : w.heap.size + 1 < w1.heap.size := blk_lt HB1.out.2
        have hw12 : w1.heap.size ≤ w2.heap.size := HB2.out.1.size
        have HZ : Hid (∀ W, W = wq.setCell ⟨w.heap.size + 1, 0, none⟩ (.slice da Z.length dc) → W.heap[w.heap.size + 1]? = some (Obj.cells #[.slice da Z.length dc] 24) ∧ SlD (Z.map Prod.fst) (.slice da Z.length dc) W ∧ NF (Z.map Prod.fst) ∧ resD (Z.map Prod.fst) 0 = resD l 0 ∧ Below w.heap.size w W) := fun W hW => by
          have b1 : But (fun k => k = w.heap.size + 1) wq W := by rw [hW]; exact (But.refl _ _).setCell _ _ (.inr rfl)
          have hnf := hD.nf HCL.out.2 HCL.out.1
          have hbd := hD.bounds (HL.out _ (Below.refl _ _)) hn
          have hZl : Z.length ≤ 1000000 := by
            have := hD.len
            simp at this
            omega
          have keep : ∀ {e : TypeId} {s n : Nat} {u : Value} {xs : List Value}, wq.ownsRow (w2.heap.size + 1) e s u n xs → W.ownsRow (w2.heap.size + 1) e s u n xs := fun {e s n u xs} hu => ownsRow_keep hu b1 (fun k hk e => by have := (World.ownsRow.lt hu k hk).1; omega)
          refine ⟨?_, done_sld ⟨keep hM.done.row, fun q hq => keep (hM.done.arcs q hq)⟩ hZl hbd, hnf.1, hnf.2, below_but hBW b1 (Nat.le_refl _) (fun k hk => by omega)⟩
          rw [hW]
          simpa using blk_set (o := 0) hrb (.slice da Z.length dc)
        clear hD hM hbw hBW hrb HI HDB HL HB1 HGR HB2 HCL HLO HCI HC0 hlow hw12 hlt
        go_wp2_with fail
        have HZ2 := HZ.out _ rfl
        refine bodyPost_ret (results_cell_row rfl _ _ (w.heap.size + 1) 24 #[.slice da Z.length dc] (0, 0) _ rfl HZ2.1 Try.underlying24 rfl (by kernel_rfl)) rfl ?_
        exact ⟨_, Z.map Prod.fst, rfl, HZ2.2⟩
      obtain ⟨a, ha⟩ : ∃ a, O[p]? = some a := ⟨_, List.getElem?_eq_getElem hlt⟩
      have hao := HI.out.1.oi.ok a (List.mem_of_getElem? ha)
      obtain ⟨a, rfl⟩ : ∃ n : Nat, a = n := ⟨a.toNat, by omega⟩
      have hal : a < l.length := by have := hao.2; omega
      obtain ⟨g, rfl⟩ : ∃ g, oa = some ⟨g, 0, none⟩ := by
        rcases HI.out.2.ord.2 with ⟨h1, h2⟩ | ⟨g, cap, cur, h1, _⟩
        · omega
        · cases h1; exact ⟨g, rfl⟩
      have o1 : wq.cell? ⟨g, p, none⟩ = some (.int .i64 (a : Int)) := own_cells1 HI.out.2.ord (by rw [List.getElem?_map, ha]; rfl)
      obtain ⟨⟨b0, b1⟩, hbw⟩ := HDB.out wq HI.out.2.num.bel
      obtain ⟨_, _, _, e1, hacc⟩ := acc_at (HGR.out _ (Below.refl _ _)).2 hal
      cases e1
      have a0 := hacc wq hbw
      obtain ⟨acc, hax⟩ : ∃ x, accD l (a : Int) = x := ⟨_, rfl⟩
      rw [hax] at a0
      have HAX : Hid (O[p]? = some (a : Int) ∧ accD l (a : Int) = acc) := ⟨ha, hax⟩
      have HG2 : Hid (∃ rb ro rc, ∀ V, Below w1.heap.size w1 V → V.cell? ⟨gb, go + a, none⟩ = some (.slice (some ⟨rb, ro, none⟩) 256 rc) ∧ ∀ z : Nat, z < 256 → V.cell? ⟨rb, ro + z, none⟩ = some (.int .i64 (ledD l a z))) := by
        obtain ⟨_, _, _, rb, ro, rc, e2, hgr⟩ := grid_at (HGR.out _ (Below.refl _ _)).1 hal
        cases e2
        exact ⟨rb, ro, rc, hgr⟩
      have HS0 : Hid (∀ W, W = wq.alloc (Obj.cells #[.slice none 0 0, .int .i64 acc] 37) → LM l.length (clv c) w2 ob O nb (.slice (some ⟨g, 0, none⟩) O.length oc) Z dv W ∧ SB w2 wq.heap.size [] (.slice none 0 0) acc W) := fun W hW => by
        have b2 : Below wq.heap.size wq W := by rw [hW]; exact below_box2 _ _ _ _
        have h := HI.out.2
        refine ⟨h.next b2, ⟨by rw [hW]; exact heap_alloc_new _ _, World.ownsRow_nil _ _ _ _, ?_⟩⟩
        have := (World.ownsRow.lt h.num.row w2.heap.size rfl).2
        omega
      have HD : Hid (DI l (clv c) p O (Z.map Prod.fst)) := HI.out.1
      have HLX : Hid ((∀ k, dv.ownBlock = some k → k < wq.heap.size) ∧ ∀ q ∈ Z, ∀ k, q.2.ownBlock = some k → k < wq.heap.size) := ⟨fun k hk => (World.ownsRow.lt HI.out.2.done.row k hk).2, fun q hq k hk => (World.ownsRow.lt (HI.out.2.done.arcs q hq) k hk).2⟩
      have d1 : decide ((p : Int) < O.length) = true := decide_eq_true (by omega)
      clear HI hax hacc ha hao hbw
      go_upto_region 19 with fail
      have hs0 := HS0.out _ rfl
      clear HS0 a0 o1 b0 b1 d1
      generalize wq.alloc (Obj.cells #[.slice none 0 0, .int .i64 acc] 37) = wo at *
      generalize wq.heap.size = sb at *
      have HS : Hid (LM l.length (clv c) w2 ob O nb (.slice (some ⟨g, 0, none⟩) O.length oc) Z dv wo ∧ SB w2 sb [] (.slice none 0 0) acc wo) := hs0
      clear hs0
      obtain ⟨rb, ro, rc, hgr⟩ := HG2.out
      have HGC : Hid (∀ V, Below w1.heap.size w1 V → V.cell? ⟨gb, go + a, none⟩ = some (.slice (some ⟨rb, ro, none⟩) 256 rc) ∧ ∀ z : Nat, z < 256 → V.cell? ⟨rb, ro + z, none⟩ = some (.int .i64 (ledD l a z))) := hgr
      clear HG2 hgr
      go_wp2_with fail
      go_loopw [7, 13] (fun ov mv wz => ∃ (m : Nat) (O' nb' : List Int) (oa' : Option Addr) (oc' : Nat) (R : List Ar) (rv : Value), ov = .slice oa' O'.length oc' ∧ mv = .int .i64 m ∧ m ≤ 256 ∧ O'.length ≤ l.length ∧ Hid (LM l.length (clv c) w2 ob O' nb' (.slice oa' O'.length oc') Z dv wz ∧ SB w2 sb R rv acc wz ∧ RI l (clv c) O.length a m O' R ∧ O <+: O' ∧ ∀ k, rv.ownBlock = some k → sb < k)) (fun _ m _ => 256 - (intOf m).toNat)
      case atStart => exact ⟨0, O, nb, _, oc, [], _, rfl, rfl, by omega, hO, HS.out.1, HS.out.2, ⟨HD.out.oi, ArcsOk.nil _ _ _ _, trivial, rfl⟩, List.prefix_refl _, fun k hk => by cases hk⟩
      case round =>
        rename World => wz
        clear HS
        obtain ⟨m, O', nb', oa', oc', R, rv, rfl, rfl, hm, hO', HI⟩ := hrel
        by_cases hlm : m < 256
        case neg =>
          obtain rfl : m = 256 := by omega
          have d1 : decide (((256 : Nat) : Int) < 256) = false := by decide
          obtain ⟨da, dc, rfl⟩ := slice_of_ownK HI.out.1.done.row
          obtain ⟨ra, rc2, rfl⟩ := slice_of_ownK HI.out.2.1.ar
          have o0 : wz.cell? ⟨ob, 0, none⟩ = some (.slice da Z.length dc) := by rw [Lib.cell_of_heap HI.out.1.obx]; rfl
          have s0 : wz.cell? ⟨sb, 0, none⟩ = some (.slice ra R.length rc2) := by rw [Lib.cell_of_heap HI.out.2.1.bx]; rfl
          have s1 : wz.cell? ⟨sb, 1, none⟩ = some (.int .i64 acc) := by rw [Lib.cell_of_heap HI.out.2.1.bx]; rfl
          have hZl : Z.length ≤ 60 := by
            have h1 := HD.out.len
            have h2 := HD.out.le
            simp at h1
            omega
          obtain ⟨ids, hids, hd0, hd1, hd2⟩ := info_parts infoDs
          have bA : Below wz.heap.size wz (wz.alloc (Obj.cells #[.slice ra R.length rc2, .int .i64 acc] 37)) := below_box2 _ _ _ _
          have hnw := new_cell2 wz (.slice ra R.length rc2) (.int .i64 acc) 37
          have hON := own_below HI.out.1.done.row bA
          have hszn : w2.heap.size + 1 ≤ (wz.alloc (Obj.cells #[.slice ra R.length rc2, .int .i64 acc] 37)).heap.size := by
            have h1 := (World.ownsRow.lt HI.out.1.num.row w2.heap.size rfl).2
            have h2 := bA.size
            omega
          have HBA : Hid (Below wz.heap.size wz (wz.alloc (Obj.cells #[.slice ra R.length rc2, .int .i64 acc] 37))) := bA
          clear bA
          go_wp2_with (at_builtin; refine wpList_append_own_at _ rfl _ _ 22 rfl (w2.heap.size + 1) 37 ids _ 2 32 Try.underlying22 hids hd0 hd1 hd2 rfl (by omega) _ _ _ rfl hON ⟨wz.heap.size, 0, none⟩ 1 1 [.slice ra R.length rc2, .int .i64 acc] rfl rfl hnw (by simp [Value.oneCell']) (by unfold maxLen; omega) (by omega) hszn ?_)
          intro v' w8 ho8 hg8 _ hat8
          have b08 : But (fun k => (Value.slice da Z.length dc).ownBlock = some k) wz w8 := (But.of_next HBA.out).trans (but_grown hg8 (fun r h => h))
          have HF8 : Hid (DI l (clv c) (p + 1) O' ((Z ++ [((⟨R, acc⟩ : Ds), Value.slice ra R.length rc2)]).map Prod.fst) ∧ LM l.length (clv c) w2 ob O' nb' (.slice oa' O'.length oc') (Z ++ [((⟨R, acc⟩ : Ds), Value.slice ra R.length rc2)]) v' (w8.setCell ⟨ob, 0, none⟩ v') ∧ p + 1 ≤ O'.length) := by
            obtain ⟨h1, h2, h3, h4, h5⟩ := HI.out
            obtain ⟨S, rfl⟩ := h4
            have h3' : RI l (clv c) O.length a 256 (O ++ S) R := h3
            have h6 := HD.out.step HAX.out.1 h3'.oi h3'.ar h3'.gr h3'.bh
            rw [HAX.out.2] at h6
            refine ⟨by rw [List.map_append]; exact h6, h1.state h2 b08 ho8, by simp; omega⟩
          have hob8 := but_blk b08 HI.out.1.obx (fun e => own_nb HI.out.1.done.row HI.out.1.obx (by decide) e)
          have g8 : w8.cell? ⟨ob, 0, none⟩ = some (.slice da Z.length dc) := by rw [Lib.cell_of_heap hob8]; rfl
          have f8 : w8.frozen? ⟨ob, 0, none⟩ = false := Lib.frozen_of_heap hob8 _
          obtain ⟨va', vc', rfl⟩ := slice_of_ownK ho8
          clear ho8 hg8 hat8 hON hnw HBA hszn b08 hob8 HI HL HB1 HGR HB2 HCL HLO HCI HC0 HDB HAX HD HLX HGC HCN o0 s0 s1 d1
          go_wp2_with fail
          exact ⟨⟨p + 1, O', nb', oa', oc', _, _, rfl, by go_num, HF8.out.2.2, hO', HF8.out.1, HF8.out.2.1⟩, by simp [intOf]; omega⟩
        have d1 : decide ((m : Int) < 256) = true := decide_eq_true (by omega)
        have hm9 : (m : Int) < 256 := by omega
        obtain ⟨⟨b0, _⟩, hbw⟩ := HDB.out wz HI.out.1.num.bel
        obtain ⟨g0, g1⟩ := HGC.out wz hbw
        have g2 := g1 m hlm
        have hok := led_ok HCL.out.2 (a := (a : Int)) ⟨by omega, by omega⟩ m
        have C3 := at_any c _ (ledD l a m) wz (HCI.out wz HI.out.1.num.bel) (by rw [HCN.out.1]; exact hok.2)
        have HQ : Hid (okS l.length (ledD l a m) ∧ -1 ≤ clv c (ledD l a m) ∧ clv c (ledD l a m) < l.length) := ⟨hok, HLO.out _ hok⟩
        obtain ⟨q, hq⟩ : ∃ q, ledD l a (m : Int) = q := ⟨_, rfl⟩
        obtain ⟨kc, hkc⟩ : ∃ k, clv c q = k := ⟨_, rfl⟩
        have HQE : Hid (ledD l a (m : Int) = q ∧ clv c q = kc) := ⟨hq, hkc⟩
        rw [hq] at g2 C3 HQ
        rw [hkc] at C3 HQ
        clear hq hkc hok hbw g1
        go_wp2_with fail
        refine C3.mono ?_
        rintro e wz' ⟨rfl, hwz⟩
        obtain rfl := hwz.symm
        clear hwz C3 d1
        by_cases hk0 : kc < 0
        · have d2 : decide (kc < 0) = true := decide_eq_true hk0
          have HE : Hid (LM l.length (clv c) w2 ob O' nb' (.slice oa' O'.length oc') Z dv wz ∧ SB w2 sb R rv acc wz ∧ RI l (clv c) O.length a ((m + 1 : Nat) : Int) O' R ∧ O <+: O' ∧ ∀ k, rv.ownBlock = some k → sb < k) := by
            obtain ⟨h1, h2, h3, h4, h5⟩ := HI.out
            exact ⟨h1, h2, by push_cast; exact h3.skip (by rw [HQE.out.1, HQE.out.2]; exact hk0), h4, h5⟩
          clear HI HQ HQE HL HB1 HGR HB2 HCL HLO HCI HC0 HDB HAX HD HLX HGC b0 g0 g2
          go_wp2_with fail
          exact ⟨⟨m + 1, O', nb', oa', oc', R, rv, rfl, by go_num, by omega, hO', HE.out⟩, by simp [intOf]; omega⟩
        have d2 : decide (kc < 0) = false := decide_eq_false hk0
        obtain ⟨kk, rfl⟩ : ∃ n : Nat, kc = n := ⟨kc.toNat, by omega⟩
        have hkn : kk < l.length := by have := HQ.out.2.2; omega
        have HP0 : Hid (0 ≤ clv c 0) := by
          show 0 ≤ clv c 0
          apply Classical.byContradiction
          intro hneg
          obtain ⟨h1, h2, h3, h4, h5⟩ := HI.out
          have h00 := HCN.out.2
          have hz0 : ¬ liveD l 0 := (HCL.out.1.neg 0 ⟨by omega, by omega⟩).1 (by omega)
          have hO1 := h3.oi.dead (by omega)
          have hmem : (a : Int) ∈ O' := h4.subset (List.mem_of_getElem? HAX.out.1)
          rw [hO1] at hmem
          simp at hmem
          have hlq : liveD l q := Classical.byContradiction fun hn => by
            have := (HCL.out.1.neg q HQ.out.1).2 hn
            rw [HQE.out.2] at this
            omega
          obtain ⟨y, hy⟩ := hlq
          refine hz0 ⟨(m : Int) :: y, ?_⟩
          rw [resD_cons]
          have h9 := HQE.out.1
          rw [hmem] at h9
          have h8 : ((0 : Nat) : Int) = 0 := rfl
          rw [h8] at h9
          rw [h9]
          exact hy
        have HRL : Hid (R.length ≤ 256) := by
          have h9 := upA_lenL (by omega) HI.out.2.2.1.ar.up
          show R.length ≤ 256
          omega
        have HRI := HI.out.2.2.1
        have HRI2 : Hid (RI l (clv c) O.length a m O' R) := HRI
        have h09 : 0 ≤ clv c (ledD l a m) := by rw [HQE.out.1, HQE.out.2]; omega
        have hcq : clv c (ledD l a m) = (kk : Int) := by rw [HQE.out.1, HQE.out.2]
        have HCQ : Hid (clv c (ledD l a m) = (kk : Int)) := hcq
        have hnl : nb'.length = l.length := HI.out.1.nt.1
        have HNK := HI.out.1.nt.2 HP0.out kk hkn
        have hkb : kk < nb'.length := by rw [hnl]; exact hkn
        obtain ⟨k1, k2⟩ := HI.out.1.num.facts hkb
        clear HRI hcq b0 g0 g2
        by_cases hnew : nb'[kk]? = some (-1) ∧ ∀ b ∈ O', clv c b ≠ (kk : Int)
        case neg =>
          obtain ⟨j, b, hj1, hj2, hj3⟩ : ∃ (j : Nat) (b : Int), nb'[kk]? = some (j : Int) ∧ O'[j]? = some b ∧ clv c b = (kk : Int) := by
            rcases HNK with h | h
            · exact absurd h hnew
            · exact h
          have hjv : nb'[kk]'hkb = (j : Int) := by
            rw [List.getElem?_eq_getElem hkb] at hj1
            exact Option.some.inj hj1
          rw [hjv] at k1
          have hjl : j < O'.length := (List.getElem?_eq_some_iff.1 hj2).1
          have HM : Hid (LM l.length (clv c) w2 ob O' nb' (.slice oa' O'.length oc') Z dv wz) := HI.out.1
          have HSB : Hid (SB w2 sb R rv acc wz ∧ ∀ k, rv.ownBlock = some k → sb < k) := ⟨HI.out.2.1, HI.out.2.2.2.2⟩
          have HNJ : Hid (∀ W, Below wz.heap.size wz W → W.cell? ⟨w2.heap.size, kk, none⟩ = some (.int .i64 (j : Int))) := fun W hW => (hW.cell (p := ⟨w2.heap.size, kk, none⟩) (World.block_lt_of_cell? _ _ k1)).trans k1
          have HPF : Hid (O <+: O' ∧ O'.length ≤ l.length) := ⟨HI.out.2.2.2.1, hO'⟩
          have HEXT : Hid (∀ (R' : List Ar) (x : Ar), R = R' ++ [x] → x.hi + 1 = (m : Int) → x.tg = (j : Int) → RI l (clv c) O.length a ((m + 1 : Nat) : Int) O' (R' ++ [⟨x.lo, m, x.tg⟩])) := fun R' x e h1 h2 => by
            have h := HRI2.out
            rw [e] at h
            push_cast
            exact h.ext (by omega) h1 h2 hj2 (hj3.trans HCQ.out.symm) h09
          have HNEW : Hid ((∀ x, R.getLast? = some x → x.hi + 1 = (m : Int) → x.tg ≠ (j : Int)) → RI l (clv c) O.length a ((m + 1 : Nat) : Int) O' (R ++ [⟨m, m, j⟩])) := fun h => by
            push_cast
            exact HRI2.out.old (by omega) (by omega) hj2 (hj3.trans HCQ.out.symm) h09 h
          have d3 : decide ((j : Int) < 0) = false := decide_eq_false (by omega)
          clear HI HRI2 HNK hnew hj1 hj2 hj3 hjv h09 HCQ HQ HQE HP0 hnl
          go_upto_region 27 with fail
          clear k1 k2 d3 d2
          generalize hO2 : O' = O2 at *
          clear hO2
          generalize nb' = nb2 at *
          generalize oa' = oa2 at *
          generalize oc' = oc2 at *
          generalize wz = W2 at *
          obtain ⟨ra, rc2, rfl⟩ := slice_of_ownK HSB.out.1.ar
          have s0 : W2.cell? ⟨sb, 0, none⟩ = some (.slice ra R.length rc2) := by rw [Lib.cell_of_heap HSB.out.1.bx]; rfl
          have hrl0 : R.length ≤ 256 := HRL.out
          rcases List.eq_nil_or_concat R with hR | ⟨R', x, hR⟩
          · have hrl : R.length = 0 := by rw [hR]; rfl
            rw [hrl] at s0 HSB
            have hw : wrap64 (((0 : Nat) : Int) - 1) = -1 := by rw [IntWalk.wrap64_in _ (by omega)]; rfl
            have hw' : wrap64 ((0 : Int) - 1) = -1 := by rw [IntWalk.wrap64_in _ (by omega)]; rfl
            have HNW : Hid (RI l (clv c) O.length a ((m + 1 : Nat) : Int) O2 (R ++ [⟨m, m, j⟩])) := HNEW.out (fun x hx => by rw [hR] at hx; cases hx)
            have bd : Below W2.heap.size W2 W2.drew := below_drewN (Below.refl _ _) 1
            have HT : W2.drew.cell? ⟨sb, 0, none⟩ = some (.slice ra 0 rc2) := s0
            have HM3 : Hid (LM l.length (clv c) w2 ob O2 nb2 (.slice oa2 O2.length oc2) Z dv W2.drew) := HM.out.next bd
            have HSB3 : Hid (SB w2 sb R (.slice ra 0 rc2) acc W2.drew ∧ ∀ k, (Value.slice ra 0 rc2).ownBlock = some k → sb < k) := ⟨HSB.out.1.next bd, HSB.out.2⟩
            have t0 : W2.drew.drew.cell? ⟨sb, 0, none⟩ = some (.slice ra 0 rc2) := s0
            have tj : W2.drew.drew.cell? ⟨w2.heap.size, kk, none⟩ = some (.int .i64 (j : Int)) := HNJ.out _ (below_drewN bd 1)
            clear hR HEXT HNEW HM HSB bd
            go_upto_region 28 with fail
            try rw [hw']
            refine wp_region_L (fun W => W.cell? ⟨sb, 0, none⟩ = some (.slice ra 0 rc2)) 26 (by kernel_rfl) 26 rfl ?_
            refine wpAnyL_take' (i := 0) (v := ?_) (oi := ⟨some 101, .move (.tmp 15), 3, "ref.go:173", #[], none⟩) rfl (by kernel_rfl) (by kernel_rfl) (by kernel_rfl) (by kernel_rfl) rfl (fun _ _ _ h => h) (Or.inl ⟨by rfl, ?_⟩) HT ?_
            rotate_left
            · intro W hSW
              go_simp
              try with_reducible rfl
            simp only [Act.put, List.setIfInBounds_toArray, List.set_cons_zero, List.set_cons_succ]
            refine wpAnyL_take' (i := 1) (v := ?_) (oi := ⟨some 102, .binOp .geq 3 (.tmp 101) (.const (.int .i64 0)) 3, 4, "ref.go:173", #[⟨0, .data⟩], none⟩) rfl (by kernel_rfl) (by kernel_rfl) (by kernel_rfl) (by kernel_rfl) rfl (fun _ _ _ h => h) (Or.inl ⟨by rfl, ?_⟩) HT ?_
            rotate_left
            · intro W hSW
              go_simp
              try with_reducible rfl
            simp only [Act.put, List.setIfInBounds_toArray, List.set_cons_zero, List.set_cons_succ]
            refine wpAnyL_take' (i := 2) (v := ?_) (oi := ⟨some 103, .move (.tmp 102), 4, "ref.go:173", #[⟨1, .data⟩], none⟩) rfl (by kernel_rfl) (by kernel_rfl) (by kernel_rfl) (by kernel_rfl) rfl (fun _ _ _ h => h) (Or.inl ⟨by rfl, ?_⟩) HT ?_
            rotate_left
            · intro W hSW
              go_simp
              try with_reducible rfl
            simp only [Act.put, List.setIfInBounds_toArray, List.set_cons_zero, List.set_cons_succ]
            refine wpAnyL_take' (i := 3) (v := undef) (oi := ⟨some 104, .fieldAddr 37 (.tmp 12) 0, 0, "ref.go:173", #[⟨2, .guard⟩], some (2, true)⟩) rfl (by kernel_rfl) (by kernel_rfl) (by kernel_rfl) (by kernel_rfl) rfl (fun _ _ _ h => h) (Or.inr ⟨by rfl, rfl⟩) HT ?_
            simp only [Act.put, List.setIfInBounds_toArray, List.set_cons_zero, List.set_cons_succ]
            refine wpAnyL_take' (i := 4) (v := undef) (oi := ⟨some 105, .load 35 (.tmp 104), 35, "ref.go:173", #[⟨3, .data⟩, ⟨2, .guard⟩], some (2, true)⟩) rfl (by kernel_rfl) (by kernel_rfl) (by kernel_rfl) (by kernel_rfl) rfl (fun _ _ _ h => h) (Or.inr ⟨by rfl, rfl⟩) HT ?_
            simp only [Act.put, List.setIfInBounds_toArray, List.set_cons_zero, List.set_cons_succ]
            refine wpAnyL_take' (i := 5) (v := undef) (oi := ⟨some 106, .move (.tmp 15), 3, "ref.go:173", #[⟨2, .guard⟩], some (2, true)⟩) rfl (by kernel_rfl) (by kernel_rfl) (by kernel_rfl) (by kernel_rfl) rfl (fun _ _ _ h => h) (Or.inr ⟨by rfl, rfl⟩) HT ?_
            simp only [Act.put, List.setIfInBounds_toArray, List.set_cons_zero, List.set_cons_succ]
            refine wpAnyL_take' (i := 6) (v := undef) (oi := ⟨some 107, .indexAddr 35 (.tmp 105) (.tmp 106), 0, "ref.go:173", #[⟨4, .data⟩, ⟨5, .data⟩, ⟨2, .guard⟩], some (2, true)⟩) rfl (by kernel_rfl) (by kernel_rfl) (by kernel_rfl) (by kernel_rfl) rfl (fun _ _ _ h => h) (Or.inr ⟨by rfl, rfl⟩) HT ?_
            simp only [Act.put, List.setIfInBounds_toArray, List.set_cons_zero, List.set_cons_succ]
            refine wpAnyL_take' (i := 7) (v := undef) (oi := ⟨some 108, .fieldAddr 39 (.tmp 107) 1, 0, "ref.go:173", #[⟨6, .data⟩, ⟨2, .guard⟩], some (2, true)⟩) rfl (by kernel_rfl) (by kernel_rfl) (by kernel_rfl) (by kernel_rfl) rfl (fun _ _ _ h => h) (Or.inr ⟨by rfl, rfl⟩) HT ?_
            simp only [Act.put, List.setIfInBounds_toArray, List.set_cons_zero, List.set_cons_succ]
            refine wpAnyL_take' (i := 8) (v := undef) (oi := ⟨some 109, .load 3 (.tmp 108), 3, "ref.go:173", #[⟨7, .data⟩, ⟨2, .guard⟩], some (2, true)⟩) rfl (by kernel_rfl) (by kernel_rfl) (by kernel_rfl) (by kernel_rfl) rfl (fun _ _ _ h => h) (Or.inr ⟨by rfl, rfl⟩) HT ?_
            simp only [Act.put, List.setIfInBounds_toArray, List.set_cons_zero, List.set_cons_succ]
            refine wpAnyL_take' (i := 9) (v := undef) (oi := ⟨some 110, .move (.tmp 13), 3, "ref.go:173", #[⟨2, .guard⟩], some (2, true)⟩) rfl (by kernel_rfl) (by kernel_rfl) (by kernel_rfl) (by kernel_rfl) rfl (fun _ _ _ h => h) (Or.inr ⟨by rfl, rfl⟩) HT ?_
            simp only [Act.put, List.setIfInBounds_toArray, List.set_cons_zero, List.set_cons_succ]
            refine wpAnyL_take' (i := 10) (v := undef) (oi := ⟨some 111, .binOp .sub 3 (.tmp 110) (.const (.int .i64 1)) 3, 3, "ref.go:173", #[⟨9, .data⟩, ⟨2, .guard⟩], some (2, true)⟩) rfl (by kernel_rfl) (by kernel_rfl) (by kernel_rfl) (by kernel_rfl) rfl (fun _ _ _ h => h) (Or.inr ⟨by rfl, rfl⟩) HT ?_
            simp only [Act.put, List.setIfInBounds_toArray, List.set_cons_zero, List.set_cons_succ]
            refine wpAnyL_take' (i := 11) (v := undef) (oi := ⟨some 112, .binOp .eql 3 (.tmp 109) (.tmp 111) 3, 4, "ref.go:173", #[⟨8, .data⟩, ⟨10, .data⟩, ⟨2, .guard⟩], some (2, true)⟩) rfl (by kernel_rfl) (by kernel_rfl) (by kernel_rfl) (by kernel_rfl) rfl (fun _ _ _ h => h) (Or.inr ⟨by rfl, rfl⟩) HT ?_
            simp only [Act.put, List.setIfInBounds_toArray, List.set_cons_zero, List.set_cons_succ]
            refine wpAnyL_take' (i := 12) (v := ?_) (oi := ⟨some 113, .pick (.tmp 103) (.tmp 112) (.const (.bool false)), 4, "ref.go:173", #[⟨2, .data⟩, ⟨11, .data⟩], none⟩) rfl (by kernel_rfl) (by kernel_rfl) (by kernel_rfl) (by kernel_rfl) rfl (fun _ _ _ h => h) (Or.inl ⟨by rfl, ?_⟩) HT ?_
            rotate_left
            · intro W hSW
              go_simp
              try with_reducible rfl
            simp only [Act.put, List.setIfInBounds_toArray, List.set_cons_zero, List.set_cons_succ]
            refine wpAnyL_take' (i := 13) (v := ?_) (oi := ⟨some 114, .move (.tmp 113), 4, "ref.go:173", #[⟨12, .data⟩, ⟨2, .chain⟩], none⟩) rfl (by kernel_rfl) (by kernel_rfl) (by kernel_rfl) (by kernel_rfl) rfl (fun _ _ _ h => h) (Or.inl ⟨by rfl, ?_⟩) HT ?_
            rotate_left
            · intro W hSW
              go_simp
              try with_reducible rfl
            simp only [Act.put, List.setIfInBounds_toArray, List.set_cons_zero, List.set_cons_succ]
            refine wpAnyL_take' (i := 14) (v := undef) (oi := ⟨some 115, .fieldAddr 37 (.tmp 12) 0, 0, "ref.go:173", #[⟨13, .guard⟩], some (13, true)⟩) rfl (by kernel_rfl) (by kernel_rfl) (by kernel_rfl) (by kernel_rfl) rfl (fun _ _ _ h => h) (Or.inr ⟨by rfl, rfl⟩) HT ?_
            simp only [Act.put, List.setIfInBounds_toArray, List.set_cons_zero, List.set_cons_succ]
            refine wpAnyL_take' (i := 15) (v := undef) (oi := ⟨some 116, .load 35 (.tmp 115), 35, "ref.go:173", #[⟨14, .data⟩, ⟨13, .guard⟩], some (13, true)⟩) rfl (by kernel_rfl) (by kernel_rfl) (by kernel_rfl) (by kernel_rfl) rfl (fun _ _ _ h => h) (Or.inr ⟨by rfl, rfl⟩) HT ?_
            simp only [Act.put, List.setIfInBounds_toArray, List.set_cons_zero, List.set_cons_succ]
            refine wpAnyL_take' (i := 16) (v := undef) (oi := ⟨some 117, .move (.tmp 15), 3, "ref.go:173", #[⟨13, .guard⟩], some (13, true)⟩) rfl (by kernel_rfl) (by kernel_rfl) (by kernel_rfl) (by kernel_rfl) rfl (fun _ _ _ h => h) (Or.inr ⟨by rfl, rfl⟩) HT ?_
            simp only [Act.put, List.setIfInBounds_toArray, List.set_cons_zero, List.set_cons_succ]
            refine wpAnyL_take' (i := 17) (v := undef) (oi := ⟨some 118, .indexAddr 35 (.tmp 116) (.tmp 117), 0, "ref.go:173", #[⟨15, .data⟩, ⟨16, .data⟩, ⟨13, .guard⟩], some (13, true)⟩) rfl (by kernel_rfl) (by kernel_rfl) (by kernel_rfl) (by kernel_rfl) rfl (fun _ _ _ h => h) (Or.inr ⟨by rfl, rfl⟩) HT ?_
            simp only [Act.put, List.setIfInBounds_toArray, List.set_cons_zero, List.set_cons_succ]
            refine wpAnyL_take' (i := 18) (v := undef) (oi := ⟨some 119, .fieldAddr 39 (.tmp 118) 2, 0, "ref.go:173", #[⟨17, .data⟩, ⟨13, .guard⟩], some (13, true)⟩) rfl (by kernel_rfl) (by kernel_rfl) (by kernel_rfl) (by kernel_rfl) rfl (fun _ _ _ h => h) (Or.inr ⟨by rfl, rfl⟩) HT ?_
            simp only [Act.put, List.setIfInBounds_toArray, List.set_cons_zero, List.set_cons_succ]
            refine wpAnyL_take' (i := 19) (v := undef) (oi := ⟨some 120, .load 3 (.tmp 119), 3, "ref.go:173", #[⟨18, .data⟩, ⟨13, .guard⟩], some (13, true)⟩) rfl (by kernel_rfl) (by kernel_rfl) (by kernel_rfl) (by kernel_rfl) rfl (fun _ _ _ h => h) (Or.inr ⟨by rfl, rfl⟩) HT ?_
            simp only [Act.put, List.setIfInBounds_toArray, List.set_cons_zero, List.set_cons_succ]
            refine wpAnyL_take' (i := 20) (v := undef) (oi := ⟨some 121, .move (.tmp 5), 57, "ref.go:173", #[⟨13, .guard⟩], some (13, true)⟩) rfl (by kernel_rfl) (by kernel_rfl) (by kernel_rfl) (by kernel_rfl) rfl (fun _ _ _ h => h) (Or.inr ⟨by rfl, rfl⟩) HT ?_
            simp only [Act.put, List.setIfInBounds_toArray, List.set_cons_zero, List.set_cons_succ]
            refine wpAnyL_take' (i := 21) (v := undef) (oi := ⟨some 122, .move (.tmp 14), 3, "ref.go:173", #[⟨13, .guard⟩], some (13, true)⟩) rfl (by kernel_rfl) (by kernel_rfl) (by kernel_rfl) (by kernel_rfl) rfl (fun _ _ _ h => h) (Or.inr ⟨by rfl, rfl⟩) HT ?_
            simp only [Act.put, List.setIfInBounds_toArray, List.set_cons_zero, List.set_cons_succ]
            refine wpAnyL_take' (i := 22) (v := undef) (oi := ⟨some 123, .indexAddr 57 (.tmp 121) (.tmp 122), 0, "ref.go:173", #[⟨20, .data⟩, ⟨21, .data⟩, ⟨13, .guard⟩], some (13, true)⟩) rfl (by kernel_rfl) (by kernel_rfl) (by kernel_rfl) (by kernel_rfl) rfl (fun _ _ _ h => h) (Or.inr ⟨by rfl, rfl⟩) HT ?_
            simp only [Act.put, List.setIfInBounds_toArray, List.set_cons_zero, List.set_cons_succ]
            refine wpAnyL_take' (i := 23) (v := undef) (oi := ⟨some 124, .load 3 (.tmp 123), 3, "ref.go:173", #[⟨22, .data⟩, ⟨13, .guard⟩], some (13, true)⟩) rfl (by kernel_rfl) (by kernel_rfl) (by kernel_rfl) (by kernel_rfl) rfl (fun _ _ _ h => h) (Or.inr ⟨by rfl, rfl⟩) HT ?_
            simp only [Act.put, List.setIfInBounds_toArray, List.set_cons_zero, List.set_cons_succ]
            refine wpAnyL_take' (i := 24) (v := undef) (oi := ⟨some 125, .binOp .eql 3 (.tmp 120) (.tmp 124) 3, 4, "ref.go:173", #[⟨19, .data⟩, ⟨23, .data⟩, ⟨13, .guard⟩], some (13, true)⟩) rfl (by kernel_rfl) (by kernel_rfl) (by kernel_rfl) (by kernel_rfl) rfl (fun _ _ _ h => h) (Or.inr ⟨by rfl, rfl⟩) HT ?_
            simp only [Act.put, List.setIfInBounds_toArray, List.set_cons_zero, List.set_cons_succ]
            refine wpAnyL_take' (i := 25) (v := ?_) (oi := ⟨some 126, .pick (.tmp 114) (.tmp 125) (.const (.bool false)), 4, "ref.go:173", #[⟨13, .data⟩, ⟨24, .data⟩], none⟩) rfl (by kernel_rfl) (by kernel_rfl) (by kernel_rfl) (by kernel_rfl) rfl (fun _ _ _ h => h) (Or.inl ⟨by rfl, ?_⟩) HT ?_
            rotate_left
            · intro W hSW
              go_simp
              try with_reducible rfl
            simp only [Act.put, List.setIfInBounds_toArray, List.set_cons_zero, List.set_cons_succ]
            refine wpAnyL_done (by kernel_rfl) ?_ _
            clear HT s0 hw hw'
            go_upto_region 30 with fail
            generalize W2.drew = W3 at *
            have HS3 : ∀ V : World, Below W3.drew.heap.size W3.drew V → V.cell? ⟨sb, 0, none⟩ = some (.slice ra 0 rc2) ∧ V.cell? ⟨w2.heap.size, kk, none⟩ = some (.int .i64 (j : Int)) := fun V h2 => ⟨(h2.cell (p := ⟨sb, 0, none⟩) (World.block_lt_of_cell? _ _ t0)).trans t0, (h2.cell (p := ⟨w2.heap.size, kk, none⟩) (World.block_lt_of_cell? _ _ tj)).trans tj⟩
            obtain ⟨ia, hia, hza0, hza1, hza2⟩ := info_parts infoAr
            have BK : Below W3.drew.heap.size W3.drew (W3.drew.alloc (Obj.cells #[.int .i64 (m : Int), .int .i64 (m : Int), .int .i64 (j : Int)] 39)) := (Below.refl _ _).alloc (Nat.le_refl _) _
            have hAR := HSB3.out.1.ar
            unfold OwnA at hAR
            rw [hrl] at hAR
            have hw3 : w2.heap.size + 1 ≤ W3.drew.heap.size := Nat.le_trans HSB3.out.1.lo (Nat.le_of_lt (blk_lt HSB3.out.1.bx))
            obtain ⟨rv', wn, hap, ho4, hg4, _, hat4⟩ := run_append_own_at (P := Try.prog) (W3.drew.alloc (Obj.cells #[.int .i64 (m : Int), .int .i64 (m : Int), .int .i64 (j : Int)] 39)) (w2.heap.size + 1) 35 35 39 ia _ 3 24 Try.underlying35 hia hza0 hza1 hza2 rfl (by omega) (.slice ra 0 rc2) (0) _ (own_below hAR (below_then (below_drewN (Below.refl _ _) 1) BK (Nat.le_refl _))) ⟨W3.drew.heap.size, 0, none⟩ 1 1 [.int .i64 (m : Int), .int .i64 (m : Int), .int .i64 (j : Int)] rfl (new_cell3 W3.drew _ _ _ _) (by simp [Value.oneCell']) (by unfold maxLen; omega) (by omega) (Nat.le_trans hw3 BK.size)
            have B4 : But (fun k => (Value.slice ra 0 rc2).ownBlock = some k) W3 wn := ((But.of_next (below_drewN (Below.refl _ _) 1)).trans (But.of_next BK)).trans (but_grown hg4 (fun r h => h))
            have HF : Hid (LM l.length (clv c) w2 ob O2 nb2 (.slice oa2 O2.length oc2) Z dv (wn.setCell ⟨sb, 0, none⟩ rv') ∧ SB w2 sb (R ++ [⟨m, m, j⟩]) rv' acc (wn.setCell ⟨sb, 0, none⟩ rv') ∧ RI l (clv c) O.length a ((m + 1 : Nat) : Int) O2 (R ++ [⟨m, m, j⟩]) ∧ O <+: O2 ∧ ∀ k, rv'.ownBlock = some k → sb < k) := by
              have hbx := HSB3.out.1.bx
              have hsz := blk_lt hbx
              have hD1 : But (fun k => k = sb ∨ (Value.slice ra 0 rc2).ownBlock = some k) W3 (wn.setCell ⟨sb, 0, none⟩ rv') := (B4.mono (fun k _ hk => .inr hk)).setCell _ _ (.inr (.inl rfl))
              refine ⟨HM3.out.but2 HSB3.out.1.lo HLX.out.1 HLX.out.2 hD1 (fun k hk => ?_), HSB3.out.1.add ⟨m, m, j⟩ B4 (by rw [hrl]; exact ho4), HNW.out, HPF.out.1, fun k hk => ?_⟩
              · rcases hk with rfl | hk
                · exact ⟨Nat.le_refl _, _, .inl hbx⟩
                · obtain ⟨cs, hc⟩ := own_is_cells hAR hk
                  exact ⟨Nat.le_of_lt (HSB3.out.2 k hk), cs, .inr hc⟩
              · rcases hat4 with h9 | h9
                · exact HSB3.out.2 k (by rw [← h9]; exact hk)
                · rw [h9] at hk
                  cases hk
                  have h8 : W3.drew.heap.size ≤ (W3.drew.alloc (Obj.cells #[.int .i64 (m : Int), .int .i64 (m : Int), .int .i64 (j : Int)] 39)).heap.size := BK.size
                  have h7 : W3.drew.heap.size = W3.heap.size := rfl
                  omega
            have hb4 := but_blk B4 HSB3.out.1.bx (fun e => own_nb hAR HSB3.out.1.bx (by decide) e)
            have fz4 : wn.frozen? ⟨sb, 0, none⟩ = false := Lib.frozen_of_heap hb4 _
            have HS4 : wn.cell? ⟨sb, 0, none⟩ = some (.slice ra 0 rc2) ∧ wn.cell? ⟨w2.heap.size, kk, none⟩ = some (.int .i64 (j : Int)) := ⟨by rw [Lib.cell_of_heap hb4]; rfl, (B4.cell (p := ⟨w2.heap.size, kk, none⟩) (World.block_lt_of_cell? _ _ tj) (fun e => by have h9 : w2.heap.size + 1 ≤ w2.heap.size := (World.ownsRow.lt hAR _ e).1; omega)).trans tj⟩
            obtain ⟨ra', rc', rfl⟩ := slice_of_ownK ho4
            clear ho4 hg4 hat4 B4 hb4 hAR hw3 HM3 HSB3 HNW hia hza0 hza1 hza2 HLX HL HB1 HGR HB2 HCL HLO HCI HC0 HDB HAX HD HGC HCN HNJ t0 tj
            refine wp_region_L (fun W => W.cell? ⟨sb, 0, none⟩ = some (.slice ra 0 rc2) ∧ W.cell? ⟨w2.heap.size, kk, none⟩ = some (.int .i64 (j : Int))) 12 (by kernel_rfl) 13 rfl ?_
            refine wpAnyL_take' (i := 0) (v := ?_) (oi := ⟨some 133, .fieldAddr 37 (.tmp 12) 0, 0, "ref.go:176", #[], none⟩) rfl (by kernel_rfl) (by kernel_rfl) (by kernel_rfl) (by kernel_rfl) rfl (fun _ _ _ h => h) (Or.inl ⟨by rfl, ?_⟩) (HS3 _ (Below.refl _ _)) ?_
            rotate_left
            · intro W hSW
              go_simp
              try with_reducible rfl
            simp only [Act.put, List.setIfInBounds_toArray, List.set_cons_zero, List.set_cons_succ]
            refine wpAnyL_take' (i := 1) (v := ?_) (oi := ⟨some 134, .load 35 (.tmp 133), 35, "ref.go:176", #[⟨0, .data⟩], none⟩) rfl (by kernel_rfl) (by kernel_rfl) (by kernel_rfl) (by kernel_rfl) rfl (fun _ _ _ h => h) (Or.inl ⟨by rfl, ?_⟩) (HS3 _ (Below.refl _ _)) ?_
            rotate_left
            · intro W hSW
              go_simp
              try with_reducible rfl
            simp only [Act.put, List.setIfInBounds_toArray, List.set_cons_zero, List.set_cons_succ]
            refine wpAnyL_take' (i := 2) (v := ?_) (oi := ⟨some 135, .move (.tmp 13), 3, "ref.go:176", #[], none⟩) rfl (by kernel_rfl) (by kernel_rfl) (by kernel_rfl) (by kernel_rfl) rfl (fun _ _ _ h => h) (Or.inl ⟨by rfl, ?_⟩) (HS3 _ (Below.refl _ _)) ?_
            rotate_left
            · intro W hSW
              go_simp
              try with_reducible rfl
            simp only [Act.put, List.setIfInBounds_toArray, List.set_cons_zero, List.set_cons_succ]
            refine wpAnyL_take' (i := 3) (v := ?_) (oi := ⟨some 136, .move (.tmp 13), 3, "ref.go:176", #[], none⟩) rfl (by kernel_rfl) (by kernel_rfl) (by kernel_rfl) (by kernel_rfl) rfl (fun _ _ _ h => h) (Or.inl ⟨by rfl, ?_⟩) (HS3 _ (Below.refl _ _)) ?_
            rotate_left
            · intro W hSW
              go_simp
              try with_reducible rfl
            simp only [Act.put, List.setIfInBounds_toArray, List.set_cons_zero, List.set_cons_succ]
            refine wpAnyL_take' (i := 4) (v := ?_) (oi := ⟨some 137, .move (.tmp 5), 57, "ref.go:176", #[], none⟩) rfl (by kernel_rfl) (by kernel_rfl) (by kernel_rfl) (by kernel_rfl) rfl (fun _ _ _ h => h) (Or.inl ⟨by rfl, ?_⟩) (HS3 _ (Below.refl _ _)) ?_
            rotate_left
            · intro W hSW
              go_simp
              try with_reducible rfl
            simp only [Act.put, List.setIfInBounds_toArray, List.set_cons_zero, List.set_cons_succ]
            refine wpAnyL_take' (i := 5) (v := ?_) (oi := ⟨some 138, .move (.tmp 14), 3, "ref.go:176", #[], none⟩) rfl (by kernel_rfl) (by kernel_rfl) (by kernel_rfl) (by kernel_rfl) rfl (fun _ _ _ h => h) (Or.inl ⟨by rfl, ?_⟩) (HS3 _ (Below.refl _ _)) ?_
            rotate_left
            · intro W hSW
              go_simp
              try with_reducible rfl
            simp only [Act.put, List.setIfInBounds_toArray, List.set_cons_zero, List.set_cons_succ]
            refine wpAnyL_take' (i := 6) (v := ?_) (oi := ⟨some 139, .indexAddr 57 (.tmp 137) (.tmp 138), 0, "ref.go:176", #[⟨4, .data⟩, ⟨5, .data⟩], none⟩) rfl (by kernel_rfl) (by kernel_rfl) (by kernel_rfl) (by kernel_rfl) rfl (fun _ _ _ h => h) (Or.inl ⟨by rfl, ?_⟩) (HS3 _ (Below.refl _ _)) ?_
            rotate_left
            · intro W hSW
              go_simp
              try with_reducible rfl
            simp only [Act.put, List.setIfInBounds_toArray, List.set_cons_zero, List.set_cons_succ]
            refine wpAnyL_take' (i := 7) (v := ?_) (oi := ⟨some 140, .load 3 (.tmp 139), 3, "ref.go:176", #[⟨6, .data⟩], none⟩) rfl (by kernel_rfl) (by kernel_rfl) (by kernel_rfl) (by kernel_rfl) rfl (fun _ _ _ h => h) (Or.inl ⟨by rfl, ?_⟩) (HS3 _ (Below.refl _ _)) ?_
            rotate_left
            · intro W hSW
              go_simp
              try with_reducible rfl
            simp only [Act.put, List.setIfInBounds_toArray, List.set_cons_zero, List.set_cons_succ]
            refine wpAnyL_take' (i := 8) (v := ?_) (oi := ⟨some 141, .build 39 #[(0, .tmp 135), (1, .tmp 136), (2, .tmp 140)], 39, "ref.go:176", #[⟨2, .data⟩, ⟨3, .data⟩, ⟨7, .data⟩], none⟩) rfl (by kernel_rfl) (by kernel_rfl) (by kernel_rfl) (by kernel_rfl) rfl (fun _ _ _ h => h) (Or.inl ⟨by rfl, ?_⟩) (HS3 _ (Below.refl _ _)) ?_
            rotate_left
            · intro W hSW
              go_simp
              try with_reducible rfl
            simp only [Act.put, List.setIfInBounds_toArray, List.set_cons_zero, List.set_cons_succ]
            refine wpAnyL_one' (i := 9) (o := ⟨some 142, .buildSlice 35 1 #[(0, .tmp 141)], 35, "ref.go:176", #[⟨8, .data⟩], none⟩) (by kernel_rfl) rfl rfl (fun K hK => ?_)
            go_simp
            refine hK.out _ _ (fun _ => HS3 _ BK) ?_
            clear hK
            try simp only [Act.put, List.setIfInBounds_toArray, List.set_cons_zero, List.set_cons_succ]
            refine wpAnyL_one' (i := 10) (o := ⟨some 143, .call ⟨.builtin .append, #[.tmp 134, .tmp 142], #[35, 35]⟩, 35, "ref.go:176", #[⟨1, .data⟩, ⟨9, .data⟩], none⟩) (by kernel_rfl) rfl rfl (fun K hK => ?_)
            refine step_append_runI rfl _ _ 35 35 rfl _ _ rfl rfl hap ?_
            refine hK.out _ _ (fun _ => HS4) ?_
            clear hK
            simp only [Act.put, List.setIfInBounds_toArray, List.set_cons_zero, List.set_cons_succ]
            refine wpAnyL_take' (i := 11) (v := ?_) (oi := ⟨some 144, .fieldAddr 37 (.tmp 12) 0, 0, "ref.go:176", #[⟨0, .phase⟩, ⟨1, .phase⟩, ⟨2, .phase⟩, ⟨3, .phase⟩, ⟨4, .phase⟩, ⟨5, .phase⟩, ⟨6, .phase⟩, ⟨7, .phase⟩, ⟨8, .phase⟩, ⟨9, .phase⟩, ⟨10, .phase⟩], none⟩) rfl (by kernel_rfl) (by kernel_rfl) (by kernel_rfl) (by kernel_rfl) rfl (fun _ _ _ h => h) (Or.inl ⟨by rfl, ?_⟩) HS4 ?_
            rotate_left
            · intro W hSW
              go_simp
              try with_reducible rfl
            simp only [Act.put, List.setIfInBounds_toArray, List.set_cons_zero, List.set_cons_succ]
            refine wpAnyL_one' (i := 12) (o := ⟨none, .store 35 (.tmp 144) (.tmp 143), 0, "ref.go:176", #[⟨11, .data⟩, ⟨10, .data⟩, ⟨10, .chain⟩, ⟨0, .phase⟩, ⟨1, .phase⟩, ⟨2, .phase⟩, ⟨3, .phase⟩, ⟨4, .phase⟩, ⟨5, .phase⟩, ⟨6, .phase⟩, ⟨7, .phase⟩, ⟨8, .phase⟩, ⟨9, .phase⟩, ⟨10, .phase⟩], none⟩) (by kernel_rfl) rfl rfl (fun K hK => ?_)
            go_simp
            refine hK.out _ _ (fun h => absurd h (by decide)) ?_
            clear hK
            refine wpAnyL_done (by kernel_rfl) ?_ _
            clear HS3 HS4 fz4 hap BK
            go_wp2_with fail
            have HFE := HF.out
            clear HF
            generalize (R ++ [(⟨(m : Int), (m : Int), (j : Int)⟩ : Ar)]) = R9 at *
            refine ⟨⟨m + 1, O2, nb2, oa2, oc2, R9, .slice ra' (0 + 1) rc', rfl, ?_, ?_, HPF.out.2, ?_⟩, ?_⟩
            · go_num
            · clear HFE; omega
            · exact HFE
            · clear HFE HPF; simp [intOf]; omega
          · have hrl : R.length = R'.length + 1 := by rw [hR]; simp
            obtain ⟨n, hn9⟩ : ∃ n, R'.length = n := ⟨_, rfl⟩
            rw [hrl, hn9] at s0 HSB
            have HRN : Hid (R = R' ++ [x] ∧ R'.length = n) := ⟨hR.trans (by simp), hn9⟩
            have hrl : R.length = n + 1 := by rw [hrl, hn9]
            have har := HSB.out.1.ar
            unfold OwnA at har
            obtain ⟨rg, cap, e9, hgl, _, hcx⟩ := own_cells (enc := encA3) (c := 3) (fun x => rfl) (l := R) (by rw [hrl]; rw [hrl] at har; exact har) (by omega)
            rw [hrl] at e9
            cases e9
            have hxR : R[n]? = some x := by rw [HRN.out.1, List.getElem?_append_right (by rw [HRN.out.2]; exact Nat.le_refl _), HRN.out.2]; simp
            have c1 := hcx n 1 x _ hxR (by omega) rfl
            have c2 := hcx n 2 x _ hxR (by omega) rfl
            have hw : wrap64 (((n + 1 : Nat) : Int) - 1) = n := by rw [IntWalk.wrap64_in _ (by omega)]; omega
            have hw' : wrap64 ((n : Int) + 1 - 1) = n := by rw [IntWalk.wrap64_in _ (by omega)]; omega
            have hwm : IntKind.i64.wrap ((m : Int) - 1) = (m : Int) - 1 := IntWalk.i64_in _ (by omega)
            have hwm' : wrap64 ((m : Int) - 1) = (m : Int) - 1 := IntWalk.wrap64_in _ (by omega)
            obtain ⟨xhi, hxh⟩ : ∃ y, x.hi = y := ⟨_, rfl⟩
            obtain ⟨xtg, hxt⟩ : ∃ y, x.tg = y := ⟨_, rfl⟩
            rw [hxh] at c1
            rw [hxt] at c2
            have bd : Below W2.heap.size W2 W2.drew := below_drewN (Below.refl _ _) 1
            have HXE : Hid (x.hi = xhi ∧ x.tg = xtg) := ⟨hxh, hxt⟩
            have HT : W2.drew.cell? ⟨sb, 0, none⟩ = some (.slice (some ⟨rg, 0, none⟩) (n + 1) rc2) ∧ W2.drew.cell? ⟨rg, n * 3 + 1, none⟩ = some (.int .i64 xhi) ∧ W2.drew.cell? ⟨rg, n * 3 + 2, none⟩ = some (.int .i64 xtg) ∧ W2.drew.cell? ⟨w2.heap.size, kk, none⟩ = some (.int .i64 (j : Int)) := ⟨s0, c1, c2, HNJ.out _ bd⟩
            clear hR hn9 har hgl hcx hxR hxh hxt c1 c2
            go_upto_region 28 with fail
            try rw [hw']
            clear s0 hw hw'
            go_cut [126] from 152 (fun t126 wx => ∃ T, t126 = .bool T ∧ wx = W2.drew ∧ Hid (T = true ↔ xhi = (m : Int) - 1 ∧ xtg = (j : Int)))
            case first =>
              clear HEXT HNEW HM HSB bd HXE HRN HLX HL HB1 HGR HB2 HCL HLO HCI HC0 HDB HAX HD HGC HCN HNJ HPF
              have hn0 : decide ((n : Int) ≥ 0) = true := decide_eq_true (by omega)
              have hn1 : ((n : Int) ≥ 0) := by omega
              have hnn : n < n + 1 := by omega
              have hn2 : (n : Int) < (n : Int) + 1 := by omega
              by_cases h1 : xhi = (m : Int) - 1
              · have e1 : (xhi == (m : Int) - 1) = true := by simp [h1]
                have H1 : Hid (xhi = (m : Int) - 1) := h1
                clear h1
                by_cases h2 : xtg = (j : Int)
                · have e2 : (xtg == (j : Int)) = true := by simp [h2]
                  have H2 : Hid (xtg = (j : Int)) := h2
                  clear h2
                  refine wp_region_L (fun W => W.cell? ⟨sb, 0, none⟩ = some (.slice (some ⟨rg, 0, none⟩) (n + 1) rc2) ∧ W.cell? ⟨rg, n * 3 + 1, none⟩ = some (.int .i64 xhi) ∧ W.cell? ⟨rg, n * 3 + 2, none⟩ = some (.int .i64 xtg) ∧ W.cell? ⟨w2.heap.size, kk, none⟩ = some (.int .i64 (j : Int))) 26 (by kernel_rfl) 26 rfl ?_
                  refine wpAnyL_take' (i := 0) (v := ?_) (oi := ⟨some 101, .move (.tmp 15), 3, "ref.go:173", #[], none⟩) rfl (by kernel_rfl) (by kernel_rfl) (by kernel_rfl) (by kernel_rfl) rfl (fun _ _ _ h => h) (Or.inl ⟨by rfl, ?_⟩) HT ?_
                  rotate_left
                  · intro W hSW
                    go_simp
                    try with_reducible rfl
                  simp only [Act.put, List.setIfInBounds_toArray, List.set_cons_zero, List.set_cons_succ]
                  refine wpAnyL_take' (i := 1) (v := ?_) (oi := ⟨some 102, .binOp .geq 3 (.tmp 101) (.const (.int .i64 0)) 3, 4, "ref.go:173", #[⟨0, .data⟩], none⟩) rfl (by kernel_rfl) (by kernel_rfl) (by kernel_rfl) (by kernel_rfl) rfl (fun _ _ _ h => h) (Or.inl ⟨by rfl, ?_⟩) HT ?_
                  rotate_left
                  · intro W hSW
                    go_simp
                    try with_reducible rfl
                  simp only [Act.put, List.setIfInBounds_toArray, List.set_cons_zero, List.set_cons_succ]
                  refine wpAnyL_take' (i := 2) (v := ?_) (oi := ⟨some 103, .move (.tmp 102), 4, "ref.go:173", #[⟨1, .data⟩], none⟩) rfl (by kernel_rfl) (by kernel_rfl) (by kernel_rfl) (by kernel_rfl) rfl (fun _ _ _ h => h) (Or.inl ⟨by rfl, ?_⟩) HT ?_
                  rotate_left
                  · intro W hSW
                    go_simp
                    try with_reducible rfl
                  simp only [Act.put, List.setIfInBounds_toArray, List.set_cons_zero, List.set_cons_succ]
                  refine wpAnyL_take' (i := 3) (v := ?_) (oi := ⟨some 104, .fieldAddr 37 (.tmp 12) 0, 0, "ref.go:173", #[⟨2, .guard⟩], some (2, true)⟩) rfl (by kernel_rfl) (by kernel_rfl) (by kernel_rfl) (by kernel_rfl) rfl (fun _ _ _ h => h) (Or.inl ⟨by rfl, ?_⟩) HT ?_
                  rotate_left
                  · intro W hSW
                    go_simp
                    try with_reducible rfl
                  simp only [Act.put, List.setIfInBounds_toArray, List.set_cons_zero, List.set_cons_succ]
                  refine wpAnyL_take' (i := 4) (v := ?_) (oi := ⟨some 105, .load 35 (.tmp 104), 35, "ref.go:173", #[⟨3, .data⟩, ⟨2, .guard⟩], some (2, true)⟩) rfl (by kernel_rfl) (by kernel_rfl) (by kernel_rfl) (by kernel_rfl) rfl (fun _ _ _ h => h) (Or.inl ⟨by rfl, ?_⟩) HT ?_
                  rotate_left
                  · intro W hSW
                    go_simp
                    try with_reducible rfl
                  simp only [Act.put, List.setIfInBounds_toArray, List.set_cons_zero, List.set_cons_succ]
                  refine wpAnyL_take' (i := 5) (v := ?_) (oi := ⟨some 106, .move (.tmp 15), 3, "ref.go:173", #[⟨2, .guard⟩], some (2, true)⟩) rfl (by kernel_rfl) (by kernel_rfl) (by kernel_rfl) (by kernel_rfl) rfl (fun _ _ _ h => h) (Or.inl ⟨by rfl, ?_⟩) HT ?_
                  rotate_left
                  · intro W hSW
                    go_simp
                    try with_reducible rfl
                  simp only [Act.put, List.setIfInBounds_toArray, List.set_cons_zero, List.set_cons_succ]
                  refine wpAnyL_take' (i := 6) (v := ?_) (oi := ⟨some 107, .indexAddr 35 (.tmp 105) (.tmp 106), 0, "ref.go:173", #[⟨4, .data⟩, ⟨5, .data⟩, ⟨2, .guard⟩], some (2, true)⟩) rfl (by kernel_rfl) (by kernel_rfl) (by kernel_rfl) (by kernel_rfl) rfl (fun _ _ _ h => h) (Or.inl ⟨by rfl, ?_⟩) HT ?_
                  rotate_left
                  · intro W hSW
                    go_simp
                    try with_reducible rfl
                  simp only [Act.put, List.setIfInBounds_toArray, List.set_cons_zero, List.set_cons_succ]
                  refine wpAnyL_take' (i := 7) (v := ?_) (oi := ⟨some 108, .fieldAddr 39 (.tmp 107) 1, 0, "ref.go:173", #[⟨6, .data⟩, ⟨2, .guard⟩], some (2, true)⟩) rfl (by kernel_rfl) (by kernel_rfl) (by kernel_rfl) (by kernel_rfl) rfl (fun _ _ _ h => h) (Or.inl ⟨by rfl, ?_⟩) HT ?_
                  rotate_left
                  · intro W hSW
                    go_simp
                    try with_reducible rfl
                  simp only [Act.put, List.setIfInBounds_toArray, List.set_cons_zero, List.set_cons_succ]
                  refine wpAnyL_take' (i := 8) (v := ?_) (oi := ⟨some 109, .load 3 (.tmp 108), 3, "ref.go:173", #[⟨7, .data⟩, ⟨2, .guard⟩], some (2, true)⟩) rfl (by kernel_rfl) (by kernel_rfl) (by kernel_rfl) (by kernel_rfl) rfl (fun _ _ _ h => h) (Or.inl ⟨by rfl, ?_⟩) HT ?_
                  rotate_left
                  · intro W hSW
                    go_simp
                    try with_reducible rfl
                  simp only [Act.put, List.setIfInBounds_toArray, List.set_cons_zero, List.set_cons_succ]
                  refine wpAnyL_take' (i := 9) (v := ?_) (oi := ⟨some 110, .move (.tmp 13), 3, "ref.go:173", #[⟨2, .guard⟩], some (2, true)⟩) rfl (by kernel_rfl) (by kernel_rfl) (by kernel_rfl) (by kernel_rfl) rfl (fun _ _ _ h => h) (Or.inl ⟨by rfl, ?_⟩) HT ?_
                  rotate_left
                  · intro W hSW
                    go_simp
                    try with_reducible rfl
                  simp only [Act.put, List.setIfInBounds_toArray, List.set_cons_zero, List.set_cons_succ]
                  refine wpAnyL_take' (i := 10) (v := ?_) (oi := ⟨some 111, .binOp .sub 3 (.tmp 110) (.const (.int .i64 1)) 3, 3, "ref.go:173", #[⟨9, .data⟩, ⟨2, .guard⟩], some (2, true)⟩) rfl (by kernel_rfl) (by kernel_rfl) (by kernel_rfl) (by kernel_rfl) rfl (fun _ _ _ h => h) (Or.inl ⟨by rfl, ?_⟩) HT ?_
                  rotate_left
                  · intro W hSW
                    go_simp
                    try with_reducible rfl
                  simp only [Act.put, List.setIfInBounds_toArray, List.set_cons_zero, List.set_cons_succ]
                  refine wpAnyL_take' (i := 11) (v := ?_) (oi := ⟨some 112, .binOp .eql 3 (.tmp 109) (.tmp 111) 3, 4, "ref.go:173", #[⟨8, .data⟩, ⟨10, .data⟩, ⟨2, .guard⟩], some (2, true)⟩) rfl (by kernel_rfl) (by kernel_rfl) (by kernel_rfl) (by kernel_rfl) rfl (fun _ _ _ h => h) (Or.inl ⟨by rfl, ?_⟩) HT ?_
                  rotate_left
                  · intro W hSW
                    go_simp
                    try with_reducible rfl
                  simp only [Act.put, List.setIfInBounds_toArray, List.set_cons_zero, List.set_cons_succ]
                  refine wpAnyL_take' (i := 12) (v := ?_) (oi := ⟨some 113, .pick (.tmp 103) (.tmp 112) (.const (.bool false)), 4, "ref.go:173", #[⟨2, .data⟩, ⟨11, .data⟩], none⟩) rfl (by kernel_rfl) (by kernel_rfl) (by kernel_rfl) (by kernel_rfl) rfl (fun _ _ _ h => h) (Or.inl ⟨by rfl, ?_⟩) HT ?_
                  rotate_left
                  · intro W hSW
                    go_simp
                    try with_reducible rfl
                  simp only [Act.put, List.setIfInBounds_toArray, List.set_cons_zero, List.set_cons_succ]
                  refine wpAnyL_take' (i := 13) (v := ?_) (oi := ⟨some 114, .move (.tmp 113), 4, "ref.go:173", #[⟨12, .data⟩, ⟨2, .chain⟩], none⟩) rfl (by kernel_rfl) (by kernel_rfl) (by kernel_rfl) (by kernel_rfl) rfl (fun _ _ _ h => h) (Or.inl ⟨by rfl, ?_⟩) HT ?_
                  rotate_left
                  · intro W hSW
                    go_simp
                    try with_reducible rfl
                  simp only [Act.put, List.setIfInBounds_toArray, List.set_cons_zero, List.set_cons_succ]
                  refine wpAnyL_take' (i := 14) (v := ?_) (oi := ⟨some 115, .fieldAddr 37 (.tmp 12) 0, 0, "ref.go:173", #[⟨13, .guard⟩], some (13, true)⟩) rfl (by kernel_rfl) (by kernel_rfl) (by kernel_rfl) (by kernel_rfl) rfl (fun _ _ _ h => h) (Or.inl ⟨by rfl, ?_⟩) HT ?_
                  rotate_left
                  · intro W hSW
                    go_simp
                    try with_reducible rfl
                  simp only [Act.put, List.setIfInBounds_toArray, List.set_cons_zero, List.set_cons_succ]
                  refine wpAnyL_take' (i := 15) (v := ?_) (oi := ⟨some 116, .load 35 (.tmp 115), 35, "ref.go:173", #[⟨14, .data⟩, ⟨13, .guard⟩], some (13, true)⟩) rfl (by kernel_rfl) (by kernel_rfl) (by kernel_rfl) (by kernel_rfl) rfl (fun _ _ _ h => h) (Or.inl ⟨by rfl, ?_⟩) HT ?_
                  rotate_left
                  · intro W hSW
                    go_simp
                    try with_reducible rfl
                  simp only [Act.put, List.setIfInBounds_toArray, List.set_cons_zero, List.set_cons_succ]
                  refine wpAnyL_take' (i := 16) (v := ?_) (oi := ⟨some 117, .move (.tmp 15), 3, "ref.go:173", #[⟨13, .guard⟩], some (13, true)⟩) rfl (by kernel_rfl) (by kernel_rfl) (by kernel_rfl) (by kernel_rfl) rfl (fun _ _ _ h => h) (Or.inl ⟨by rfl, ?_⟩) HT ?_
                  rotate_left
                  · intro W hSW
                    go_simp
                    try with_reducible rfl
                  simp only [Act.put, List.setIfInBounds_toArray, List.set_cons_zero, List.set_cons_succ]
                  refine wpAnyL_take' (i := 17) (v := ?_) (oi := ⟨some 118, .indexAddr 35 (.tmp 116) (.tmp 117), 0, "ref.go:173", #[⟨15, .data⟩, ⟨16, .data⟩, ⟨13, .guard⟩], some (13, true)⟩) rfl (by kernel_rfl) (by kernel_rfl) (by kernel_rfl) (by kernel_rfl) rfl (fun _ _ _ h => h) (Or.inl ⟨by rfl, ?_⟩) HT ?_
                  rotate_left
                  · intro W hSW
                    go_simp
                    try with_reducible rfl
                  simp only [Act.put, List.setIfInBounds_toArray, List.set_cons_zero, List.set_cons_succ]
                  refine wpAnyL_take' (i := 18) (v := ?_) (oi := ⟨some 119, .fieldAddr 39 (.tmp 118) 2, 0, "ref.go:173", #[⟨17, .data⟩, ⟨13, .guard⟩], some (13, true)⟩) rfl (by kernel_rfl) (by kernel_rfl) (by kernel_rfl) (by kernel_rfl) rfl (fun _ _ _ h => h) (Or.inl ⟨by rfl, ?_⟩) HT ?_
                  rotate_left
                  · intro W hSW
                    go_simp
                    try with_reducible rfl
                  simp only [Act.put, List.setIfInBounds_toArray, List.set_cons_zero, List.set_cons_succ]
                  refine wpAnyL_take' (i := 19) (v := ?_) (oi := ⟨some 120, .load 3 (.tmp 119), 3, "ref.go:173", #[⟨18, .data⟩, ⟨13, .guard⟩], some (13, true)⟩) rfl (by kernel_rfl) (by kernel_rfl) (by kernel_rfl) (by kernel_rfl) rfl (fun _ _ _ h => h) (Or.inl ⟨by rfl, ?_⟩) HT ?_
                  rotate_left
                  · intro W hSW
                    go_simp
                    try with_reducible rfl
                  simp only [Act.put, List.setIfInBounds_toArray, List.set_cons_zero, List.set_cons_succ]
                  refine wpAnyL_take' (i := 20) (v := ?_) (oi := ⟨some 121, .move (.tmp 5), 57, "ref.go:173", #[⟨13, .guard⟩], some (13, true)⟩) rfl (by kernel_rfl) (by kernel_rfl) (by kernel_rfl) (by kernel_rfl) rfl (fun _ _ _ h => h) (Or.inl ⟨by rfl, ?_⟩) HT ?_
                  rotate_left
                  · intro W hSW
                    go_simp
                    try with_reducible rfl
                  simp only [Act.put, List.setIfInBounds_toArray, List.set_cons_zero, List.set_cons_succ]
                  refine wpAnyL_take' (i := 21) (v := ?_) (oi := ⟨some 122, .move (.tmp 14), 3, "ref.go:173", #[⟨13, .guard⟩], some (13, true)⟩) rfl (by kernel_rfl) (by kernel_rfl) (by kernel_rfl) (by kernel_rfl) rfl (fun _ _ _ h => h) (Or.inl ⟨by rfl, ?_⟩) HT ?_
                  rotate_left
                  · intro W hSW
                    go_simp
                    try with_reducible rfl
                  simp only [Act.put, List.setIfInBounds_toArray, List.set_cons_zero, List.set_cons_succ]
                  refine wpAnyL_take' (i := 22) (v := ?_) (oi := ⟨some 123, .indexAddr 57 (.tmp 121) (.tmp 122), 0, "ref.go:173", #[⟨20, .data⟩, ⟨21, .data⟩, ⟨13, .guard⟩], some (13, true)⟩) rfl (by kernel_rfl) (by kernel_rfl) (by kernel_rfl) (by kernel_rfl) rfl (fun _ _ _ h => h) (Or.inl ⟨by rfl, ?_⟩) HT ?_
                  rotate_left
                  · intro W hSW
                    go_simp
                    try with_reducible rfl
                  simp only [Act.put, List.setIfInBounds_toArray, List.set_cons_zero, List.set_cons_succ]
                  refine wpAnyL_take' (i := 23) (v := ?_) (oi := ⟨some 124, .load 3 (.tmp 123), 3, "ref.go:173", #[⟨22, .data⟩, ⟨13, .guard⟩], some (13, true)⟩) rfl (by kernel_rfl) (by kernel_rfl) (by kernel_rfl) (by kernel_rfl) rfl (fun _ _ _ h => h) (Or.inl ⟨by rfl, ?_⟩) HT ?_
                  rotate_left
                  · intro W hSW
                    go_simp
                    try with_reducible rfl
                  simp only [Act.put, List.setIfInBounds_toArray, List.set_cons_zero, List.set_cons_succ]
                  refine wpAnyL_take' (i := 24) (v := ?_) (oi := ⟨some 125, .binOp .eql 3 (.tmp 120) (.tmp 124) 3, 4, "ref.go:173", #[⟨19, .data⟩, ⟨23, .data⟩, ⟨13, .guard⟩], some (13, true)⟩) rfl (by kernel_rfl) (by kernel_rfl) (by kernel_rfl) (by kernel_rfl) rfl (fun _ _ _ h => h) (Or.inl ⟨by rfl, ?_⟩) HT ?_
                  rotate_left
                  · intro W hSW
                    go_simp
                    try with_reducible rfl
                  simp only [Act.put, List.setIfInBounds_toArray, List.set_cons_zero, List.set_cons_succ]
                  refine wpAnyL_take' (i := 25) (v := ?_) (oi := ⟨some 126, .pick (.tmp 114) (.tmp 125) (.const (.bool false)), 4, "ref.go:173", #[⟨13, .data⟩, ⟨24, .data⟩], none⟩) rfl (by kernel_rfl) (by kernel_rfl) (by kernel_rfl) (by kernel_rfl) rfl (fun _ _ _ h => h) (Or.inl ⟨by rfl, ?_⟩) HT ?_
                  rotate_left
                  · intro W hSW
                    go_simp
                    try with_reducible rfl
                  simp only [Act.put, List.setIfInBounds_toArray, List.set_cons_zero, List.set_cons_succ]
                  refine wpAnyL_done (by kernel_rfl) ?_ _
                  go_wp2_with fail
                  go_meet
                  exact ⟨true, rfl, rfl, ⟨fun _ => ⟨H1.out, H2.out⟩, fun _ => rfl⟩⟩
                · have e2 : (xtg == (j : Int)) = false := by simp [h2]
                  have H2 : Hid (¬ xtg = (j : Int)) := h2
                  clear h2
                  refine wp_region_L (fun W => W.cell? ⟨sb, 0, none⟩ = some (.slice (some ⟨rg, 0, none⟩) (n + 1) rc2) ∧ W.cell? ⟨rg, n * 3 + 1, none⟩ = some (.int .i64 xhi) ∧ W.cell? ⟨rg, n * 3 + 2, none⟩ = some (.int .i64 xtg) ∧ W.cell? ⟨w2.heap.size, kk, none⟩ = some (.int .i64 (j : Int))) 26 (by kernel_rfl) 26 rfl ?_
                  refine wpAnyL_take' (i := 0) (v := ?_) (oi := ⟨some 101, .move (.tmp 15), 3, "ref.go:173", #[], none⟩) rfl (by kernel_rfl) (by kernel_rfl) (by kernel_rfl) (by kernel_rfl) rfl (fun _ _ _ h => h) (Or.inl ⟨by rfl, ?_⟩) HT ?_
                  rotate_left
                  · intro W hSW
                    go_simp
                    try with_reducible rfl
                  simp only [Act.put, List.setIfInBounds_toArray, List.set_cons_zero, List.set_cons_succ]
                  refine wpAnyL_take' (i := 1) (v := ?_) (oi := ⟨some 102, .binOp .geq 3 (.tmp 101) (.const (.int .i64 0)) 3, 4, "ref.go:173", #[⟨0, .data⟩], none⟩) rfl (by kernel_rfl) (by kernel_rfl) (by kernel_rfl) (by kernel_rfl) rfl (fun _ _ _ h => h) (Or.inl ⟨by rfl, ?_⟩) HT ?_
                  rotate_left
                  · intro W hSW
                    go_simp
                    try with_reducible rfl
                  simp only [Act.put, List.setIfInBounds_toArray, List.set_cons_zero, List.set_cons_succ]
                  refine wpAnyL_take' (i := 2) (v := ?_) (oi := ⟨some 103, .move (.tmp 102), 4, "ref.go:173", #[⟨1, .data⟩], none⟩) rfl (by kernel_rfl) (by kernel_rfl) (by kernel_rfl) (by kernel_rfl) rfl (fun _ _ _ h => h) (Or.inl ⟨by rfl, ?_⟩) HT ?_
                  rotate_left
                  · intro W hSW
                    go_simp
                    try with_reducible rfl
                  simp only [Act.put, List.setIfInBounds_toArray, List.set_cons_zero, List.set_cons_succ]
                  refine wpAnyL_take' (i := 3) (v := ?_) (oi := ⟨some 104, .fieldAddr 37 (.tmp 12) 0, 0, "ref.go:173", #[⟨2, .guard⟩], some (2, true)⟩) rfl (by kernel_rfl) (by kernel_rfl) (by kernel_rfl) (by kernel_rfl) rfl (fun _ _ _ h => h) (Or.inl ⟨by rfl, ?_⟩) HT ?_
                  rotate_left
                  · intro W hSW
                    go_simp
                    try with_reducible rfl
                  simp only [Act.put, List.setIfInBounds_toArray, List.set_cons_zero, List.set_cons_succ]
                  refine wpAnyL_take' (i := 4) (v := ?_) (oi := ⟨some 105, .load 35 (.tmp 104), 35, "ref.go:173", #[⟨3, .data⟩, ⟨2, .guard⟩], some (2, true)⟩) rfl (by kernel_rfl) (by kernel_rfl) (by kernel_rfl) (by kernel_rfl) rfl (fun _ _ _ h => h) (Or.inl ⟨by rfl, ?_⟩) HT ?_
                  rotate_left
                  · intro W hSW
                    go_simp
                    try with_reducible rfl
                  simp only [Act.put, List.setIfInBounds_toArray, List.set_cons_zero, List.set_cons_succ]
                  refine wpAnyL_take' (i := 5) (v := ?_) (oi := ⟨some 106, .move (.tmp 15), 3, "ref.go:173", #[⟨2, .guard⟩], some (2, true)⟩) rfl (by kernel_rfl) (by kernel_rfl) (by kernel_rfl) (by kernel_rfl) rfl (fun _ _ _ h => h) (Or.inl ⟨by rfl, ?_⟩) HT ?_
                  rotate_left
                  · intro W hSW
                    go_simp
                    try with_reducible rfl
                  simp only [Act.put, List.setIfInBounds_toArray, List.set_cons_zero, List.set_cons_succ]
                  refine wpAnyL_take' (i := 6) (v := ?_) (oi := ⟨some 107, .indexAddr 35 (.tmp 105) (.tmp 106), 0, "ref.go:173", #[⟨4, .data⟩, ⟨5, .data⟩, ⟨2, .guard⟩], some (2, true)⟩) rfl (by kernel_rfl) (by kernel_rfl) (by kernel_rfl) (by kernel_rfl) rfl (fun _ _ _ h => h) (Or.inl ⟨by rfl, ?_⟩) HT ?_
                  rotate_left
                  · intro W hSW
                    go_simp
                    try with_reducible rfl
                  simp only [Act.put, List.setIfInBounds_toArray, List.set_cons_zero, List.set_cons_succ]
                  refine wpAnyL_take' (i := 7) (v := ?_) (oi := ⟨some 108, .fieldAddr 39 (.tmp 107) 1, 0, "ref.go:173", #[⟨6, .data⟩, ⟨2, .guard⟩], some (2, true)⟩) rfl (by kernel_rfl) (by kernel_rfl) (by kernel_rfl) (by kernel_rfl) rfl (fun _ _ _ h => h) (Or.inl ⟨by rfl, ?_⟩) HT ?_
                  rotate_left
                  · intro W hSW
                    go_simp
                    try with_reducible rfl
                  simp only [Act.put, List.setIfInBounds_toArray, List.set_cons_zero, List.set_cons_succ]
                  refine wpAnyL_take' (i := 8) (v := ?_) (oi := ⟨some 109, .load 3 (.tmp 108), 3, "ref.go:173", #[⟨7, .data⟩, ⟨2, .guard⟩], some (2, true)⟩) rfl (by kernel_rfl) (by kernel_rfl) (by kernel_rfl) (by kernel_rfl) rfl (fun _ _ _ h => h) (Or.inl ⟨by rfl, ?_⟩) HT ?_
                  rotate_left
                  · intro W hSW
                    go_simp
                    try with_reducible rfl
                  simp only [Act.put, List.setIfInBounds_toArray, List.set_cons_zero, List.set_cons_succ]
                  refine wpAnyL_take' (i := 9) (v := ?_) (oi := ⟨some 110, .move (.tmp 13), 3, "ref.go:173", #[⟨2, .guard⟩], some (2, true)⟩) rfl (by kernel_rfl) (by kernel_rfl) (by kernel_rfl) (by kernel_rfl) rfl (fun _ _ _ h => h) (Or.inl ⟨by rfl, ?_⟩) HT ?_
                  rotate_left
                  · intro W hSW
                    go_simp
                    try with_reducible rfl
                  simp only [Act.put, List.setIfInBounds_toArray, List.set_cons_zero, List.set_cons_succ]
                  refine wpAnyL_take' (i := 10) (v := ?_) (oi := ⟨some 111, .binOp .sub 3 (.tmp 110) (.const (.int .i64 1)) 3, 3, "ref.go:173", #[⟨9, .data⟩, ⟨2, .guard⟩], some (2, true)⟩) rfl (by kernel_rfl) (by kernel_rfl) (by kernel_rfl) (by kernel_rfl) rfl (fun _ _ _ h => h) (Or.inl ⟨by rfl, ?_⟩) HT ?_
                  rotate_left
                  · intro W hSW
                    go_simp
                    try with_reducible rfl
                  simp only [Act.put, List.setIfInBounds_toArray, List.set_cons_zero, List.set_cons_succ]
                  refine wpAnyL_take' (i := 11) (v := ?_) (oi := ⟨some 112, .binOp .eql 3 (.tmp 109) (.tmp 111) 3, 4, "ref.go:173", #[⟨8, .data⟩, ⟨10, .data⟩, ⟨2, .guard⟩], some (2, true)⟩) rfl (by kernel_rfl) (by kernel_rfl) (by kernel_rfl) (by kernel_rfl) rfl (fun _ _ _ h => h) (Or.inl ⟨by rfl, ?_⟩) HT ?_
                  rotate_left
                  · intro W hSW
                    go_simp
                    try with_reducible rfl
                  simp only [Act.put, List.setIfInBounds_toArray, List.set_cons_zero, List.set_cons_succ]
                  refine wpAnyL_take' (i := 12) (v := ?_) (oi := ⟨some 113, .pick (.tmp 103) (.tmp 112) (.const (.bool false)), 4, "ref.go:173", #[⟨2, .data⟩, ⟨11, .data⟩], none⟩) rfl (by kernel_rfl) (by kernel_rfl) (by kernel_rfl) (by kernel_rfl) rfl (fun _ _ _ h => h) (Or.inl ⟨by rfl, ?_⟩) HT ?_
                  rotate_left
                  · intro W hSW
                    go_simp
                    try with_reducible rfl
                  simp only [Act.put, List.setIfInBounds_toArray, List.set_cons_zero, List.set_cons_succ]
                  refine wpAnyL_take' (i := 13) (v := ?_) (oi := ⟨some 114, .move (.tmp 113), 4, "ref.go:173", #[⟨12, .data⟩, ⟨2, .chain⟩], none⟩) rfl (by kernel_rfl) (by kernel_rfl) (by kernel_rfl) (by kernel_rfl) rfl (fun _ _ _ h => h) (Or.inl ⟨by rfl, ?_⟩) HT ?_
                  rotate_left
                  · intro W hSW
                    go_simp
                    try with_reducible rfl
                  simp only [Act.put, List.setIfInBounds_toArray, List.set_cons_zero, List.set_cons_succ]
                  refine wpAnyL_take' (i := 14) (v := ?_) (oi := ⟨some 115, .fieldAddr 37 (.tmp 12) 0, 0, "ref.go:173", #[⟨13, .guard⟩], some (13, true)⟩) rfl (by kernel_rfl) (by kernel_rfl) (by kernel_rfl) (by kernel_rfl) rfl (fun _ _ _ h => h) (Or.inl ⟨by rfl, ?_⟩) HT ?_
                  rotate_left
                  · intro W hSW
                    go_simp
                    try with_reducible rfl
                  simp only [Act.put, List.setIfInBounds_toArray, List.set_cons_zero, List.set_cons_succ]
                  refine wpAnyL_take' (i := 15) (v := ?_) (oi := ⟨some 116, .load 35 (.tmp 115), 35, "ref.go:173", #[⟨14, .data⟩, ⟨13, .guard⟩], some (13, true)⟩) rfl (by kernel_rfl) (by kernel_rfl) (by kernel_rfl) (by kernel_rfl) rfl (fun _ _ _ h => h) (Or.inl ⟨by rfl, ?_⟩) HT ?_
                  rotate_left
                  · intro W hSW
                    go_simp
                    try with_reducible rfl
                  simp only [Act.put, List.setIfInBounds_toArray, List.set_cons_zero, List.set_cons_succ]
                  refine wpAnyL_take' (i := 16) (v := ?_) (oi := ⟨some 117, .move (.tmp 15), 3, "ref.go:173", #[⟨13, .guard⟩], some (13, true)⟩) rfl (by kernel_rfl) (by kernel_rfl) (by kernel_rfl) (by kernel_rfl) rfl (fun _ _ _ h => h) (Or.inl ⟨by rfl, ?_⟩) HT ?_
                  rotate_left
                  · intro W hSW
                    go_simp
                    try with_reducible rfl
                  simp only [Act.put, List.setIfInBounds_toArray, List.set_cons_zero, List.set_cons_succ]
                  refine wpAnyL_take' (i := 17) (v := ?_) (oi := ⟨some 118, .indexAddr 35 (.tmp 116) (.tmp 117), 0, "ref.go:173", #[⟨15, .data⟩, ⟨16, .data⟩, ⟨13, .guard⟩], some (13, true)⟩) rfl (by kernel_rfl) (by kernel_rfl) (by kernel_rfl) (by kernel_rfl) rfl (fun _ _ _ h => h) (Or.inl ⟨by rfl, ?_⟩) HT ?_
                  rotate_left
                  · intro W hSW
                    go_simp
                    try with_reducible rfl
                  simp only [Act.put, List.setIfInBounds_toArray, List.set_cons_zero, List.set_cons_succ]
                  refine wpAnyL_take' (i := 18) (v := ?_) (oi := ⟨some 119, .fieldAddr 39 (.tmp 118) 2, 0, "ref.go:173", #[⟨17, .data⟩, ⟨13, .guard⟩], some (13, true)⟩) rfl (by kernel_rfl) (by kernel_rfl) (by kernel_rfl) (by kernel_rfl) rfl (fun _ _ _ h => h) (Or.inl ⟨by rfl, ?_⟩) HT ?_
                  rotate_left
                  · intro W hSW
                    go_simp
                    try with_reducible rfl
                  simp only [Act.put, List.setIfInBounds_toArray, List.set_cons_zero, List.set_cons_succ]
                  refine wpAnyL_take' (i := 19) (v := ?_) (oi := ⟨some 120, .load 3 (.tmp 119), 3, "ref.go:173", #[⟨18, .data⟩, ⟨13, .guard⟩], some (13, true)⟩) rfl (by kernel_rfl) (by kernel_rfl) (by kernel_rfl) (by kernel_rfl) rfl (fun _ _ _ h => h) (Or.inl ⟨by rfl, ?_⟩) HT ?_
                  rotate_left
                  · intro W hSW
                    go_simp
                    try with_reducible rfl
                  simp only [Act.put, List.setIfInBounds_toArray, List.set_cons_zero, List.set_cons_succ]
                  refine wpAnyL_take' (i := 20) (v := ?_) (oi := ⟨some 121, .move (.tmp 5), 57, "ref.go:173", #[⟨13, .guard⟩], some (13, true)⟩) rfl (by kernel_rfl) (by kernel_rfl) (by kernel_rfl) (by kernel_rfl) rfl (fun _ _ _ h => h) (Or.inl ⟨by rfl, ?_⟩) HT ?_
                  rotate_left
                  · intro W hSW
                    go_simp
                    try with_reducible rfl
                  simp only [Act.put, List.setIfInBounds_toArray, List.set_cons_zero, List.set_cons_succ]
                  refine wpAnyL_take' (i := 21) (v := ?_) (oi := ⟨some 122, .move (.tmp 14), 3, "ref.go:173", #[⟨13, .guard⟩], some (13, true)⟩) rfl (by kernel_rfl) (by kernel_rfl) (by kernel_rfl) (by kernel_rfl) rfl (fun _ _ _ h => h) (Or.inl ⟨by rfl, ?_⟩) HT ?_
                  rotate_left
                  · intro W hSW
                    go_simp
                    try with_reducible rfl
                  simp only [Act.put, List.setIfInBounds_toArray, List.set_cons_zero, List.set_cons_succ]
                  refine wpAnyL_take' (i := 22) (v := ?_) (oi := ⟨some 123, .indexAddr 57 (.tmp 121) (.tmp 122), 0, "ref.go:173", #[⟨20, .data⟩, ⟨21, .data⟩, ⟨13, .guard⟩], some (13, true)⟩) rfl (by kernel_rfl) (by kernel_rfl) (by kernel_rfl) (by kernel_rfl) rfl (fun _ _ _ h => h) (Or.inl ⟨by rfl, ?_⟩) HT ?_
                  rotate_left
                  · intro W hSW
                    go_simp
                    try with_reducible rfl
                  simp only [Act.put, List.setIfInBounds_toArray, List.set_cons_zero, List.set_cons_succ]
                  refine wpAnyL_take' (i := 23) (v := ?_) (oi := ⟨some 124, .load 3 (.tmp 123), 3, "ref.go:173", #[⟨22, .data⟩, ⟨13, .guard⟩], some (13, true)⟩) rfl (by kernel_rfl) (by kernel_rfl) (by kernel_rfl) (by kernel_rfl) rfl (fun _ _ _ h => h) (Or.inl ⟨by rfl, ?_⟩) HT ?_
                  rotate_left
                  · intro W hSW
                    go_simp
                    try with_reducible rfl
                  simp only [Act.put, List.setIfInBounds_toArray, List.set_cons_zero, List.set_cons_succ]
                  refine wpAnyL_take' (i := 24) (v := ?_) (oi := ⟨some 125, .binOp .eql 3 (.tmp 120) (.tmp 124) 3, 4, "ref.go:173", #[⟨19, .data⟩, ⟨23, .data⟩, ⟨13, .guard⟩], some (13, true)⟩) rfl (by kernel_rfl) (by kernel_rfl) (by kernel_rfl) (by kernel_rfl) rfl (fun _ _ _ h => h) (Or.inl ⟨by rfl, ?_⟩) HT ?_
                  rotate_left
                  · intro W hSW
                    go_simp
                    try with_reducible rfl
                  simp only [Act.put, List.setIfInBounds_toArray, List.set_cons_zero, List.set_cons_succ]
                  refine wpAnyL_take' (i := 25) (v := ?_) (oi := ⟨some 126, .pick (.tmp 114) (.tmp 125) (.const (.bool false)), 4, "ref.go:173", #[⟨13, .data⟩, ⟨24, .data⟩], none⟩) rfl (by kernel_rfl) (by kernel_rfl) (by kernel_rfl) (by kernel_rfl) rfl (fun _ _ _ h => h) (Or.inl ⟨by rfl, ?_⟩) HT ?_
                  rotate_left
                  · intro W hSW
                    go_simp
                    try with_reducible rfl
                  simp only [Act.put, List.setIfInBounds_toArray, List.set_cons_zero, List.set_cons_succ]
                  refine wpAnyL_done (by kernel_rfl) ?_ _
                  go_wp2_with fail
                  go_meet
                  exact ⟨false, rfl, rfl, ⟨fun e => (by cases e), fun e => absurd e.2 H2.out⟩⟩
              · have e1 : (xhi == (m : Int) - 1) = false := by simp [h1]
                have H1 : Hid (¬ xhi = (m : Int) - 1) := h1
                clear h1
                refine wp_region_L (fun W => W.cell? ⟨sb, 0, none⟩ = some (.slice (some ⟨rg, 0, none⟩) (n + 1) rc2) ∧ W.cell? ⟨rg, n * 3 + 1, none⟩ = some (.int .i64 xhi) ∧ W.cell? ⟨rg, n * 3 + 2, none⟩ = some (.int .i64 xtg) ∧ W.cell? ⟨w2.heap.size, kk, none⟩ = some (.int .i64 (j : Int))) 26 (by kernel_rfl) 26 rfl ?_
                refine wpAnyL_take' (i := 0) (v := ?_) (oi := ⟨some 101, .move (.tmp 15), 3, "ref.go:173", #[], none⟩) rfl (by kernel_rfl) (by kernel_rfl) (by kernel_rfl) (by kernel_rfl) rfl (fun _ _ _ h => h) (Or.inl ⟨by rfl, ?_⟩) HT ?_
                rotate_left
                · intro W hSW
                  go_simp
                  try with_reducible rfl
                simp only [Act.put, List.setIfInBounds_toArray, List.set_cons_zero, List.set_cons_succ]
                refine wpAnyL_take' (i := 1) (v := ?_) (oi := ⟨some 102, .binOp .geq 3 (.tmp 101) (.const (.int .i64 0)) 3, 4, "ref.go:173", #[⟨0, .data⟩], none⟩) rfl (by kernel_rfl) (by kernel_rfl) (by kernel_rfl) (by kernel_rfl) rfl (fun _ _ _ h => h) (Or.inl ⟨by rfl, ?_⟩) HT ?_
                rotate_left
                · intro W hSW
                  go_simp
                  try with_reducible rfl
                simp only [Act.put, List.setIfInBounds_toArray, List.set_cons_zero, List.set_cons_succ]
                refine wpAnyL_take' (i := 2) (v := ?_) (oi := ⟨some 103, .move (.tmp 102), 4, "ref.go:173", #[⟨1, .data⟩], none⟩) rfl (by kernel_rfl) (by kernel_rfl) (by kernel_rfl) (by kernel_rfl) rfl (fun _ _ _ h => h) (Or.inl ⟨by rfl, ?_⟩) HT ?_
                rotate_left
                · intro W hSW
                  go_simp
                  try with_reducible rfl
                simp only [Act.put, List.setIfInBounds_toArray, List.set_cons_zero, List.set_cons_succ]
                refine wpAnyL_take' (i := 3) (v := ?_) (oi := ⟨some 104, .fieldAddr 37 (.tmp 12) 0, 0, "ref.go:173", #[⟨2, .guard⟩], some (2, true)⟩) rfl (by kernel_rfl) (by kernel_rfl) (by kernel_rfl) (by kernel_rfl) rfl (fun _ _ _ h => h) (Or.inl ⟨by rfl, ?_⟩) HT ?_
                rotate_left
                · intro W hSW
                  go_simp
                  try with_reducible rfl
                simp only [Act.put, List.setIfInBounds_toArray, List.set_cons_zero, List.set_cons_succ]
                refine wpAnyL_take' (i := 4) (v := ?_) (oi := ⟨some 105, .load 35 (.tmp 104), 35, "ref.go:173", #[⟨3, .data⟩, ⟨2, .guard⟩], some (2, true)⟩) rfl (by kernel_rfl) (by kernel_rfl) (by kernel_rfl) (by kernel_rfl) rfl (fun _ _ _ h => h) (Or.inl ⟨by rfl, ?_⟩) HT ?_
                rotate_left
                · intro W hSW
                  go_simp
                  try with_reducible rfl
                simp only [Act.put, List.setIfInBounds_toArray, List.set_cons_zero, List.set_cons_succ]
                refine wpAnyL_take' (i := 5) (v := ?_) (oi := ⟨some 106, .move (.tmp 15), 3, "ref.go:173", #[⟨2, .guard⟩], some (2, true)⟩) rfl (by kernel_rfl) (by kernel_rfl) (by kernel_rfl) (by kernel_rfl) rfl (fun _ _ _ h => h) (Or.inl ⟨by rfl, ?_⟩) HT ?_
                rotate_left
                · intro W hSW
                  go_simp
                  try with_reducible rfl
                simp only [Act.put, List.setIfInBounds_toArray, List.set_cons_zero, List.set_cons_succ]
                refine wpAnyL_take' (i := 6) (v := ?_) (oi := ⟨some 107, .indexAddr 35 (.tmp 105) (.tmp 106), 0, "ref.go:173", #[⟨4, .data⟩, ⟨5, .data⟩, ⟨2, .guard⟩], some (2, true)⟩) rfl (by kernel_rfl) (by kernel_rfl) (by kernel_rfl) (by kernel_rfl) rfl (fun _ _ _ h => h) (Or.inl ⟨by rfl, ?_⟩) HT ?_
                rotate_left
                · intro W hSW
                  go_simp
                  try with_reducible rfl
                simp only [Act.put, List.setIfInBounds_toArray, List.set_cons_zero, List.set_cons_succ]
                refine wpAnyL_take' (i := 7) (v := ?_) (oi := ⟨some 108, .fieldAddr 39 (.tmp 107) 1, 0, "ref.go:173", #[⟨6, .data⟩, ⟨2, .guard⟩], some (2, true)⟩) rfl (by kernel_rfl) (by kernel_rfl) (by kernel_rfl) (by kernel_rfl) rfl (fun _ _ _ h => h) (Or.inl ⟨by rfl, ?_⟩) HT ?_
                rotate_left
                · intro W hSW
                  go_simp
                  try with_reducible rfl
                simp only [Act.put, List.setIfInBounds_toArray, List.set_cons_zero, List.set_cons_succ]
                refine wpAnyL_take' (i := 8) (v := ?_) (oi := ⟨some 109, .load 3 (.tmp 108), 3, "ref.go:173", #[⟨7, .data⟩, ⟨2, .guard⟩], some (2, true)⟩) rfl (by kernel_rfl) (by kernel_rfl) (by kernel_rfl) (by kernel_rfl) rfl (fun _ _ _ h => h) (Or.inl ⟨by rfl, ?_⟩) HT ?_
                rotate_left
                · intro W hSW
                  go_simp
                  try with_reducible rfl
                simp only [Act.put, List.setIfInBounds_toArray, List.set_cons_zero, List.set_cons_succ]
                refine wpAnyL_take' (i := 9) (v := ?_) (oi := ⟨some 110, .move (.tmp 13), 3, "ref.go:173", #[⟨2, .guard⟩], some (2, true)⟩) rfl (by kernel_rfl) (by kernel_rfl) (by kernel_rfl) (by kernel_rfl) rfl (fun _ _ _ h => h) (Or.inl ⟨by rfl, ?_⟩) HT ?_
                rotate_left
                · intro W hSW
                  go_simp
                  try with_reducible rfl
                simp only [Act.put, List.setIfInBounds_toArray, List.set_cons_zero, List.set_cons_succ]
                refine wpAnyL_take' (i := 10) (v := ?_) (oi := ⟨some 111, .binOp .sub 3 (.tmp 110) (.const (.int .i64 1)) 3, 3, "ref.go:173", #[⟨9, .data⟩, ⟨2, .guard⟩], some (2, true)⟩) rfl (by kernel_rfl) (by kernel_rfl) (by kernel_rfl) (by kernel_rfl) rfl (fun _ _ _ h => h) (Or.inl ⟨by rfl, ?_⟩) HT ?_
                rotate_left
                · intro W hSW
                  go_simp
                  try with_reducible rfl
                simp only [Act.put, List.setIfInBounds_toArray, List.set_cons_zero, List.set_cons_succ]
                refine wpAnyL_take' (i := 11) (v := ?_) (oi := ⟨some 112, .binOp .eql 3 (.tmp 109) (.tmp 111) 3, 4, "ref.go:173", #[⟨8, .data⟩, ⟨10, .data⟩, ⟨2, .guard⟩], some (2, true)⟩) rfl (by kernel_rfl) (by kernel_rfl) (by kernel_rfl) (by kernel_rfl) rfl (fun _ _ _ h => h) (Or.inl ⟨by rfl, ?_⟩) HT ?_
                rotate_left
                · intro W hSW
                  go_simp
                  try with_reducible rfl
                simp only [Act.put, List.setIfInBounds_toArray, List.set_cons_zero, List.set_cons_succ]
                refine wpAnyL_take' (i := 12) (v := ?_) (oi := ⟨some 113, .pick (.tmp 103) (.tmp 112) (.const (.bool false)), 4, "ref.go:173", #[⟨2, .data⟩, ⟨11, .data⟩], none⟩) rfl (by kernel_rfl) (by kernel_rfl) (by kernel_rfl) (by kernel_rfl) rfl (fun _ _ _ h => h) (Or.inl ⟨by rfl, ?_⟩) HT ?_
                rotate_left
                · intro W hSW
                  go_simp
                  try with_reducible rfl
                simp only [Act.put, List.setIfInBounds_toArray, List.set_cons_zero, List.set_cons_succ]
                refine wpAnyL_take' (i := 13) (v := ?_) (oi := ⟨some 114, .move (.tmp 113), 4, "ref.go:173", #[⟨12, .data⟩, ⟨2, .chain⟩], none⟩) rfl (by kernel_rfl) (by kernel_rfl) (by kernel_rfl) (by kernel_rfl) rfl (fun _ _ _ h => h) (Or.inl ⟨by rfl, ?_⟩) HT ?_
                rotate_left
                · intro W hSW
                  go_simp
                  try with_reducible rfl
                simp only [Act.put, List.setIfInBounds_toArray, List.set_cons_zero, List.set_cons_succ]
                refine wpAnyL_take' (i := 14) (v := undef) (oi := ⟨some 115, .fieldAddr 37 (.tmp 12) 0, 0, "ref.go:173", #[⟨13, .guard⟩], some (13, true)⟩) rfl (by kernel_rfl) (by kernel_rfl) (by kernel_rfl) (by kernel_rfl) rfl (fun _ _ _ h => h) (Or.inr ⟨by rfl, rfl⟩) HT ?_
                simp only [Act.put, List.setIfInBounds_toArray, List.set_cons_zero, List.set_cons_succ]
                refine wpAnyL_take' (i := 15) (v := undef) (oi := ⟨some 116, .load 35 (.tmp 115), 35, "ref.go:173", #[⟨14, .data⟩, ⟨13, .guard⟩], some (13, true)⟩) rfl (by kernel_rfl) (by kernel_rfl) (by kernel_rfl) (by kernel_rfl) rfl (fun _ _ _ h => h) (Or.inr ⟨by rfl, rfl⟩) HT ?_
                simp only [Act.put, List.setIfInBounds_toArray, List.set_cons_zero, List.set_cons_succ]
                refine wpAnyL_take' (i := 16) (v := undef) (oi := ⟨some 117, .move (.tmp 15), 3, "ref.go:173", #[⟨13, .guard⟩], some (13, true)⟩) rfl (by kernel_rfl) (by kernel_rfl) (by kernel_rfl) (by kernel_rfl) rfl (fun _ _ _ h => h) (Or.inr ⟨by rfl, rfl⟩) HT ?_
                simp only [Act.put, List.setIfInBounds_toArray, List.set_cons_zero, List.set_cons_succ]
                refine wpAnyL_take' (i := 17) (v := undef) (oi := ⟨some 118, .indexAddr 35 (.tmp 116) (.tmp 117), 0, "ref.go:173", #[⟨15, .data⟩, ⟨16, .data⟩, ⟨13, .guard⟩], some (13, true)⟩) rfl (by kernel_rfl) (by kernel_rfl) (by kernel_rfl) (by kernel_rfl) rfl (fun _ _ _ h => h) (Or.inr ⟨by rfl, rfl⟩) HT ?_
                simp only [Act.put, List.setIfInBounds_toArray, List.set_cons_zero, List.set_cons_succ]
                refine wpAnyL_take' (i := 18) (v := undef) (oi := ⟨some 119, .fieldAddr 39 (.tmp 118) 2, 0, "ref.go:173", #[⟨17, .data⟩, ⟨13, .guard⟩], some (13, true)⟩) rfl (by kernel_rfl) (by kernel_rfl) (by kernel_rfl) (by kernel_rfl) rfl (fun _ _ _ h => h) (Or.inr ⟨by rfl, rfl⟩) HT ?_
                simp only [Act.put, List.setIfInBounds_toArray, List.set_cons_zero, List.set_cons_succ]
                refine wpAnyL_take' (i := 19) (v := undef) (oi := ⟨some 120, .load 3 (.tmp 119), 3, "ref.go:173", #[⟨18, .data⟩, ⟨13, .guard⟩], some (13, true)⟩) rfl (by kernel_rfl) (by kernel_rfl) (by kernel_rfl) (by kernel_rfl) rfl (fun _ _ _ h => h) (Or.inr ⟨by rfl, rfl⟩) HT ?_
                simp only [Act.put, List.setIfInBounds_toArray, List.set_cons_zero, List.set_cons_succ]
                refine wpAnyL_take' (i := 20) (v := undef) (oi := ⟨some 121, .move (.tmp 5), 57, "ref.go:173", #[⟨13, .guard⟩], some (13, true)⟩) rfl (by kernel_rfl) (by kernel_rfl) (by kernel_rfl) (by kernel_rfl) rfl (fun _ _ _ h => h) (Or.inr ⟨by rfl, rfl⟩) HT ?_
                simp only [Act.put, List.setIfInBounds_toArray, List.set_cons_zero, List.set_cons_succ]
                refine wpAnyL_take' (i := 21) (v := undef) (oi := ⟨some 122, .move (.tmp 14), 3, "ref.go:173", #[⟨13, .guard⟩], some (13, true)⟩) rfl (by kernel_rfl) (by kernel_rfl) (by kernel_rfl) (by kernel_rfl) rfl (fun _ _ _ h => h) (Or.inr ⟨by rfl, rfl⟩) HT ?_
                simp only [Act.put, List.setIfInBounds_toArray, List.set_cons_zero, List.set_cons_succ]
                refine wpAnyL_take' (i := 22) (v := undef) (oi := ⟨some 123, .indexAddr 57 (.tmp 121) (.tmp 122), 0, "ref.go:173", #[⟨20, .data⟩, ⟨21, .data⟩, ⟨13, .guard⟩], some (13, true)⟩) rfl (by kernel_rfl) (by kernel_rfl) (by kernel_rfl) (by kernel_rfl) rfl (fun _ _ _ h => h) (Or.inr ⟨by rfl, rfl⟩) HT ?_
                simp only [Act.put, List.setIfInBounds_toArray, List.set_cons_zero, List.set_cons_succ]
                refine wpAnyL_take' (i := 23) (v := undef) (oi := ⟨some 124, .load 3 (.tmp 123), 3, "ref.go:173", #[⟨22, .data⟩, ⟨13, .guard⟩], some (13, true)⟩) rfl (by kernel_rfl) (by kernel_rfl) (by kernel_rfl) (by kernel_rfl) rfl (fun _ _ _ h => h) (Or.inr ⟨by rfl, rfl⟩) HT ?_
                simp only [Act.put, List.setIfInBounds_toArray, List.set_cons_zero, List.set_cons_succ]
                refine wpAnyL_take' (i := 24) (v := undef) (oi := ⟨some 125, .binOp .eql 3 (.tmp 120) (.tmp 124) 3, 4, "ref.go:173", #[⟨19, .data⟩, ⟨23, .data⟩, ⟨13, .guard⟩], some (13, true)⟩) rfl (by kernel_rfl) (by kernel_rfl) (by kernel_rfl) (by kernel_rfl) rfl (fun _ _ _ h => h) (Or.inr ⟨by rfl, rfl⟩) HT ?_
                simp only [Act.put, List.setIfInBounds_toArray, List.set_cons_zero, List.set_cons_succ]
                refine wpAnyL_take' (i := 25) (v := ?_) (oi := ⟨some 126, .pick (.tmp 114) (.tmp 125) (.const (.bool false)), 4, "ref.go:173", #[⟨13, .data⟩, ⟨24, .data⟩], none⟩) rfl (by kernel_rfl) (by kernel_rfl) (by kernel_rfl) (by kernel_rfl) rfl (fun _ _ _ h => h) (Or.inl ⟨by rfl, ?_⟩) HT ?_
                rotate_left
                · intro W hSW
                  go_simp
                  try with_reducible rfl
                simp only [Act.put, List.setIfInBounds_toArray, List.set_cons_zero, List.set_cons_succ]
                refine wpAnyL_done (by kernel_rfl) ?_ _
                go_wp2_with fail
                go_meet
                exact ⟨false, rfl, rfl, ⟨fun e => (by cases e), fun e => absurd e.1 H1.out⟩⟩
            case rest =>
            obtain ⟨T, rfl, hwc, HTT⟩ := hcut
            obtain rfl := hwc.symm
            clear hwc
            have HM3 : Hid (LM l.length (clv c) w2 ob O2 nb2 (.slice oa2 O2.length oc2) Z dv W2.drew) := HM.out.next bd
            have HSB3 : Hid (SB w2 sb R (.slice (some ⟨rg, 0, none⟩) (n + 1) rc2) acc W2.drew ∧ ∀ k, (Value.slice (some ⟨rg, 0, none⟩) (n + 1) rc2).ownBlock = some k → sb < k) := ⟨HSB.out.1.next bd, HSB.out.2⟩
            have tj : W2.drew.drew.cell? ⟨w2.heap.size, kk, none⟩ = some (.int .i64 (j : Int)) := HNJ.out _ (below_drewN bd 1)
            have t0 : W2.drew.drew.cell? ⟨sb, 0, none⟩ = some (.slice (some ⟨rg, 0, none⟩) (n + 1) rc2) := HT.1
            have k1 := HT.2.1
            clear HT HM HSB bd hwm hwm'
            cases T
            case true =>
              have hc9 := HTT.out.1 rfl
              have har := HSB3.out.1.ar
              unfold OwnA at har
              rw [hrl] at har
              have f1 : W2.drew.frozen? ⟨rg, n * 3 + 1, none⟩ = false := World.ownsRow.frozenAt har _
              have hgs : sb < rg := HSB3.out.2 rg rfl
              have s0 : W2.drew.cell? ⟨sb, 0, none⟩ = some (.slice (some ⟨rg, 0, none⟩) (n + 1) rc2) := t0
              have HF : Hid (LM l.length (clv c) w2 ob O2 nb2 (.slice oa2 O2.length oc2) Z dv (W2.drew.setCell ⟨rg, n * 3 + 1, none⟩ (.int .i64 (m : Int))) ∧ SB w2 sb (R' ++ [⟨x.lo, m, x.tg⟩]) (.slice (some ⟨rg, 0, none⟩) (n + 1) rc2) acc (W2.drew.setCell ⟨rg, n * 3 + 1, none⟩ (.int .i64 (m : Int))) ∧ RI l (clv c) O.length a ((m + 1 : Nat) : Int) O2 (R' ++ [⟨x.lo, m, x.tg⟩]) ∧ O <+: O2 ∧ ∀ k, (Value.slice (some ⟨rg, 0, none⟩) (n + 1) rc2).ownBlock = some k → sb < k) := by
                have hsb := HSB3.out.1
                rw [HRN.out.1] at hsb
                have hx9 := SB.ext (R := R') (x := x) (rc := rc2) (by rw [HRN.out.2]; exact hsb) (m : Int)
                rw [HRN.out.2] at hx9
                have hD1 : But (fun k => k = rg) W2.drew (W2.drew.setCell ⟨rg, n * 3 + 1, none⟩ (.int .i64 (m : Int))) := (But.refl _ _).setCell _ _ (.inr rfl)
                refine ⟨HM3.out.but2 HSB3.out.1.lo HLX.out.1 HLX.out.2 hD1 (fun k hk => ?_), hx9, HEXT.out R' x HRN.out.1 (by rw [HXE.out.1]; omega) (by rw [HXE.out.2]; exact hc9.2), HPF.out.1, HSB3.out.2⟩
                subst hk
                obtain ⟨cs, hc⟩ := own_is_cells har (show (Value.slice (some ⟨k, 0, none⟩) (n + 1) rc2).ownBlock = some k from rfl)
                exact ⟨Nat.le_of_lt hgs, cs, .inr hc⟩
              have hrl2 : ∀ y : Ar, (R' ++ [y]).length = n + 1 := fun y => by rw [List.length_append, HRN.out.2]; rfl
              clear hc9 har HTT HM3 HSB3 HNEW HEXT HXE HRN t0 tj HLX HL HB1 HGR HB2 HCL HLO HCI HC0 HDB HAX HD HGC HCN HNJ hgs
              have hnn : n < n + 1 := by omega
              have hn2 : (n : Int) < (n : Int) + 1 := by omega
              go_wp2_with fail
              have HFE := HF.out
              clear HF
              generalize (R' ++ [(⟨x.lo, (m : Int), x.tg⟩ : Ar)]) = R9 at *
              refine ⟨⟨m + 1, O2, nb2, oa2, oc2, R9, .slice (some ⟨rg, 0, none⟩) (n + 1) rc2, rfl, ?_, ?_, HPF.out.2, ?_⟩, ?_⟩
              · go_num
              · clear HFE; omega
              · exact HFE
              · clear HFE HPF; simp [intOf]; omega
            case false =>
              have HNW : Hid (RI l (clv c) O.length a ((m + 1 : Nat) : Int) O2 (R ++ [⟨m, m, j⟩])) := HNEW.out (fun y hy e1 e2 => by
                rw [HRN.out.1] at hy
                simp at hy
                subst hy
                have := HTT.out.2 ⟨by rw [← HXE.out.1]; omega, by rw [← HXE.out.2]; exact e2⟩
                cases this)
              clear HTT HXE HRN HEXT HNEW k1
              go_upto_region 30 with fail
              generalize W2.drew = W3 at *
              have HS3 : ∀ V : World, Below W3.drew.heap.size W3.drew V → V.cell? ⟨sb, 0, none⟩ = some (.slice (some ⟨rg, 0, none⟩) (n + 1) rc2) ∧ V.cell? ⟨w2.heap.size, kk, none⟩ = some (.int .i64 (j : Int)) := fun V h2 => ⟨(h2.cell (p := ⟨sb, 0, none⟩) (World.block_lt_of_cell? _ _ t0)).trans t0, (h2.cell (p := ⟨w2.heap.size, kk, none⟩) (World.block_lt_of_cell? _ _ tj)).trans tj⟩
              obtain ⟨ia, hia, hza0, hza1, hza2⟩ := info_parts infoAr
              have BK : Below W3.drew.heap.size W3.drew (W3.drew.alloc (Obj.cells #[.int .i64 (m : Int), .int .i64 (m : Int), .int .i64 (j : Int)] 39)) := (Below.refl _ _).alloc (Nat.le_refl _) _
              have hAR := HSB3.out.1.ar
              unfold OwnA at hAR
              rw [hrl] at hAR
              have hw3 : w2.heap.size + 1 ≤ W3.drew.heap.size := Nat.le_trans HSB3.out.1.lo (Nat.le_of_lt (blk_lt HSB3.out.1.bx))
              obtain ⟨rv', wn, hap, ho4, hg4, _, hat4⟩ := run_append_own_at (P := Try.prog) (W3.drew.alloc (Obj.cells #[.int .i64 (m : Int), .int .i64 (m : Int), .int .i64 (j : Int)] 39)) (w2.heap.size + 1) 35 35 39 ia _ 3 24 Try.underlying35 hia hza0 hza1 hza2 rfl (by omega) (.slice (some ⟨rg, 0, none⟩) (n + 1) rc2) ((n + 1)) _ (own_below hAR (below_then (below_drewN (Below.refl _ _) 1) BK (Nat.le_refl _))) ⟨W3.drew.heap.size, 0, none⟩ 1 1 [.int .i64 (m : Int), .int .i64 (m : Int), .int .i64 (j : Int)] rfl (new_cell3 W3.drew _ _ _ _) (by simp [Value.oneCell']) (by unfold maxLen; omega) (by omega) (Nat.le_trans hw3 BK.size)
              have B4 : But (fun k => (Value.slice (some ⟨rg, 0, none⟩) (n + 1) rc2).ownBlock = some k) W3 wn := ((But.of_next (below_drewN (Below.refl _ _) 1)).trans (But.of_next BK)).trans (but_grown hg4 (fun r h => h))
              have HF : Hid (LM l.length (clv c) w2 ob O2 nb2 (.slice oa2 O2.length oc2) Z dv (wn.setCell ⟨sb, 0, none⟩ rv') ∧ SB w2 sb (R ++ [⟨m, m, j⟩]) rv' acc (wn.setCell ⟨sb, 0, none⟩ rv') ∧ RI l (clv c) O.length a ((m + 1 : Nat) : Int) O2 (R ++ [⟨m, m, j⟩]) ∧ O <+: O2 ∧ ∀ k, rv'.ownBlock = some k → sb < k) := by
                have hbx := HSB3.out.1.bx
                have hsz := blk_lt hbx
                have hD1 : But (fun k => k = sb ∨ (Value.slice (some ⟨rg, 0, none⟩) (n + 1) rc2).ownBlock = some k) W3 (wn.setCell ⟨sb, 0, none⟩ rv') := (B4.mono (fun k _ hk => .inr hk)).setCell _ _ (.inr (.inl rfl))
                refine ⟨HM3.out.but2 HSB3.out.1.lo HLX.out.1 HLX.out.2 hD1 (fun k hk => ?_), HSB3.out.1.add ⟨m, m, j⟩ B4 (by rw [hrl]; exact ho4), HNW.out, HPF.out.1, fun k hk => ?_⟩
                · rcases hk with rfl | hk
                  · exact ⟨Nat.le_refl _, _, .inl hbx⟩
                  · obtain ⟨cs, hc⟩ := own_is_cells hAR hk
                    exact ⟨Nat.le_of_lt (HSB3.out.2 k hk), cs, .inr hc⟩
                · rcases hat4 with h9 | h9
                  · exact HSB3.out.2 k (by rw [← h9]; exact hk)
                  · rw [h9] at hk
                    cases hk
                    have h8 : W3.drew.heap.size ≤ (W3.drew.alloc (Obj.cells #[.int .i64 (m : Int), .int .i64 (m : Int), .int .i64 (j : Int)] 39)).heap.size := BK.size
                    have h7 : W3.drew.heap.size = W3.heap.size := rfl
                    omega
              have hb4 := but_blk B4 HSB3.out.1.bx (fun e => own_nb hAR HSB3.out.1.bx (by decide) e)
              have fz4 : wn.frozen? ⟨sb, 0, none⟩ = false := Lib.frozen_of_heap hb4 _
              have HS4 : wn.cell? ⟨sb, 0, none⟩ = some (.slice (some ⟨rg, 0, none⟩) (n + 1) rc2) ∧ wn.cell? ⟨w2.heap.size, kk, none⟩ = some (.int .i64 (j : Int)) := ⟨by rw [Lib.cell_of_heap hb4]; rfl, (B4.cell (p := ⟨w2.heap.size, kk, none⟩) (World.block_lt_of_cell? _ _ tj) (fun e => by have h9 : w2.heap.size + 1 ≤ w2.heap.size := (World.ownsRow.lt hAR _ e).1; omega)).trans tj⟩
              obtain ⟨ra', rc', rfl⟩ := slice_of_ownK ho4
              clear ho4 hg4 hat4 B4 hb4 hAR hw3 HM3 HSB3 HNW hia hza0 hza1 hza2 HLX HL HB1 HGR HB2 HCL HLO HCI HC0 HDB HAX HD HGC HCN HNJ t0 tj
              refine wp_region_L (fun W => W.cell? ⟨sb, 0, none⟩ = some (.slice (some ⟨rg, 0, none⟩) (n + 1) rc2) ∧ W.cell? ⟨w2.heap.size, kk, none⟩ = some (.int .i64 (j : Int))) 12 (by kernel_rfl) 13 rfl ?_
              refine wpAnyL_take' (i := 0) (v := ?_) (oi := ⟨some 133, .fieldAddr 37 (.tmp 12) 0, 0, "ref.go:176", #[], none⟩) rfl (by kernel_rfl) (by kernel_rfl) (by kernel_rfl) (by kernel_rfl) rfl (fun _ _ _ h => h) (Or.inl ⟨by rfl, ?_⟩) (HS3 _ (Below.refl _ _)) ?_
              rotate_left
              · intro W hSW
                go_simp
                try with_reducible rfl
              simp only [Act.put, List.setIfInBounds_toArray, List.set_cons_zero, List.set_cons_succ]
              refine wpAnyL_take' (i := 1) (v := ?_) (oi := ⟨some 134, .load 35 (.tmp 133), 35, "ref.go:176", #[⟨0, .data⟩], none⟩) rfl (by kernel_rfl) (by kernel_rfl) (by kernel_rfl) (by kernel_rfl) rfl (fun _ _ _ h => h) (Or.inl ⟨by rfl, ?_⟩) (HS3 _ (Below.refl _ _)) ?_
              rotate_left
              · intro W hSW
                go_simp
                try with_reducible rfl
              simp only [Act.put, List.setIfInBounds_toArray, List.set_cons_zero, List.set_cons_succ]
              refine wpAnyL_take' (i := 2) (v := ?_) (oi := ⟨some 135, .move (.tmp 13), 3, "ref.go:176", #[], none⟩) rfl (by kernel_rfl) (by kernel_rfl) (by kernel_rfl) (by kernel_rfl) rfl (fun _ _ _ h => h) (Or.inl ⟨by rfl, ?_⟩) (HS3 _ (Below.refl _ _)) ?_
              rotate_left
              · intro W hSW
                go_simp
                try with_reducible rfl
              simp only [Act.put, List.setIfInBounds_toArray, List.set_cons_zero, List.set_cons_succ]
              refine wpAnyL_take' (i := 3) (v := ?_) (oi := ⟨some 136, .move (.tmp 13), 3, "ref.go:176", #[], none⟩) rfl (by kernel_rfl) (by kernel_rfl) (by kernel_rfl) (by kernel_rfl) rfl (fun _ _ _ h => h) (Or.inl ⟨by rfl, ?_⟩) (HS3 _ (Below.refl _ _)) ?_
              rotate_left
              · intro W hSW
                go_simp
                try with_reducible rfl
              simp only [Act.put, List.setIfInBounds_toArray, List.set_cons_zero, List.set_cons_succ]
              refine wpAnyL_take' (i := 4) (v := ?_) (oi := ⟨some 137, .move (.tmp 5), 57, "ref.go:176", #[], none⟩) rfl (by kernel_rfl) (by kernel_rfl) (by kernel_rfl) (by kernel_rfl) rfl (fun _ _ _ h => h) (Or.inl ⟨by rfl, ?_⟩) (HS3 _ (Below.refl _ _)) ?_
              rotate_left
              · intro W hSW
                go_simp
                try with_reducible rfl
              simp only [Act.put, List.setIfInBounds_toArray, List.set_cons_zero, List.set_cons_succ]
              refine wpAnyL_take' (i := 5) (v := ?_) (oi := ⟨some 138, .move (.tmp 14), 3, "ref.go:176", #[], none⟩) rfl (by kernel_rfl) (by kernel_rfl) (by kernel_rfl) (by kernel_rfl) rfl (fun _ _ _ h => h) (Or.inl ⟨by rfl, ?_⟩) (HS3 _ (Below.refl _ _)) ?_
              rotate_left
              · intro W hSW
                go_simp
                try with_reducible rfl
              simp only [Act.put, List.setIfInBounds_toArray, List.set_cons_zero, List.set_cons_succ]
              refine wpAnyL_take' (i := 6) (v := ?_) (oi := ⟨some 139, .indexAddr 57 (.tmp 137) (.tmp 138), 0, "ref.go:176", #[⟨4, .data⟩, ⟨5, .data⟩], none⟩) rfl (by kernel_rfl) (by kernel_rfl) (by kernel_rfl) (by kernel_rfl) rfl (fun _ _ _ h => h) (Or.inl ⟨by rfl, ?_⟩) (HS3 _ (Below.refl _ _)) ?_
              rotate_left
              · intro W hSW
                go_simp
                try with_reducible rfl
              simp only [Act.put, List.setIfInBounds_toArray, List.set_cons_zero, List.set_cons_succ]
              refine wpAnyL_take' (i := 7) (v := ?_) (oi := ⟨some 140, .load 3 (.tmp 139), 3, "ref.go:176", #[⟨6, .data⟩], none⟩) rfl (by kernel_rfl) (by kernel_rfl) (by kernel_rfl) (by kernel_rfl) rfl (fun _ _ _ h => h) (Or.inl ⟨by rfl, ?_⟩) (HS3 _ (Below.refl _ _)) ?_
              rotate_left
              · intro W hSW
                go_simp
                try with_reducible rfl
              simp only [Act.put, List.setIfInBounds_toArray, List.set_cons_zero, List.set_cons_succ]
              refine wpAnyL_take' (i := 8) (v := ?_) (oi := ⟨some 141, .build 39 #[(0, .tmp 135), (1, .tmp 136), (2, .tmp 140)], 39, "ref.go:176", #[⟨2, .data⟩, ⟨3, .data⟩, ⟨7, .data⟩], none⟩) rfl (by kernel_rfl) (by kernel_rfl) (by kernel_rfl) (by kernel_rfl) rfl (fun _ _ _ h => h) (Or.inl ⟨by rfl, ?_⟩) (HS3 _ (Below.refl _ _)) ?_
              rotate_left
              · intro W hSW
                go_simp
                try with_reducible rfl
              simp only [Act.put, List.setIfInBounds_toArray, List.set_cons_zero, List.set_cons_succ]
              refine wpAnyL_one' (i := 9) (o := ⟨some 142, .buildSlice 35 1 #[(0, .tmp 141)], 35, "ref.go:176", #[⟨8, .data⟩], none⟩) (by kernel_rfl) rfl rfl (fun K hK => ?_)
              go_simp
              refine hK.out _ _ (fun _ => HS3 _ BK) ?_
              clear hK
              try simp only [Act.put, List.setIfInBounds_toArray, List.set_cons_zero, List.set_cons_succ]
              refine wpAnyL_one' (i := 10) (o := ⟨some 143, .call ⟨.builtin .append, #[.tmp 134, .tmp 142], #[35, 35]⟩, 35, "ref.go:176", #[⟨1, .data⟩, ⟨9, .data⟩], none⟩) (by kernel_rfl) rfl rfl (fun K hK => ?_)
              refine step_append_runI rfl _ _ 35 35 rfl _ _ rfl rfl hap ?_
              refine hK.out _ _ (fun _ => HS4) ?_
              clear hK
              simp only [Act.put, List.setIfInBounds_toArray, List.set_cons_zero, List.set_cons_succ]
              refine wpAnyL_take' (i := 11) (v := ?_) (oi := ⟨some 144, .fieldAddr 37 (.tmp 12) 0, 0, "ref.go:176", #[⟨0, .phase⟩, ⟨1, .phase⟩, ⟨2, .phase⟩, ⟨3, .phase⟩, ⟨4, .phase⟩, ⟨5, .phase⟩, ⟨6, .phase⟩, ⟨7, .phase⟩, ⟨8, .phase⟩, ⟨9, .phase⟩, ⟨10, .phase⟩], none⟩) rfl (by kernel_rfl) (by kernel_rfl) (by kernel_rfl) (by kernel_rfl) rfl (fun _ _ _ h => h) (Or.inl ⟨by rfl, ?_⟩) HS4 ?_
              rotate_left
              · intro W hSW
                go_simp
                try with_reducible rfl
              simp only [Act.put, List.setIfInBounds_toArray, List.set_cons_zero, List.set_cons_succ]
              refine wpAnyL_one' (i := 12) (o := ⟨none, .store 35 (.tmp 144) (.tmp 143), 0, "ref.go:176", #[⟨11, .data⟩, ⟨10, .data⟩, ⟨10, .chain⟩, ⟨0, .phase⟩, ⟨1, .phase⟩, ⟨2, .phase⟩, ⟨3, .phase⟩, ⟨4, .phase⟩, ⟨5, .phase⟩, ⟨6, .phase⟩, ⟨7, .phase⟩, ⟨8, .phase⟩, ⟨9, .phase⟩, ⟨10, .phase⟩], none⟩) (by kernel_rfl) rfl rfl (fun K hK => ?_)
              go_simp
              refine hK.out _ _ (fun h => absurd h (by decide)) ?_
              clear hK
              refine wpAnyL_done (by kernel_rfl) ?_ _
              clear HS3 HS4 fz4 hap BK
              go_wp2_with fail
              have HFE := HF.out
              clear HF
              generalize (R ++ [(⟨(m : Int), (m : Int), (j : Int)⟩ : Ar)]) = R9 at *
              refine ⟨⟨m + 1, O2, nb2, oa2, oc2, R9, .slice ra' ((n + 1) + 1) rc', rfl, ?_, ?_, HPF.out.2, ?_⟩, ?_⟩
              · go_num
              · clear HFE; omega
              · exact HFE
              · clear HFE HPF; simp [intOf]; omega
        case pos =>
          obtain ⟨hn1, hn2⟩ := hnew
          have hjv : nb'[kk]'hkb = (-1 : Int) := by
            rw [List.getElem?_eq_getElem hkb] at hn1
            exact Option.some.inj hn1
          rw [hjv] at k1
          have d3 : decide ((-1 : Int) < 0) = true := by decide
          obtain ⟨g, rfl⟩ : ∃ g, oa' = some ⟨g, 0, none⟩ := by
            have hpo := HRI2.out.oi.pos
            rcases HI.out.1.ord.2 with ⟨h1, h2⟩ | ⟨g, cap, cur, h1, _⟩
            · omega
            · cases h1; exact ⟨g, rfl⟩
          have HW1 : Hid (∀ W, W = wz.setCell ⟨w2.heap.size, kk, none⟩ (.int .i64 (O'.length : Int)) → RwL w2 (nb'.set kk (O'.length : Int)) W ∧ W.ownsRow (w2.heap.size + 1) 3 1 (.slice (some ⟨g, 0, none⟩) O'.length oc') O'.length (O'.map encI)) := fun W hW => by
            have h := HI.out.1
            refine ⟨by rw [hW]; exact h.num.put kk _, ?_⟩
            rw [hW]
            exact ownsRow_keep h.ord ((But.refl (fun k => k = w2.heap.size) wz).setCell _ _ (.inr rfl)) (fun k hk e => by have := (World.ownsRow.lt h.ord k hk).1; omega)
          have HQ9 : Hid (0 ≤ q ∧ q < l.length) := by
            refine ⟨?_, HQ.out.1.2⟩
            apply Classical.byContradiction
            intro hneg
            have h9 := HQE.out.2
            unfold clv at h9
            rw [if_pos (show q < 0 by omega)] at h9
            omega
          clear d2 hjv hn1 HNK
          go_upto_region 26 with fail
          obtain ⟨hr1, ho1⟩ := HW1.out _ rfl
          obtain ⟨W1, hW1⟩ : ∃ W1, W1 = wz.setCell ⟨w2.heap.size, kk, none⟩ (.int .i64 (O'.length : Int)) := ⟨_, rfl⟩
          rw [← hW1] at hr1 ho1 ⊢
          have HWE : Hid (W1 = wz.setCell ⟨w2.heap.size, kk, none⟩ (.int .i64 (O'.length : Int))) := hW1
          have HR1 : Hid (RwL w2 (nb'.set kk (O'.length : Int)) W1) := hr1
          clear HW1 hW1 k1 k2 d3
          obtain ⟨⟨b0, _⟩, hbw⟩ := HDB.out W1 hr1.bel
          obtain ⟨g0, g1⟩ := HGC.out W1 hbw
          have g2 := g1 m hlm
          rw [HQE.out.1] at g2
          obtain ⟨ii, hii, hz0, hz1, hz2⟩ := info_parts info3
          have bA : Below W1.heap.size W1 (W1.alloc (Obj.cells #[.int .i64 q] 3)) := below_box _ _ _
          have hnw := new_cell W1 (.int .i64 q) 3
          have hON := own_below ho1 bA
          have hszn : w2.heap.size + 1 ≤ (W1.alloc (Obj.cells #[.int .i64 q] 3)).heap.size := by
            have h1 := (World.ownsRow.lt hr1.row w2.heap.size rfl).2
            have h2 := bA.size
            omega
          have HBA : Hid (Below W1.heap.size W1 (W1.alloc (Obj.cells #[.int .i64 q] 3))) := bA
          clear bA hbw g1 hr1 ho1
          go_wp2_with (at_builtin; refine wpList_append_own_at _ rfl _ _ 57 rfl (w2.heap.size + 1) 3 ii _ 1 8 Try.underlying57 hii hz0 hz1 hz2 rfl (by omega) _ _ _ rfl hON ⟨W1.heap.size, 0, none⟩ 1 1 [.int .i64 q] rfl rfl hnw (by simp [Value.oneCell']) (by unfold maxLen; omega) (by omega) hszn ?_)
          intro v' w8 ho8 hg8 _ hat8
          have b08 : But (fun k => (Value.slice (some ⟨g, 0, none⟩) O'.length oc').ownBlock = some k) W1 w8 := (But.of_next HBA.out).trans (but_grown hg8 (fun r h => h))
          have hpu := HI.out.1.push (x := q) (k := kk) HQE.out.2 hkn hn2 HWE.out b08 ho8
          have HM : Hid (LM l.length (clv c) w2 ob (O' ++ [q]) (nb'.set kk (O'.length : Int)) v' Z dv w8) := hpu.1
          have HSB : Hid (SB w2 sb R rv acc w8 ∧ ∀ k, rv.ownBlock = some k → sb < k) := ⟨HI.out.2.1.but hpu.2 HI.out.1.ints, HI.out.2.2.2.2⟩
          have HNJ : Hid (∀ W, Below w8.heap.size w8 W → W.cell? ⟨w2.heap.size, kk, none⟩ = some (.int .i64 (O'.length : Int))) := fun W hW => by
            have hks : kk < (nb'.set kk (O'.length : Int)).length := by rw [List.length_set]; exact hkb
            have h9 := (HM.out.num.facts hks).1
            rw [List.getElem_set_self] at h9
            exact (hW.cell (p := ⟨w2.heap.size, kk, none⟩) (World.block_lt_of_cell? _ _ h9)).trans h9
          have HAD : Hid (RI l (clv c) O.length a ((m + 1 : Nat) : Int) (O' ++ [q]) (R ++ [⟨m, m, O'.length⟩])) := by
            have h9 := HRI2.out.add (by omega) (by omega) (by rw [HQE.out.1]; exact HQ9.out.1) (by rw [HQE.out.1]; exact HQ9.out.2) h09 HP0.out (fun b hb => by rw [HCQ.out]; exact hn2 b hb)
            rw [HQE.out.1] at h9
            show RI _ _ _ _ _ _ _
            push_cast
            exact h9
          have HPF : Hid (O <+: O' ++ [q] ∧ (O' ++ [q]).length ≤ l.length) := ⟨HI.out.2.2.2.1.trans ⟨[q], rfl⟩, HAD.out.oi.small⟩
          have HEXT : Hid (∀ (R' : List Ar) (x : Ar), R = R' ++ [x] → x.hi + 1 = (m : Int) → x.tg = (O'.length : Int) → RI l (clv c) O.length a ((m + 1 : Nat) : Int) (O' ++ [q]) (R' ++ [⟨x.lo, m, x.tg⟩])) := fun R' x e h1 h2 => by
            obtain ⟨j', b', e1, e2, _⟩ := HRI2.out.ar.tgs (x := x) (by rw [e]; simp)
            have := (List.getElem?_eq_some_iff.1 e2).1
            omega
          have HNEW : Hid ((∀ x, R.getLast? = some x → x.hi + 1 = (m : Int) → x.tg ≠ (O'.length : Int)) → RI l (clv c) O.length a ((m + 1 : Nat) : Int) (O' ++ [q]) (R ++ [⟨m, m, O'.length⟩])) := fun _ => HAD.out
          have hO2l : (O' ++ [q]).length = O'.length + 1 := by simp
          obtain ⟨oa2, oc2, rfl⟩ := slice_of_ownK ho8
          clear hpu ho8 hg8 hat8 b08 hON hnw HBA hszn HI HRI2 HR1 HWE HCQ HQ HQ9 HQE HP0 HAD b0 g0 g2 h09 hn2 hnl hii hz0 hz1 hz2
          go_upto_region 27 with fail
          rw [← hO2l] at HM ⊢
          clear hO2l
          generalize O' ++ [q] = O2 at *
          generalize nb'.set kk (O'.length : Int) = nb2 at *
          generalize O'.length = j at *
          generalize w8 = W2 at *
          obtain ⟨ra, rc2, rfl⟩ := slice_of_ownK HSB.out.1.ar
          have s0 : W2.cell? ⟨sb, 0, none⟩ = some (.slice ra R.length rc2) := by rw [Lib.cell_of_heap HSB.out.1.bx]; rfl
          have hrl0 : R.length ≤ 256 := HRL.out
          rcases List.eq_nil_or_concat R with hR | ⟨R', x, hR⟩
          · have hrl : R.length = 0 := by rw [hR]; rfl
            rw [hrl] at s0 HSB
            have hw : wrap64 (((0 : Nat) : Int) - 1) = -1 := by rw [IntWalk.wrap64_in _ (by omega)]; rfl
            have hw' : wrap64 ((0 : Int) - 1) = -1 := by rw [IntWalk.wrap64_in _ (by omega)]; rfl
            have HNW : Hid (RI l (clv c) O.length a ((m + 1 : Nat) : Int) O2 (R ++ [⟨m, m, j⟩])) := HNEW.out (fun x hx => by rw [hR] at hx; cases hx)
            have bd : Below W2.heap.size W2 W2.drew := below_drewN (Below.refl _ _) 1
            have HT : W2.drew.cell? ⟨sb, 0, none⟩ = some (.slice ra 0 rc2) := s0
            have HM3 : Hid (LM l.length (clv c) w2 ob O2 nb2 (.slice oa2 O2.length oc2) Z dv W2.drew) := HM.out.next bd
            have HSB3 : Hid (SB w2 sb R (.slice ra 0 rc2) acc W2.drew ∧ ∀ k, (Value.slice ra 0 rc2).ownBlock = some k → sb < k) := ⟨HSB.out.1.next bd, HSB.out.2⟩
            have t0 : W2.drew.drew.cell? ⟨sb, 0, none⟩ = some (.slice ra 0 rc2) := s0
            have tj : W2.drew.drew.cell? ⟨w2.heap.size, kk, none⟩ = some (.int .i64 (j : Int)) := HNJ.out _ (below_drewN bd 1)
            clear hR HEXT HNEW HM HSB bd
            go_upto_region 28 with fail
            try rw [hw']
            refine wp_region_L (fun W => W.cell? ⟨sb, 0, none⟩ = some (.slice ra 0 rc2)) 26 (by kernel_rfl) 26 rfl ?_
            refine wpAnyL_take' (i := 0) (v := ?_) (oi := ⟨some 101, .move (.tmp 15), 3, "ref.go:173", #[], none⟩) rfl (by kernel_rfl) (by kernel_rfl) (by kernel_rfl) (by kernel_rfl) rfl (fun _ _ _ h => h) (Or.inl ⟨by rfl, ?_⟩) HT ?_
            rotate_left
            · intro W hSW
              go_simp
              try with_reducible rfl
            simp only [Act.put, List.setIfInBounds_toArray, List.set_cons_zero, List.set_cons_succ]
            refine wpAnyL_take' (i := 1) (v := ?_) (oi := ⟨some 102, .binOp .geq 3 (.tmp 101) (.const (.int .i64 0)) 3, 4, "ref.go:173", #[⟨0, .data⟩], none⟩) rfl (by kernel_rfl) (by kernel_rfl) (by kernel_rfl) (by kernel_rfl) rfl (fun _ _ _ h => h) (Or.inl ⟨by rfl, ?_⟩) HT ?_
            rotate_left
            · intro W hSW
              go_simp
              try with_reducible rfl
            simp only [Act.put, List.setIfInBounds_toArray, List.set_cons_zero, List.set_cons_succ]
            refine wpAnyL_take' (i := 2) (v := ?_) (oi := ⟨some 103, .move (.tmp 102), 4, "ref.go:173", #[⟨1, .data⟩], none⟩) rfl (by kernel_rfl) (by kernel_rfl) (by kernel_rfl) (by kernel_rfl) rfl (fun _ _ _ h => h) (Or.inl ⟨by rfl, ?_⟩) HT ?_
            rotate_left
            · intro W hSW
              go_simp
              try with_reducible rfl
            simp only [Act.put, List.setIfInBounds_toArray, List.set_cons_zero, List.set_cons_succ]
            refine wpAnyL_take' (i := 3) (v := undef) (oi := ⟨some 104, .fieldAddr 37 (.tmp 12) 0, 0, "ref.go:173", #[⟨2, .guard⟩], some (2, true)⟩) rfl (by kernel_rfl) (by kernel_rfl) (by kernel_rfl) (by kernel_rfl) rfl (fun _ _ _ h => h) (Or.inr ⟨by rfl, rfl⟩) HT ?_
            simp only [Act.put, List.setIfInBounds_toArray, List.set_cons_zero, List.set_cons_succ]
            refine wpAnyL_take' (i := 4) (v := undef) (oi := ⟨some 105, .load 35 (.tmp 104), 35, "ref.go:173", #[⟨3, .data⟩, ⟨2, .guard⟩], some (2, true)⟩) rfl (by kernel_rfl) (by kernel_rfl) (by kernel_rfl) (by kernel_rfl) rfl (fun _ _ _ h => h) (Or.inr ⟨by rfl, rfl⟩) HT ?_
            simp only [Act.put, List.setIfInBounds_toArray, List.set_cons_zero, List.set_cons_succ]
            refine wpAnyL_take' (i := 5) (v := undef) (oi := ⟨some 106, .move (.tmp 15), 3, "ref.go:173", #[⟨2, .guard⟩], some (2, true)⟩) rfl (by kernel_rfl) (by kernel_rfl) (by kernel_rfl) (by kernel_rfl) rfl (fun _ _ _ h => h) (Or.inr ⟨by rfl, rfl⟩) HT ?_
            simp only [Act.put, List.setIfInBounds_toArray, List.set_cons_zero, List.set_cons_succ]
            refine wpAnyL_take' (i := 6) (v := undef) (oi := ⟨some 107, .indexAddr 35 (.tmp 105) (.tmp 106), 0, "ref.go:173", #[⟨4, .data⟩, ⟨5, .data⟩, ⟨2, .guard⟩], some (2, true)⟩) rfl (by kernel_rfl) (by kernel_rfl) (by kernel_rfl) (by kernel_rfl) rfl (fun _ _ _ h => h) (Or.inr ⟨by rfl, rfl⟩) HT ?_
            simp only [Act.put, List.setIfInBounds_toArray, List.set_cons_zero, List.set_cons_succ]
            refine wpAnyL_take' (i := 7) (v := undef) (oi := ⟨some 108, .fieldAddr 39 (.tmp 107) 1, 0, "ref.go:173", #[⟨6, .data⟩, ⟨2, .guard⟩], some (2, true)⟩) rfl (by kernel_rfl) (by kernel_rfl) (by kernel_rfl) (by kernel_rfl) rfl (fun _ _ _ h => h) (Or.inr ⟨by rfl, rfl⟩) HT ?_
            simp only [Act.put, List.setIfInBounds_toArray, List.set_cons_zero, List.set_cons_succ]
            refine wpAnyL_take' (i := 8) (v := undef) (oi := ⟨some 109, .load 3 (.tmp 108), 3, "ref.go:173", #[⟨7, .data⟩, ⟨2, .guard⟩], some (2, true)⟩) rfl (by kernel_rfl) (by kernel_rfl) (by kernel_rfl) (by kernel_rfl) rfl (fun _ _ _ h => h) (Or.inr ⟨by rfl, rfl⟩) HT ?_
            simp only [Act.put, List.setIfInBounds_toArray, List.set_cons_zero, List.set_cons_succ]
            refine wpAnyL_take' (i := 9) (v := undef) (oi := ⟨some 110, .move (.tmp 13), 3, "ref.go:173", #[⟨2, .guard⟩], some (2, true)⟩) rfl (by kernel_rfl) (by kernel_rfl) (by kernel_rfl) (by kernel_rfl) rfl (fun _ _ _ h => h) (Or.inr ⟨by rfl, rfl⟩) HT ?_
            simp only [Act.put, List.setIfInBounds_toArray, List.set_cons_zero, List.set_cons_succ]
            refine wpAnyL_take' (i := 10) (v := undef) (oi := ⟨some 111, .binOp .sub 3 (.tmp 110) (.const (.int .i64 1)) 3, 3, "ref.go:173", #[⟨9, .data⟩, ⟨2, .guard⟩], some (2, true)⟩) rfl (by kernel_rfl) (by kernel_rfl) (by kernel_rfl) (by kernel_rfl) rfl (fun _ _ _ h => h) (Or.inr ⟨by rfl, rfl⟩) HT ?_
            simp only [Act.put, List.setIfInBounds_toArray, List.set_cons_zero, List.set_cons_succ]
            refine wpAnyL_take' (i := 11) (v := undef) (oi := ⟨some 112, .binOp .eql 3 (.tmp 109) (.tmp 111) 3, 4, "ref.go:173", #[⟨8, .data⟩, ⟨10, .data⟩, ⟨2, .guard⟩], some (2, true)⟩) rfl (by kernel_rfl) (by kernel_rfl) (by kernel_rfl) (by kernel_rfl) rfl (fun _ _ _ h => h) (Or.inr ⟨by rfl, rfl⟩) HT ?_
            simp only [Act.put, List.setIfInBounds_toArray, List.set_cons_zero, List.set_cons_succ]
            refine wpAnyL_take' (i := 12) (v := ?_) (oi := ⟨some 113, .pick (.tmp 103) (.tmp 112) (.const (.bool false)), 4, "ref.go:173", #[⟨2, .data⟩, ⟨11, .data⟩], none⟩) rfl (by kernel_rfl) (by kernel_rfl) (by kernel_rfl) (by kernel_rfl) rfl (fun _ _ _ h => h) (Or.inl ⟨by rfl, ?_⟩) HT ?_
            rotate_left
            · intro W hSW
              go_simp
              try with_reducible rfl
            simp only [Act.put, List.setIfInBounds_toArray, List.set_cons_zero, List.set_cons_succ]
            refine wpAnyL_take' (i := 13) (v := ?_) (oi := ⟨some 114, .move (.tmp 113), 4, "ref.go:173", #[⟨12, .data⟩, ⟨2, .chain⟩], none⟩) rfl (by kernel_rfl) (by kernel_rfl) (by kernel_rfl) (by kernel_rfl) rfl (fun _ _ _ h => h) (Or.inl ⟨by rfl, ?_⟩) HT ?_
            rotate_left
            · intro W hSW
              go_simp
              try with_reducible rfl
            simp only [Act.put, List.setIfInBounds_toArray, List.set_cons_zero, List.set_cons_succ]
            refine wpAnyL_take' (i := 14) (v := undef) (oi := ⟨some 115, .fieldAddr 37 (.tmp 12) 0, 0, "ref.go:173", #[⟨13, .guard⟩], some (13, true)⟩) rfl (by kernel_rfl) (by kernel_rfl) (by kernel_rfl) (by kernel_rfl) rfl (fun _ _ _ h => h) (Or.inr ⟨by rfl, rfl⟩) HT ?_
            simp only [Act.put, List.setIfInBounds_toArray, List.set_cons_zero, List.set_cons_succ]
            refine wpAnyL_take' (i := 15) (v := undef) (oi := ⟨some 116, .load 35 (.tmp 115), 35, "ref.go:173", #[⟨14, .data⟩, ⟨13, .guard⟩], some (13, true)⟩) rfl (by kernel_rfl) (by kernel_rfl) (by kernel_rfl) (by kernel_rfl) rfl (fun _ _ _ h => h) (Or.inr ⟨by rfl, rfl⟩) HT ?_
            simp only [Act.put, List.setIfInBounds_toArray, List.set_cons_zero, List.set_cons_succ]
            refine wpAnyL_take' (i := 16) (v := undef) (oi := ⟨some 117, .move (.tmp 15), 3, "ref.go:173", #[⟨13, .guard⟩], some (13, true)⟩) rfl (by kernel_rfl) (by kernel_rfl) (by kernel_rfl) (by kernel_rfl) rfl (fun _ _ _ h => h) (Or.inr ⟨by rfl, rfl⟩) HT ?_
            simp only [Act.put, List.setIfInBounds_toArray, List.set_cons_zero, List.set_cons_succ]
            refine wpAnyL_take' (i := 17) (v := undef) (oi := ⟨some 118, .indexAddr 35 (.tmp 116) (.tmp 117), 0, "ref.go:173", #[⟨15, .data⟩, ⟨16, .data⟩, ⟨13, .guard⟩], some (13, true)⟩) rfl (by kernel_rfl) (by kernel_rfl) (by kernel_rfl) (by kernel_rfl) rfl (fun _ _ _ h => h) (Or.inr ⟨by rfl, rfl⟩) HT ?_
            simp only [Act.put, List.setIfInBounds_toArray, List.set_cons_zero, List.set_cons_succ]
            refine wpAnyL_take' (i := 18) (v := undef) (oi := ⟨some 119, .fieldAddr 39 (.tmp 118) 2, 0, "ref.go:173", #[⟨17, .data⟩, ⟨13, .guard⟩], some (13, true)⟩) rfl (by kernel_rfl) (by kernel_rfl) (by kernel_rfl) (by kernel_rfl) rfl (fun _ _ _ h => h) (Or.inr ⟨by rfl, rfl⟩) HT ?_
            simp only [Act.put, List.setIfInBounds_toArray, List.set_cons_zero, List.set_cons_succ]
            refine wpAnyL_take' (i := 19) (v := undef) (oi := ⟨some 120, .load 3 (.tmp 119), 3, "ref.go:173", #[⟨18, .data⟩, ⟨13, .guard⟩], some (13, true)⟩) rfl (by kernel_rfl) (by kernel_rfl) (by kernel_rfl) (by kernel_rfl) rfl (fun _ _ _ h => h) (Or.inr ⟨by rfl, rfl⟩) HT ?_
            simp only [Act.put, List.setIfInBounds_toArray, List.set_cons_zero, List.set_cons_succ]
            refine wpAnyL_take' (i := 20) (v := undef) (oi := ⟨some 121, .move (.tmp 5), 57, "ref.go:173", #[⟨13, .guard⟩], some (13, true)⟩) rfl (by kernel_rfl) (by kernel_rfl) (by kernel_rfl) (by kernel_rfl) rfl (fun _ _ _ h => h) (Or.inr ⟨by rfl, rfl⟩) HT ?_
            simp only [Act.put, List.setIfInBounds_toArray, List.set_cons_zero, List.set_cons_succ]
            refine wpAnyL_take' (i := 21) (v := undef) (oi := ⟨some 122, .move (.tmp 14), 3, "ref.go:173", #[⟨13, .guard⟩], some (13, true)⟩) rfl (by kernel_rfl) (by kernel_rfl) (by kernel_rfl) (by kernel_rfl) rfl (fun _ _ _ h => h) (Or.inr ⟨by rfl, rfl⟩) HT ?_
            simp only [Act.put, List.setIfInBounds_toArray, List.set_cons_zero, List.set_cons_succ]
            refine wpAnyL_take' (i := 22) (v := undef) (oi := ⟨some 123, .indexAddr 57 (.tmp 121) (.tmp 122), 0, "ref.go:173", #[⟨20, .data⟩, ⟨21, .data⟩, ⟨13, .guard⟩], some (13, true)⟩) rfl (by kernel_rfl) (by kernel_rfl) (by kernel_rfl) (by kernel_rfl) rfl (fun _ _ _ h => h) (Or.inr ⟨by rfl, rfl⟩) HT ?_
            simp only [Act.put, List.setIfInBounds_toArray, List.set_cons_zero, List.set_cons_succ]
            refine wpAnyL_take' (i := 23) (v := undef) (oi := ⟨some 124, .load 3 (.tmp 123), 3, "ref.go:173", #[⟨22, .data⟩, ⟨13, .guard⟩], some (13, true)⟩) rfl (by kernel_rfl) (by kernel_rfl) (by kernel_rfl) (by kernel_rfl) rfl (fun _ _ _ h => h) (Or.inr ⟨by rfl, rfl⟩) HT ?_
            simp only [Act.put, List.setIfInBounds_toArray, List.set_cons_zero, List.set_cons_succ]
            refine wpAnyL_take' (i := 24) (v := undef) (oi := ⟨some 125, .binOp .eql 3 (.tmp 120) (.tmp 124) 3, 4, "ref.go:173", #[⟨19, .data⟩, ⟨23, .data⟩, ⟨13, .guard⟩], some (13, true)⟩) rfl (by kernel_rfl) (by kernel_rfl) (by kernel_rfl) (by kernel_rfl) rfl (fun _ _ _ h => h) (Or.inr ⟨by rfl, rfl⟩) HT ?_
            simp only [Act.put, List.setIfInBounds_toArray, List.set_cons_zero, List.set_cons_succ]
            refine wpAnyL_take' (i := 25) (v := ?_) (oi := ⟨some 126, .pick (.tmp 114) (.tmp 125) (.const (.bool false)), 4, "ref.go:173", #[⟨13, .data⟩, ⟨24, .data⟩], none⟩) rfl (by kernel_rfl) (by kernel_rfl) (by kernel_rfl) (by kernel_rfl) rfl (fun _ _ _ h => h) (Or.inl ⟨by rfl, ?_⟩) HT ?_
            rotate_left
            · intro W hSW
              go_simp
              try with_reducible rfl
            simp only [Act.put, List.setIfInBounds_toArray, List.set_cons_zero, List.set_cons_succ]
            refine wpAnyL_done (by kernel_rfl) ?_ _
            clear HT s0 hw hw'
            go_upto_region 30 with fail
            generalize W2.drew = W3 at *
            have HS3 : ∀ V : World, Below W3.drew.heap.size W3.drew V → V.cell? ⟨sb, 0, none⟩ = some (.slice ra 0 rc2) ∧ V.cell? ⟨w2.heap.size, kk, none⟩ = some (.int .i64 (j : Int)) := fun V h2 => ⟨(h2.cell (p := ⟨sb, 0, none⟩) (World.block_lt_of_cell? _ _ t0)).trans t0, (h2.cell (p := ⟨w2.heap.size, kk, none⟩) (World.block_lt_of_cell? _ _ tj)).trans tj⟩
            obtain ⟨ia, hia, hza0, hza1, hza2⟩ := info_parts infoAr
            have BK : Below W3.drew.heap.size W3.drew (W3.drew.alloc (Obj.cells #[.int .i64 (m : Int), .int .i64 (m : Int), .int .i64 (j : Int)] 39)) := (Below.refl _ _).alloc (Nat.le_refl _) _
            have hAR := HSB3.out.1.ar
            unfold OwnA at hAR
            rw [hrl] at hAR
            have hw3 : w2.heap.size + 1 ≤ W3.drew.heap.size := Nat.le_trans HSB3.out.1.lo (Nat.le_of_lt (blk_lt HSB3.out.1.bx))
            obtain ⟨rv', wn, hap, ho4, hg4, _, hat4⟩ := run_append_own_at (P := Try.prog) (W3.drew.alloc (Obj.cells #[.int .i64 (m : Int), .int .i64 (m : Int), .int .i64 (j : Int)] 39)) (w2.heap.size + 1) 35 35 39 ia _ 3 24 Try.underlying35 hia hza0 hza1 hza2 rfl (by omega) (.slice ra 0 rc2) (0) _ (own_below hAR (below_then (below_drewN (Below.refl _ _) 1) BK (Nat.le_refl _))) ⟨W3.drew.heap.size, 0, none⟩ 1 1 [.int .i64 (m : Int), .int .i64 (m : Int), .int .i64 (j : Int)] rfl (new_cell3 W3.drew _ _ _ _) (by simp [Value.oneCell']) (by unfold maxLen; omega) (by omega) (Nat.le_trans hw3 BK.size)
            have B4 : But (fun k => (Value.slice ra 0 rc2).ownBlock = some k) W3 wn := ((But.of_next (below_drewN (Below.refl _ _) 1)).trans (But.of_next BK)).trans (but_grown hg4 (fun r h => h))
            have HF : Hid (LM l.length (clv c) w2 ob O2 nb2 (.slice oa2 O2.length oc2) Z dv (wn.setCell ⟨sb, 0, none⟩ rv') ∧ SB w2 sb (R ++ [⟨m, m, j⟩]) rv' acc (wn.setCell ⟨sb, 0, none⟩ rv') ∧ RI l (clv c) O.length a ((m + 1 : Nat) : Int) O2 (R ++ [⟨m, m, j⟩]) ∧ O <+: O2 ∧ ∀ k, rv'.ownBlock = some k → sb < k) := by
              have hbx := HSB3.out.1.bx
              have hsz := blk_lt hbx
              have hD1 : But (fun k => k = sb ∨ (Value.slice ra 0 rc2).ownBlock = some k) W3 (wn.setCell ⟨sb, 0, none⟩ rv') := (B4.mono (fun k _ hk => .inr hk)).setCell _ _ (.inr (.inl rfl))
              refine ⟨HM3.out.but2 HSB3.out.1.lo HLX.out.1 HLX.out.2 hD1 (fun k hk => ?_), HSB3.out.1.add ⟨m, m, j⟩ B4 (by rw [hrl]; exact ho4), HNW.out, HPF.out.1, fun k hk => ?_⟩
              · rcases hk with rfl | hk
                · exact ⟨Nat.le_refl _, _, .inl hbx⟩
                · obtain ⟨cs, hc⟩ := own_is_cells hAR hk
                  exact ⟨Nat.le_of_lt (HSB3.out.2 k hk), cs, .inr hc⟩
              · rcases hat4 with h9 | h9
                · exact HSB3.out.2 k (by rw [← h9]; exact hk)
                · rw [h9] at hk
                  cases hk
                  have h8 : W3.drew.heap.size ≤ (W3.drew.alloc (Obj.cells #[.int .i64 (m : Int), .int .i64 (m : Int), .int .i64 (j : Int)] 39)).heap.size := BK.size
                  have h7 : W3.drew.heap.size = W3.heap.size := rfl
                  omega
            have hb4 := but_blk B4 HSB3.out.1.bx (fun e => own_nb hAR HSB3.out.1.bx (by decide) e)
            have fz4 : wn.frozen? ⟨sb, 0, none⟩ = false := Lib.frozen_of_heap hb4 _
            have HS4 : wn.cell? ⟨sb, 0, none⟩ = some (.slice ra 0 rc2) ∧ wn.cell? ⟨w2.heap.size, kk, none⟩ = some (.int .i64 (j : Int)) := ⟨by rw [Lib.cell_of_heap hb4]; rfl, (B4.cell (p := ⟨w2.heap.size, kk, none⟩) (World.block_lt_of_cell? _ _ tj) (fun e => by have h9 : w2.heap.size + 1 ≤ w2.heap.size := (World.ownsRow.lt hAR _ e).1; omega)).trans tj⟩
            obtain ⟨ra', rc', rfl⟩ := slice_of_ownK ho4
            clear ho4 hg4 hat4 B4 hb4 hAR hw3 HM3 HSB3 HNW hia hza0 hza1 hza2 HLX HL HB1 HGR HB2 HCL HLO HCI HC0 HDB HAX HD HGC HCN HNJ t0 tj
            refine wp_region_L (fun W => W.cell? ⟨sb, 0, none⟩ = some (.slice ra 0 rc2) ∧ W.cell? ⟨w2.heap.size, kk, none⟩ = some (.int .i64 (j : Int))) 12 (by kernel_rfl) 13 rfl ?_
            refine wpAnyL_take' (i := 0) (v := ?_) (oi := ⟨some 133, .fieldAddr 37 (.tmp 12) 0, 0, "ref.go:176", #[], none⟩) rfl (by kernel_rfl) (by kernel_rfl) (by kernel_rfl) (by kernel_rfl) rfl (fun _ _ _ h => h) (Or.inl ⟨by rfl, ?_⟩) (HS3 _ (Below.refl _ _)) ?_
            rotate_left
            · intro W hSW
              go_simp
              try with_reducible rfl
            simp only [Act.put, List.setIfInBounds_toArray, List.set_cons_zero, List.set_cons_succ]
            refine wpAnyL_take' (i := 1) (v := ?_) (oi := ⟨some 134, .load 35 (.tmp 133), 35, "ref.go:176", #[⟨0, .data⟩], none⟩) rfl (by kernel_rfl) (by kernel_rfl) (by kernel_rfl) (by kernel_rfl) rfl (fun _ _ _ h => h) (Or.inl ⟨by rfl, ?_⟩) (HS3 _ (Below.refl _ _)) ?_
            rotate_left
            · intro W hSW
              go_simp
              try with_reducible rfl
            simp only [Act.put, List.setIfInBounds_toArray, List.set_cons_zero, List.set_cons_succ]
            refine wpAnyL_take' (i := 2) (v := ?_) (oi := ⟨some 135, .move (.tmp 13), 3, "ref.go:176", #[], none⟩) rfl (by kernel_rfl) (by kernel_rfl) (by kernel_rfl) (by kernel_rfl) rfl (fun _ _ _ h => h) (Or.inl ⟨by rfl, ?_⟩) (HS3 _ (Below.refl _ _)) ?_
            rotate_left
            · intro W hSW
              go_simp
              try with_reducible rfl
            simp only [Act.put, List.setIfInBounds_toArray, List.set_cons_zero, List.set_cons_succ]
            refine wpAnyL_take' (i := 3) (v := ?_) (oi := ⟨some 136, .move (.tmp 13), 3, "ref.go:176", #[], none⟩) rfl (by kernel_rfl) (by kernel_rfl) (by kernel_rfl) (by kernel_rfl) rfl (fun _ _ _ h => h) (Or.inl ⟨by rfl, ?_⟩) (HS3 _ (Below.refl _ _)) ?_
            rotate_left
            · intro W hSW
              go_simp
              try with_reducible rfl
            simp only [Act.put, List.setIfInBounds_toArray, List.set_cons_zero, List.set_cons_succ]
            refine wpAnyL_take' (i := 4) (v := ?_) (oi := ⟨some 137, .move (.tmp 5), 57, "ref.go:176", #[], none⟩) rfl (by kernel_rfl) (by kernel_rfl) (by kernel_rfl) (by kernel_rfl) rfl (fun _ _ _ h => h) (Or.inl ⟨by rfl, ?_⟩) (HS3 _ (Below.refl _ _)) ?_
            rotate_left
            · intro W hSW
              go_simp
              try with_reducible rfl
            simp only [Act.put, List.setIfInBounds_toArray, List.set_cons_zero, List.set_cons_succ]
            refine wpAnyL_take' (i := 5) (v := ?_) (oi := ⟨some 138, .move (.tmp 14), 3, "ref.go:176", #[], none⟩) rfl (by kernel_rfl) (by kernel_rfl) (by kernel_rfl) (by kernel_rfl) rfl (fun _ _ _ h => h) (Or.inl ⟨by rfl, ?_⟩) (HS3 _ (Below.refl _ _)) ?_
            rotate_left
            · intro W hSW
              go_simp
              try with_reducible rfl
            simp only [Act.put, List.setIfInBounds_toArray, List.set_cons_zero, List.set_cons_succ]
            refine wpAnyL_take' (i := 6) (v := ?_) (oi := ⟨some 139, .indexAddr 57 (.tmp 137) (.tmp 138), 0, "ref.go:176", #[⟨4, .data⟩, ⟨5, .data⟩], none⟩) rfl (by kernel_rfl) (by kernel_rfl) (by kernel_rfl) (by kernel_rfl) rfl (fun _ _ _ h => h) (Or.inl ⟨by rfl, ?_⟩) (HS3 _ (Below.refl _ _)) ?_
            rotate_left
            · intro W hSW
              go_simp
              try with_reducible rfl
            simp only [Act.put, List.setIfInBounds_toArray, List.set_cons_zero, List.set_cons_succ]
            refine wpAnyL_take' (i := 7) (v := ?_) (oi := ⟨some 140, .load 3 (.tmp 139), 3, "ref.go:176", #[⟨6, .data⟩], none⟩) rfl (by kernel_rfl) (by kernel_rfl) (by kernel_rfl) (by kernel_rfl) rfl (fun _ _ _ h => h) (Or.inl ⟨by rfl, ?_⟩) (HS3 _ (Below.refl _ _)) ?_
            rotate_left
            · intro W hSW
              go_simp
              try with_reducible rfl
            simp only [Act.put, List.setIfInBounds_toArray, List.set_cons_zero, List.set_cons_succ]
            refine wpAnyL_take' (i := 8) (v := ?_) (oi := ⟨some 141, .build 39 #[(0, .tmp 135), (1, .tmp 136), (2, .tmp 140)], 39, "ref.go:176", #[⟨2, .data⟩, ⟨3, .data⟩, ⟨7, .data⟩], none⟩) rfl (by kernel_rfl) (by kernel_rfl) (by kernel_rfl) (by kernel_rfl) rfl (fun _ _ _ h => h) (Or.inl ⟨by rfl, ?_⟩) (HS3 _ (Below.refl _ _)) ?_
            rotate_left
            · intro W hSW
              go_simp
              try with_reducible rfl
            simp only [Act.put, List.setIfInBounds_toArray, List.set_cons_zero, List.set_cons_succ]
            refine wpAnyL_one' (i := 9) (o := ⟨some 142, .buildSlice 35 1 #[(0, .tmp 141)], 35, "ref.go:176", #[⟨8, .data⟩], none⟩) (by kernel_rfl) rfl rfl (fun K hK => ?_)
            go_simp
            refine hK.out _ _ (fun _ => HS3 _ BK) ?_
            clear hK
            try simp only [Act.put, List.setIfInBounds_toArray, List.set_cons_zero, List.set_cons_succ]
            refine wpAnyL_one' (i := 10) (o := ⟨some 143, .call ⟨.builtin .append, #[.tmp 134, .tmp 142], #[35, 35]⟩, 35, "ref.go:176", #[⟨1, .data⟩, ⟨9, .data⟩], none⟩) (by kernel_rfl) rfl rfl (fun K hK => ?_)
            refine step_append_runI rfl _ _ 35 35 rfl _ _ rfl rfl hap ?_
            refine hK.out _ _ (fun _ => HS4) ?_
            clear hK
            simp only [Act.put, List.setIfInBounds_toArray, List.set_cons_zero, List.set_cons_succ]
            refine wpAnyL_take' (i := 11) (v := ?_) (oi := ⟨some 144, .fieldAddr 37 (.tmp 12) 0, 0, "ref.go:176", #[⟨0, .phase⟩, ⟨1, .phase⟩, ⟨2, .phase⟩, ⟨3, .phase⟩, ⟨4, .phase⟩, ⟨5, .phase⟩, ⟨6, .phase⟩, ⟨7, .phase⟩, ⟨8, .phase⟩, ⟨9, .phase⟩, ⟨10, .phase⟩], none⟩) rfl (by kernel_rfl) (by kernel_rfl) (by kernel_rfl) (by kernel_rfl) rfl (fun _ _ _ h => h) (Or.inl ⟨by rfl, ?_⟩) HS4 ?_
            rotate_left
            · intro W hSW
              go_simp
              try with_reducible rfl
            simp only [Act.put, List.setIfInBounds_toArray, List.set_cons_zero, List.set_cons_succ]
            refine wpAnyL_one' (i := 12) (o := ⟨none, .store 35 (.tmp 144) (.tmp 143), 0, "ref.go:176", #[⟨11, .data⟩, ⟨10, .data⟩, ⟨10, .chain⟩, ⟨0, .phase⟩, ⟨1, .phase⟩, ⟨2, .phase⟩, ⟨3, .phase⟩, ⟨4, .phase⟩, ⟨5, .phase⟩, ⟨6, .phase⟩, ⟨7, .phase⟩, ⟨8, .phase⟩, ⟨9, .phase⟩, ⟨10, .phase⟩], none⟩) (by kernel_rfl) rfl rfl (fun K hK => ?_)
            go_simp
            refine hK.out _ _ (fun h => absurd h (by decide)) ?_
            clear hK
            refine wpAnyL_done (by kernel_rfl) ?_ _
            clear HS3 HS4 fz4 hap BK
            go_wp2_with fail
            have HFE := HF.out
            clear HF
            generalize (R ++ [(⟨(m : Int), (m : Int), (j : Int)⟩ : Ar)]) = R9 at *
            refine ⟨⟨m + 1, O2, nb2, oa2, oc2, R9, .slice ra' (0 + 1) rc', rfl, ?_, ?_, HPF.out.2, ?_⟩, ?_⟩
            · go_num
            · clear HFE; omega
            · exact HFE
            · clear HFE HPF; simp [intOf]; omega
          · have hrl : R.length = R'.length + 1 := by rw [hR]; simp
            obtain ⟨n, hn9⟩ : ∃ n, R'.length = n := ⟨_, rfl⟩
            rw [hrl, hn9] at s0 HSB
            have HRN : Hid (R = R' ++ [x] ∧ R'.length = n) := ⟨hR.trans (by simp), hn9⟩
            have hrl : R.length = n + 1 := by rw [hrl, hn9]
            have har := HSB.out.1.ar
            unfold OwnA at har
            obtain ⟨rg, cap, e9, hgl, _, hcx⟩ := own_cells (enc := encA3) (c := 3) (fun x => rfl) (l := R) (by rw [hrl]; rw [hrl] at har; exact har) (by omega)
            rw [hrl] at e9
            cases e9
            have hxR : R[n]? = some x := by rw [HRN.out.1, List.getElem?_append_right (by rw [HRN.out.2]; exact Nat.le_refl _), HRN.out.2]; simp
            have c1 := hcx n 1 x _ hxR (by omega) rfl
            have c2 := hcx n 2 x _ hxR (by omega) rfl
            have hw : wrap64 (((n + 1 : Nat) : Int) - 1) = n := by rw [IntWalk.wrap64_in _ (by omega)]; omega
            have hw' : wrap64 ((n : Int) + 1 - 1) = n := by rw [IntWalk.wrap64_in _ (by omega)]; omega
            have hwm : IntKind.i64.wrap ((m : Int) - 1) = (m : Int) - 1 := IntWalk.i64_in _ (by omega)
            have hwm' : wrap64 ((m : Int) - 1) = (m : Int) - 1 := IntWalk.wrap64_in _ (by omega)
            obtain ⟨xhi, hxh⟩ : ∃ y, x.hi = y := ⟨_, rfl⟩
            obtain ⟨xtg, hxt⟩ : ∃ y, x.tg = y := ⟨_, rfl⟩
            rw [hxh] at c1
            rw [hxt] at c2
            have bd : Below W2.heap.size W2 W2.drew := below_drewN (Below.refl _ _) 1
            have HXE : Hid (x.hi = xhi ∧ x.tg = xtg) := ⟨hxh, hxt⟩
            have HT : W2.drew.cell? ⟨sb, 0, none⟩ = some (.slice (some ⟨rg, 0, none⟩) (n + 1) rc2) ∧ W2.drew.cell? ⟨rg, n * 3 + 1, none⟩ = some (.int .i64 xhi) ∧ W2.drew.cell? ⟨rg, n * 3 + 2, none⟩ = some (.int .i64 xtg) ∧ W2.drew.cell? ⟨w2.heap.size, kk, none⟩ = some (.int .i64 (j : Int)) := ⟨s0, c1, c2, HNJ.out _ bd⟩
            clear hR hn9 har hgl hcx hxR hxh hxt c1 c2
            go_upto_region 28 with fail
            try rw [hw']
            clear s0 hw hw'
            go_cut [126] from 152 (fun t126 wx => ∃ T, t126 = .bool T ∧ wx = W2.drew ∧ Hid (T = true ↔ xhi = (m : Int) - 1 ∧ xtg = (j : Int)))
            case first =>
              clear HEXT HNEW HM HSB bd HXE HRN HLX HL HB1 HGR HB2 HCL HLO HCI HC0 HDB HAX HD HGC HCN HNJ HPF
              have hn0 : decide ((n : Int) ≥ 0) = true := decide_eq_true (by omega)
              have hn1 : ((n : Int) ≥ 0) := by omega
              have hnn : n < n + 1 := by omega
              have hn2 : (n : Int) < (n : Int) + 1 := by omega
              by_cases h1 : xhi = (m : Int) - 1
              · have e1 : (xhi == (m : Int) - 1) = true := by simp [h1]
                have H1 : Hid (xhi = (m : Int) - 1) := h1
                clear h1
                by_cases h2 : xtg = (j : Int)
                · have e2 : (xtg == (j : Int)) = true := by simp [h2]
                  have H2 : Hid (xtg = (j : Int)) := h2
                  clear h2
                  refine wp_region_L (fun W => W.cell? ⟨sb, 0, none⟩ = some (.slice (some ⟨rg, 0, none⟩) (n + 1) rc2) ∧ W.cell? ⟨rg, n * 3 + 1, none⟩ = some (.int .i64 xhi) ∧ W.cell? ⟨rg, n * 3 + 2, none⟩ = some (.int .i64 xtg) ∧ W.cell? ⟨w2.heap.size, kk, none⟩ = some (.int .i64 (j : Int))) 26 (by kernel_rfl) 26 rfl ?_
                  refine wpAnyL_take' (i := 0) (v := ?_) (oi := ⟨some 101, .move (.tmp 15), 3, "ref.go:173", #[], none⟩) rfl (by kernel_rfl) (by kernel_rfl) (by kernel_rfl) (by kernel_rfl) rfl (fun _ _ _ h => h) (Or.inl ⟨by rfl, ?_⟩) HT ?_
                  rotate_left
                  · intro W hSW
                    go_simp
                    try with_reducible rfl
                  simp only [Act.put, List.setIfInBounds_toArray, List.set_cons_zero, List.set_cons_succ]
                  refine wpAnyL_take' (i := 1) (v := ?_) (oi := ⟨some 102, .binOp .geq 3 (.tmp 101) (.const (.int .i64 0)) 3, 4, "ref.go:173", #[⟨0, .data⟩], none⟩) rfl (by kernel_rfl) (by kernel_rfl) (by kernel_rfl) (by kernel_rfl) rfl (fun _ _ _ h => h) (Or.inl ⟨by rfl, ?_⟩) HT ?_
                  rotate_left
                  · intro W hSW
                    go_simp
                    try with_reducible rfl
                  simp only [Act.put, List.setIfInBounds_toArray, List.set_cons_zero, List.set_cons_succ]
                  refine wpAnyL_take' (i := 2) (v := ?_) (oi := ⟨some 103, .move (.tmp 102), 4, "ref.go:173", #[⟨1, .data⟩], none⟩) rfl (by kernel_rfl) (by kernel_rfl) (by kernel_rfl) (by kernel_rfl) rfl (fun _ _ _ h => h) (Or.inl ⟨by rfl, ?_⟩) HT ?_
                  rotate_left
                  · intro W hSW
                    go_simp
                    try with_reducible rfl
                  simp only [Act.put, List.setIfInBounds_toArray, List.set_cons_zero, List.set_cons_succ]
                  refine wpAnyL_take' (i := 3) (v := ?_) (oi := ⟨some 104, .fieldAddr 37 (.tmp 12) 0, 0, "ref.go:173", #[⟨2, .guard⟩], some (2, true)⟩) rfl (by kernel_rfl) (by kernel_rfl) (by kernel_rfl) (by kernel_rfl) rfl (fun _ _ _ h => h) (Or.inl ⟨by rfl, ?_⟩) HT ?_
                  rotate_left
                  · intro W hSW
                    go_simp
                    try with_reducible rfl
                  simp only [Act.put, List.setIfInBounds_toArray, List.set_cons_zero, List.set_cons_succ]
                  refine wpAnyL_take' (i := 4) (v := ?_) (oi := ⟨some 105, .load 35 (.tmp 104), 35, "ref.go:173", #[⟨3, .data⟩, ⟨2, .guard⟩], some (2, true)⟩) rfl (by kernel_rfl) (by kernel_rfl) (by kernel_rfl) (by kernel_rfl) rfl (fun _ _ _ h => h) (Or.inl ⟨by rfl, ?_⟩) HT ?_
                  rotate_left
                  · intro W hSW
                    go_simp
                    try with_reducible rfl
                  simp only [Act.put, List.setIfInBounds_toArray, List.set_cons_zero, List.set_cons_succ]
                  refine wpAnyL_take' (i := 5) (v := ?_) (oi := ⟨some 106, .move (.tmp 15), 3, "ref.go:173", #[⟨2, .guard⟩], some (2, true)⟩) rfl (by kernel_rfl) (by kernel_rfl) (by kernel_rfl) (by kernel_rfl) rfl (fun _ _ _ h => h) (Or.inl ⟨by rfl, ?_⟩) HT ?_
                  rotate_left
                  · intro W hSW
                    go_simp
                    try with_reducible rfl
                  simp only [Act.put, List.setIfInBounds_toArray, List.set_cons_zero, List.set_cons_succ]
                  refine wpAnyL_take' (i := 6) (v := ?_) (oi := ⟨some 107, .indexAddr 35 (.tmp 105) (.tmp 106), 0, "ref.go:173", #[⟨4, .data⟩, ⟨5, .data⟩, ⟨2, .guard⟩], some (2, true)⟩) rfl (by kernel_rfl) (by kernel_rfl) (by kernel_rfl) (by kernel_rfl) rfl (fun _ _ _ h => h) (Or.inl ⟨by rfl, ?_⟩) HT ?_
                  rotate_left
                  · intro W hSW
                    go_simp
                    try with_reducible rfl
                  simp only [Act.put, List.setIfInBounds_toArray, List.set_cons_zero, List.set_cons_succ]
                  refine wpAnyL_take' (i := 7) (v := ?_) (oi := ⟨some 108, .fieldAddr 39 (.tmp 107) 1, 0, "ref.go:173", #[⟨6, .data⟩, ⟨2, .guard⟩], some (2, true)⟩) rfl (by kernel_rfl) (by kernel_rfl) (by kernel_rfl) (by kernel_rfl) rfl (fun _ _ _ h => h) (Or.inl ⟨by rfl, ?_⟩) HT ?_
                  rotate_left
                  · intro W hSW
                    go_simp
                    try with_reducible rfl
                  simp only [Act.put, List.setIfInBounds_toArray, List.set_cons_zero, List.set_cons_succ]
                  refine wpAnyL_take' (i := 8) (v := ?_) (oi := ⟨some 109, .load 3 (.tmp 108), 3, "ref.go:173", #[⟨7, .data⟩, ⟨2, .guard⟩], some (2, true)⟩) rfl (by kernel_rfl) (by kernel_rfl) (by kernel_rfl) (by kernel_rfl) rfl (fun _ _ _ h => h) (Or.inl ⟨by rfl, ?_⟩) HT ?_
                  rotate_left
                  · intro W hSW
                    go_simp
                    try with_reducible rfl
                  simp only [Act.put, List.setIfInBounds_toArray, List.set_cons_zero, List.set_cons_succ]
                  refine wpAnyL_take' (i := 9) (v := ?_) (oi := ⟨some 110, .move (.tmp 13), 3, "ref.go:173", #[⟨2, .guard⟩], some (2, true)⟩) rfl (by kernel_rfl) (by kernel_rfl) (by kernel_rfl) (by kernel_rfl) rfl (fun _ _ _ h => h) (Or.inl ⟨by rfl, ?_⟩) HT ?_
                  rotate_left
                  · intro W hSW
                    go_simp
                    try with_reducible rfl
                  simp only [Act.put, List.setIfInBounds_toArray, List.set_cons_zero, List.set_cons_succ]
                  refine wpAnyL_take' (i := 10) (v := ?_) (oi := ⟨some 111, .binOp .sub 3 (.tmp 110) (.const (.int .i64 1)) 3, 3, "ref.go:173", #[⟨9, .data⟩, ⟨2, .guard⟩], some (2, true)⟩) rfl (by kernel_rfl) (by kernel_rfl) (by kernel_rfl) (by kernel_rfl) rfl (fun _ _ _ h => h) (Or.inl ⟨by rfl, ?_⟩) HT ?_
                  rotate_left
                  · intro W hSW
                    go_simp
                    try with_reducible rfl
                  simp only [Act.put, List.setIfInBounds_toArray, List.set_cons_zero, List.set_cons_succ]
                  refine wpAnyL_take' (i := 11) (v := ?_) (oi := ⟨some 112, .binOp .eql 3 (.tmp 109) (.tmp 111) 3, 4, "ref.go:173", #[⟨8, .data⟩, ⟨10, .data⟩, ⟨2, .guard⟩], some (2, true)⟩) rfl (by kernel_rfl) (by kernel_rfl) (by kernel_rfl) (by kernel_rfl) rfl (fun _ _ _ h => h) (Or.inl ⟨by rfl, ?_⟩) HT ?_
                  rotate_left
                  · intro W hSW
                    go_simp
                    try with_reducible rfl
                  simp only [Act.put, List.setIfInBounds_toArray, List.set_cons_zero, List.set_cons_succ]
                  refine wpAnyL_take' (i := 12) (v := ?_) (oi := ⟨some 113, .pick (.tmp 103) (.tmp 112) (.const (.bool false)), 4, "ref.go:173", #[⟨2, .data⟩, ⟨11, .data⟩], none⟩) rfl (by kernel_rfl) (by kernel_rfl) (by kernel_rfl) (by kernel_rfl) rfl (fun _ _ _ h => h) (Or.inl ⟨by rfl, ?_⟩) HT ?_
                  rotate_left
                  · intro W hSW
                    go_simp
                    try with_reducible rfl
                  simp only [Act.put, List.setIfInBounds_toArray, List.set_cons_zero, List.set_cons_succ]
                  refine wpAnyL_take' (i := 13) (v := ?_) (oi := ⟨some 114, .move (.tmp 113), 4, "ref.go:173", #[⟨12, .data⟩, ⟨2, .chain⟩], none⟩) rfl (by kernel_rfl) (by kernel_rfl) (by kernel_rfl) (by kernel_rfl) rfl (fun _ _ _ h => h) (Or.inl ⟨by rfl, ?_⟩) HT ?_
                  rotate_left
                  · intro W hSW
                    go_simp
                    try with_reducible rfl
                  simp only [Act.put, List.setIfInBounds_toArray, List.set_cons_zero, List.set_cons_succ]
                  refine wpAnyL_take' (i := 14) (v := ?_) (oi := ⟨some 115, .fieldAddr 37 (.tmp 12) 0, 0, "ref.go:173", #[⟨13, .guard⟩], some (13, true)⟩) rfl (by kernel_rfl) (by kernel_rfl) (by kernel_rfl) (by kernel_rfl) rfl (fun _ _ _ h => h) (Or.inl ⟨by rfl, ?_⟩) HT ?_
                  rotate_left
                  · intro W hSW
                    go_simp
                    try with_reducible rfl
                  simp only [Act.put, List.setIfInBounds_toArray, List.set_cons_zero, List.set_cons_succ]
                  refine wpAnyL_take' (i := 15) (v := ?_) (oi := ⟨some 116, .load 35 (.tmp 115), 35, "ref.go:173", #[⟨14, .data⟩, ⟨13, .guard⟩], some (13, true)⟩) rfl (by kernel_rfl) (by kernel_rfl) (by kernel_rfl) (by kernel_rfl) rfl (fun _ _ _ h => h) (Or.inl ⟨by rfl, ?_⟩) HT ?_
                  rotate_left
                  · intro W hSW
                    go_simp
                    try with_reducible rfl
                  simp only [Act.put, List.setIfInBounds_toArray, List.set_cons_zero, List.set_cons_succ]
                  refine wpAnyL_take' (i := 16) (v := ?_) (oi := ⟨some 117, .move (.tmp 15), 3, "ref.go:173", #[⟨13, .guard⟩], some (13, true)⟩) rfl (by kernel_rfl) (by kernel_rfl) (by kernel_rfl) (by kernel_rfl) rfl (fun _ _ _ h => h) (Or.inl ⟨by rfl, ?_⟩) HT ?_
                  rotate_left
                  · intro W hSW
                    go_simp
                    try with_reducible rfl
                  simp only [Act.put, List.setIfInBounds_toArray, List.set_cons_zero, List.set_cons_succ]
                  refine wpAnyL_take' (i := 17) (v := ?_) (oi := ⟨some 118, .indexAddr 35 (.tmp 116) (.tmp 117), 0, "ref.go:173", #[⟨15, .data⟩, ⟨16, .data⟩, ⟨13, .guard⟩], some (13, true)⟩) rfl (by kernel_rfl) (by kernel_rfl) (by kernel_rfl) (by kernel_rfl) rfl (fun _ _ _ h => h) (Or.inl ⟨by rfl, ?_⟩) HT ?_
                  rotate_left
                  · intro W hSW
                    go_simp
                    try with_reducible rfl
                  simp only [Act.put, List.setIfInBounds_toArray, List.set_cons_zero, List.set_cons_succ]
                  refine wpAnyL_take' (i := 18) (v := ?_) (oi := ⟨some 119, .fieldAddr 39 (.tmp 118) 2, 0, "ref.go:173", #[⟨17, .data⟩, ⟨13, .guard⟩], some (13, true)⟩) rfl (by kernel_rfl) (by kernel_rfl) (by kernel_rfl) (by kernel_rfl) rfl (fun _ _ _ h => h) (Or.inl ⟨by rfl, ?_⟩) HT ?_
                  rotate_left
                  · intro W hSW
                    go_simp
                    try with_reducible rfl
                  simp only [Act.put, List.setIfInBounds_toArray, List.set_cons_zero, List.set_cons_succ]
                  refine wpAnyL_take' (i := 19) (v := ?_) (oi := ⟨some 120, .load 3 (.tmp 119), 3, "ref.go:173", #[⟨18, .data⟩, ⟨13, .guard⟩], some (13, true)⟩) rfl (by kernel_rfl) (by kernel_rfl) (by kernel_rfl) (by kernel_rfl) rfl (fun _ _ _ h => h) (Or.inl ⟨by rfl, ?_⟩) HT ?_
                  rotate_left
                  · intro W hSW
                    go_simp
                    try with_reducible rfl
                  simp only [Act.put, List.setIfInBounds_toArray, List.set_cons_zero, List.set_cons_succ]
                  refine wpAnyL_take' (i := 20) (v := ?_) (oi := ⟨some 121, .move (.tmp 5), 57, "ref.go:173", #[⟨13, .guard⟩], some (13, true)⟩) rfl (by kernel_rfl) (by kernel_rfl) (by kernel_rfl) (by kernel_rfl) rfl (fun _ _ _ h => h) (Or.inl ⟨by rfl, ?_⟩) HT ?_
                  rotate_left
                  · intro W hSW
                    go_simp
                    try with_reducible rfl
                  simp only [Act.put, List.setIfInBounds_toArray, List.set_cons_zero, List.set_cons_succ]
                  refine wpAnyL_take' (i := 21) (v := ?_) (oi := ⟨some 122, .move (.tmp 14), 3, "ref.go:173", #[⟨13, .guard⟩], some (13, true)⟩) rfl (by kernel_rfl) (by kernel_rfl) (by kernel_rfl) (by kernel_rfl) rfl (fun _ _ _ h => h) (Or.inl ⟨by rfl, ?_⟩) HT ?_
                  rotate_left
                  · intro W hSW
                    go_simp
                    try with_reducible rfl
                  simp only [Act.put, List.setIfInBounds_toArray, List.set_cons_zero, List.set_cons_succ]
                  refine wpAnyL_take' (i := 22) (v := ?_) (oi := ⟨some 123, .indexAddr 57 (.tmp 121) (.tmp 122), 0, "ref.go:173", #[⟨20, .data⟩, ⟨21, .data⟩, ⟨13, .guard⟩], some (13, true)⟩) rfl (by kernel_rfl) (by kernel_rfl) (by kernel_rfl) (by kernel_rfl) rfl (fun _ _ _ h => h) (Or.inl ⟨by rfl, ?_⟩) HT ?_
                  rotate_left
                  · intro W hSW
                    go_simp
                    try with_reducible rfl
                  simp only [Act.put, List.setIfInBounds_toArray, List.set_cons_zero, List.set_cons_succ]
                  refine wpAnyL_take' (i := 23) (v := ?_) (oi := ⟨some 124, .load 3 (.tmp 123), 3, "ref.go:173", #[⟨22, .data⟩, ⟨13, .guard⟩], some (13, true)⟩) rfl (by kernel_rfl) (by kernel_rfl) (by kernel_rfl) (by kernel_rfl) rfl (fun _ _ _ h => h) (Or.inl ⟨by rfl, ?_⟩) HT ?_
                  rotate_left
                  · intro W hSW
                    go_simp
                    try with_reducible rfl
                  simp only [Act.put, List.setIfInBounds_toArray, List.set_cons_zero, List.set_cons_succ]
                  refine wpAnyL_take' (i := 24) (v := ?_) (oi := ⟨some 125, .binOp .eql 3 (.tmp 120) (.tmp 124) 3, 4, "ref.go:173", #[⟨19, .data⟩, ⟨23, .data⟩, ⟨13, .guard⟩], some (13, true)⟩) rfl (by kernel_rfl) (by kernel_rfl) (by kernel_rfl) (by kernel_rfl) rfl (fun _ _ _ h => h) (Or.inl ⟨by rfl, ?_⟩) HT ?_
                  rotate_left
                  · intro W hSW
                    go_simp
                    try with_reducible rfl
                  simp only [Act.put, List.setIfInBounds_toArray, List.set_cons_zero, List.set_cons_succ]
                  refine wpAnyL_take' (i := 25) (v := ?_) (oi := ⟨some 126, .pick (.tmp 114) (.tmp 125) (.const (.bool false)), 4, "ref.go:173", #[⟨13, .data⟩, ⟨24, .data⟩], none⟩) rfl (by kernel_rfl) (by kernel_rfl) (by kernel_rfl) (by kernel_rfl) rfl (fun _ _ _ h => h) (Or.inl ⟨by rfl, ?_⟩) HT ?_
                  rotate_left
                  · intro W hSW
                    go_simp
                    try with_reducible rfl
                  simp only [Act.put, List.setIfInBounds_toArray, List.set_cons_zero, List.set_cons_succ]
                  refine wpAnyL_done (by kernel_rfl) ?_ _
                  go_wp2_with fail
                  go_meet
                  exact ⟨true, rfl, rfl, ⟨fun _ => ⟨H1.out, H2.out⟩, fun _ => rfl⟩⟩
                · have e2 : (xtg == (j : Int)) = false := by simp [h2]
                  have H2 : Hid (¬ xtg = (j : Int)) := h2
                  clear h2
                  refine wp_region_L (fun W => W.cell? ⟨sb, 0, none⟩ = some (.slice (some ⟨rg, 0, none⟩) (n + 1) rc2) ∧ W.cell? ⟨rg, n * 3 + 1, none⟩ = some (.int .i64 xhi) ∧ W.cell? ⟨rg, n * 3 + 2, none⟩ = some (.int .i64 xtg) ∧ W.cell? ⟨w2.heap.size, kk, none⟩ = some (.int .i64 (j : Int))) 26 (by kernel_rfl) 26 rfl ?_
                  refine wpAnyL_take' (i := 0) (v := ?_) (oi := ⟨some 101, .move (.tmp 15), 3, "ref.go:173", #[], none⟩) rfl (by kernel_rfl) (by kernel_rfl) (by kernel_rfl) (by kernel_rfl) rfl (fun _ _ _ h => h) (Or.inl ⟨by rfl, ?_⟩) HT ?_
                  rotate_left
                  · intro W hSW
                    go_simp
                    try with_reducible rfl
                  simp only [Act.put, List.setIfInBounds_toArray, List.set_cons_zero, List.set_cons_succ]
                  refine wpAnyL_take' (i := 1) (v := ?_) (oi := ⟨some 102, .binOp .geq 3 (.tmp 101) (.const (.int .i64 0)) 3, 4, "ref.go:173", #[⟨0, .data⟩], none⟩) rfl (by kernel_rfl) (by kernel_rfl) (by kernel_rfl) (by kernel_rfl) rfl (fun _ _ _ h => h) (Or.inl ⟨by rfl, ?_⟩) HT ?_
                  rotate_left
                  · intro W hSW
                    go_simp
                    try with_reducible rfl
                  simp only [Act.put, List.setIfInBounds_toArray, List.set_cons_zero, List.set_cons_succ]
                  refine wpAnyL_take' (i := 2) (v := ?_) (oi := ⟨some 103, .move (.tmp 102), 4, "ref.go:173", #[⟨1, .data⟩], none⟩) rfl (by kernel_rfl) (by kernel_rfl) (by kernel_rfl) (by kernel_rfl) rfl (fun _ _ _ h => h) (Or.inl ⟨by rfl, ?_⟩) HT ?_
                  rotate_left
                  · intro W hSW
                    go_simp
                    try with_reducible rfl
                  simp only [Act.put, List.setIfInBounds_toArray, List.set_cons_zero, List.set_cons_succ]
                  refine wpAnyL_take' (i := 3) (v := ?_) (oi := ⟨some 104, .fieldAddr 37 (.tmp 12) 0, 0, "ref.go:173", #[⟨2, .guard⟩], some (2, true)⟩) rfl (by kernel_rfl) (by kernel_rfl) (by kernel_rfl) (by kernel_rfl) rfl (fun _ _ _ h => h) (Or.inl ⟨by rfl, ?_⟩) HT ?_
                  rotate_left
                  · intro W hSW
                    go_simp
                    try with_reducible rfl
                  simp only [Act.put, List.setIfInBounds_toArray, List.set_cons_zero, List.set_cons_succ]
                  refine wpAnyL_take' (i := 4) (v := ?_) (oi := ⟨some 105, .load 35 (.tmp 104), 35, "ref.go:173", #[⟨3, .data⟩, ⟨2, .guard⟩], some (2, true)⟩) rfl (by kernel_rfl) (by kernel_rfl) (by kernel_rfl) (by kernel_rfl) rfl (fun _ _ _ h => h) (Or.inl ⟨by rfl, ?_⟩) HT ?_
                  rotate_left
                  · intro W hSW
                    go_simp
                    try with_reducible rfl
                  simp only [Act.put, List.setIfInBounds_toArray, List.set_cons_zero, List.set_cons_succ]
                  refine wpAnyL_take' (i := 5) (v := ?_) (oi := ⟨some 106, .move (.tmp 15), 3, "ref.go:173", #[⟨2, .guard⟩], some (2, true)⟩) rfl (by kernel_rfl) (by kernel_rfl) (by kernel_rfl) (by kernel_rfl) rfl (fun _ _ _ h => h) (Or.inl ⟨by rfl, ?_⟩) HT ?_
                  rotate_left
                  · intro W hSW
                    go_simp
                    try with_reducible rfl
                  simp only [Act.put, List.setIfInBounds_toArray, List.set_cons_zero, List.set_cons_succ]
                  refine wpAnyL_take' (i := 6) (v := ?_) (oi := ⟨some 107, .indexAddr 35 (.tmp 105) (.tmp 106), 0, "ref.go:173", #[⟨4, .data⟩, ⟨5, .data⟩, ⟨2, .guard⟩], some (2, true)⟩) rfl (by kernel_rfl) (by kernel_rfl) (by kernel_rfl) (by kernel_rfl) rfl (fun _ _ _ h => h) (Or.inl ⟨by rfl, ?_⟩) HT ?_
                  rotate_left
                  · intro W hSW
                    go_simp
                    try with_reducible rfl
                  simp only [Act.put, List.setIfInBounds_toArray, List.set_cons_zero, List.set_cons_succ]
                  refine wpAnyL_take' (i := 7) (v := ?_) (oi := ⟨some 108, .fieldAddr 39 (.tmp 107) 1, 0, "ref.go:173", #[⟨6, .data⟩, ⟨2, .guard⟩], some (2, true)⟩) rfl (by kernel_rfl) (by kernel_rfl) (by kernel_rfl) (by kernel_rfl) rfl (fun _ _ _ h => h) (Or.inl ⟨by rfl, ?_⟩) HT ?_
                  rotate_left
                  · intro W hSW
                    go_simp
                    try with_reducible rfl
                  simp only [Act.put, List.setIfInBounds_toArray, List.set_cons_zero, List.set_cons_succ]
                  refine wpAnyL_take' (i := 8) (v := ?_) (oi := ⟨some 109, .load 3 (.tmp 108), 3, "ref.go:173", #[⟨7, .data⟩, ⟨2, .guard⟩], some (2, true)⟩) rfl (by kernel_rfl) (by kernel_rfl) (by kernel_rfl) (by kernel_rfl) rfl (fun _ _ _ h => h) (Or.inl ⟨by rfl, ?_⟩) HT ?_
                  rotate_left
                  · intro W hSW
                    go_simp
                    try with_reducible rfl
                  simp only [Act.put, List.setIfInBounds_toArray, List.set_cons_zero, List.set_cons_succ]
                  refine wpAnyL_take' (i := 9) (v := ?_) (oi := ⟨some 110, .move (.tmp 13), 3, "ref.go:173", #[⟨2, .guard⟩], some (2, true)⟩) rfl (by kernel_rfl) (by kernel_rfl) (by kernel_rfl) (by kernel_rfl) rfl (fun _ _ _ h => h) (Or.inl ⟨by rfl, ?_⟩) HT ?_
                  rotate_left
                  · intro W hSW
                    go_simp
                    try with_reducible rfl
                  simp only [Act.put, List.setIfInBounds_toArray, List.set_cons_zero, List.set_cons_succ]
                  refine wpAnyL_take' (i := 10) (v := ?_) (oi := ⟨some 111, .binOp .sub 3 (.tmp 110) (.const (.int .i64 1)) 3, 3, "ref.go:173", #[⟨9, .data⟩, ⟨2, .guard⟩], some (2, true)⟩) rfl (by kernel_rfl) (by kernel_rfl) (by kernel_rfl) (by kernel_rfl) rfl (fun _ _ _ h => h) (Or.inl ⟨by rfl, ?_⟩) HT ?_
                  rotate_left
                  · intro W hSW
                    go_simp
                    try with_reducible rfl
                  simp only [Act.put, List.setIfInBounds_toArray, List.set_cons_zero, List.set_cons_succ]
                  refine wpAnyL_take' (i := 11) (v := ?_) (oi := ⟨some 112, .binOp .eql 3 (.tmp 109) (.tmp 111) 3, 4, "ref.go:173", #[⟨8, .data⟩, ⟨10, .data⟩, ⟨2, .guard⟩], some (2, true)⟩) rfl (by kernel_rfl) (by kernel_rfl) (by kernel_rfl) (by kernel_rfl) rfl (fun _ _ _ h => h) (Or.inl ⟨by rfl, ?_⟩) HT ?_
                  rotate_left
                  · intro W hSW
                    go_simp
                    try with_reducible rfl
                  simp only [Act.put, List.setIfInBounds_toArray, List.set_cons_zero, List.set_cons_succ]
                  refine wpAnyL_take' (i := 12) (v := ?_) (oi := ⟨some 113, .pick (.tmp 103) (.tmp 112) (.const (.bool false)), 4, "ref.go:173", #[⟨2, .data⟩, ⟨11, .data⟩], none⟩) rfl (by kernel_rfl) (by kernel_rfl) (by kernel_rfl) (by kernel_rfl) rfl (fun _ _ _ h => h) (Or.inl ⟨by rfl, ?_⟩) HT ?_
                  rotate_left
                  · intro W hSW
                    go_simp
                    try with_reducible rfl
                  simp only [Act.put, List.setIfInBounds_toArray, List.set_cons_zero, List.set_cons_succ]
                  refine wpAnyL_take' (i := 13) (v := ?_) (oi := ⟨some 114, .move (.tmp 113), 4, "ref.go:173", #[⟨12, .data⟩, ⟨2, .chain⟩], none⟩) rfl (by kernel_rfl) (by kernel_rfl) (by kernel_rfl) (by kernel_rfl) rfl (fun _ _ _ h => h) (Or.inl ⟨by rfl, ?_⟩) HT ?_
                  rotate_left
                  · intro W hSW
                    go_simp
                    try with_reducible rfl
                  simp only [Act.put, List.setIfInBounds_toArray, List.set_cons_zero, List.set_cons_succ]
                  refine wpAnyL_take' (i := 14) (v := ?_) (oi := ⟨some 115, .fieldAddr 37 (.tmp 12) 0, 0, "ref.go:173", #[⟨13, .guard⟩], some (13, true)⟩) rfl (by kernel_rfl) (by kernel_rfl) (by kernel_rfl) (by kernel_rfl) rfl (fun _ _ _ h => h) (Or.inl ⟨by rfl, ?_⟩) HT ?_
                  rotate_left
                  · intro W hSW
                    go_simp
                    try with_reducible rfl
                  simp only [Act.put, List.setIfInBounds_toArray, List.set_cons_zero, List.set_cons_succ]
                  refine wpAnyL_take' (i := 15) (v := ?_) (oi := ⟨some 116, .load 35 (.tmp 115), 35, "ref.go:173", #[⟨14, .data⟩, ⟨13, .guard⟩], some (13, true)⟩) rfl (by kernel_rfl) (by kernel_rfl) (by kernel_rfl) (by kernel_rfl) rfl (fun _ _ _ h => h) (Or.inl ⟨by rfl, ?_⟩) HT ?_
                  rotate_left
                  · intro W hSW
                    go_simp
                    try with_reducible rfl
                  simp only [Act.put, List.setIfInBounds_toArray, List.set_cons_zero, List.set_cons_succ]
                  refine wpAnyL_take' (i := 16) (v := ?_) (oi := ⟨some 117, .move (.tmp 15), 3, "ref.go:173", #[⟨13, .guard⟩], some (13, true)⟩) rfl (by kernel_rfl) (by kernel_rfl) (by kernel_rfl) (by kernel_rfl) rfl (fun _ _ _ h => h) (Or.inl ⟨by rfl, ?_⟩) HT ?_
                  rotate_left
                  · intro W hSW
                    go_simp
                    try with_reducible rfl
                  simp only [Act.put, List.setIfInBounds_toArray, List.set_cons_zero, List.set_cons_succ]
                  refine wpAnyL_take' (i := 17) (v := ?_) (oi := ⟨some 118, .indexAddr 35 (.tmp 116) (.tmp 117), 0, "ref.go:173", #[⟨15, .data⟩, ⟨16, .data⟩, ⟨13, .guard⟩], some (13, true)⟩) rfl (by kernel_rfl) (by kernel_rfl) (by kernel_rfl) (by kernel_rfl) rfl (fun _ _ _ h => h) (Or.inl ⟨by rfl, ?_⟩) HT ?_
                  rotate_left
                  · intro W hSW
                    go_simp
                    try with_reducible rfl
                  simp only [Act.put, List.setIfInBounds_toArray, List.set_cons_zero, List.set_cons_succ]
                  refine wpAnyL_take' (i := 18) (v := ?_) (oi := ⟨some 119, .fieldAddr 39 (.tmp 118) 2, 0, "ref.go:173", #[⟨17, .data⟩, ⟨13, .guard⟩], some (13, true)⟩) rfl (by kernel_rfl) (by kernel_rfl) (by kernel_rfl) (by kernel_rfl) rfl (fun _ _ _ h => h) (Or.inl ⟨by rfl, ?_⟩) HT ?_
                  rotate_left
                  · intro W hSW
                    go_simp
                    try with_reducible rfl
                  simp only [Act.put, List.setIfInBounds_toArray, List.set_cons_zero, List.set_cons_succ]
                  refine wpAnyL_take' (i := 19) (v := ?_) (oi := ⟨some 120, .load 3 (.tmp 119), 3, "ref.go:173", #[⟨18, .data⟩, ⟨13, .guard⟩], some (13, true)⟩) rfl (by kernel_rfl) (by kernel_rfl) (by kernel_rfl) (by kernel_rfl) rfl (fun _ _ _ h => h) (Or.inl ⟨by rfl, ?_⟩) HT ?_
                  rotate_left
                  · intro W hSW
                    go_simp
                    try with_reducible rfl
                  simp only [Act.put, List.setIfInBounds_toArray, List.set_cons_zero, List.set_cons_succ]
                  refine wpAnyL_take' (i := 20) (v := ?_) (oi := ⟨some 121, .move (.tmp 5), 57, "ref.go:173", #[⟨13, .guard⟩], some (13, true)⟩) rfl (by kernel_rfl) (by kernel_rfl) (by kernel_rfl) (by kernel_rfl) rfl (fun _ _ _ h => h) (Or.inl ⟨by rfl, ?_⟩) HT ?_
                  rotate_left
                  · intro W hSW
                    go_simp
                    try with_reducible rfl
                  simp only [Act.put, List.setIfInBounds_toArray, List.set_cons_zero, List.set_cons_succ]
                  refine wpAnyL_take' (i := 21) (v := ?_) (oi := ⟨some 122, .move (.tmp 14), 3, "ref.go:173", #[⟨13, .guard⟩], some (13, true)⟩) rfl (by kernel_rfl) (by kernel_rfl) (by kernel_rfl) (by kernel_rfl) rfl (fun _ _ _ h => h) (Or.inl ⟨by rfl, ?_⟩) HT ?_
                  rotate_left
                  · intro W hSW
                    go_simp
                    try with_reducible rfl
                  simp only [Act.put, List.setIfInBounds_toArray, List.set_cons_zero, List.set_cons_succ]
                  refine wpAnyL_take' (i := 22) (v := ?_) (oi := ⟨some 123, .indexAddr 57 (.tmp 121) (.tmp 122), 0, "ref.go:173", #[⟨20, .data⟩, ⟨21, .data⟩, ⟨13, .guard⟩], some (13, true)⟩) rfl (by kernel_rfl) (by kernel_rfl) (by kernel_rfl) (by kernel_rfl) rfl (fun _ _ _ h => h) (Or.inl ⟨by rfl, ?_⟩) HT ?_
                  rotate_left
                  · intro W hSW
                    go_simp
                    try with_reducible rfl
                  simp only [Act.put, List.setIfInBounds_toArray, List.set_cons_zero, List.set_cons_succ]
                  refine wpAnyL_take' (i := 23) (v := ?_) (oi := ⟨some 124, .load 3 (.tmp 123), 3, "ref.go:173", #[⟨22, .data⟩, ⟨13, .guard⟩], some (13, true)⟩) rfl (by kernel_rfl) (by kernel_rfl) (by kernel_rfl) (by kernel_rfl) rfl (fun _ _ _ h => h) (Or.inl ⟨by rfl, ?_⟩) HT ?_
                  rotate_left
                  · intro W hSW
                    go_simp
                    try with_reducible rfl
                  simp only [Act.put, List.setIfInBounds_toArray, List.set_cons_zero, List.set_cons_succ]
                  refine wpAnyL_take' (i := 24) (v := ?_) (oi := ⟨some 125, .binOp .eql 3 (.tmp 120) (.tmp 124) 3, 4, "ref.go:173", #[⟨19, .data⟩, ⟨23, .data⟩, ⟨13, .guard⟩], some (13, true)⟩) rfl (by kernel_rfl) (by kernel_rfl) (by kernel_rfl) (by kernel_rfl) rfl (fun _ _ _ h => h) (Or.inl ⟨by rfl, ?_⟩) HT ?_
                  rotate_left
                  · intro W hSW
                    go_simp
                    try with_reducible rfl
                  simp only [Act.put, List.setIfInBounds_toArray, List.set_cons_zero, List.set_cons_succ]
                  refine wpAnyL_take' (i := 25) (v := ?_) (oi := ⟨some 126, .pick (.tmp 114) (.tmp 125) (.const (.bool false)), 4, "ref.go:173", #[⟨13, .data⟩, ⟨24, .data⟩], none⟩) rfl (by kernel_rfl) (by kernel_rfl) (by kernel_rfl) (by kernel_rfl) rfl (fun _ _ _ h => h) (Or.inl ⟨by rfl, ?_⟩) HT ?_
                  rotate_left
                  · intro W hSW
                    go_simp
                    try with_reducible rfl
                  simp only [Act.put, List.setIfInBounds_toArray, List.set_cons_zero, List.set_cons_succ]
                  refine wpAnyL_done (by kernel_rfl) ?_ _
                  go_wp2_with fail
                  go_meet
                  exact ⟨false, rfl, rfl, ⟨fun e => (by cases e), fun e => absurd e.2 H2.out⟩⟩
              · have e1 : (xhi == (m : Int) - 1) = false := by simp [h1]
                have H1 : Hid (¬ xhi = (m : Int) - 1) := h1
                clear h1
                refine wp_region_L (fun W => W.cell? ⟨sb, 0, none⟩ = some (.slice (some ⟨rg, 0, none⟩) (n + 1) rc2) ∧ W.cell? ⟨rg, n * 3 + 1, none⟩ = some (.int .i64 xhi) ∧ W.cell? ⟨rg, n * 3 + 2, none⟩ = some (.int .i64 xtg) ∧ W.cell? ⟨w2.heap.size, kk, none⟩ = some (.int .i64 (j : Int))) 26 (by kernel_rfl) 26 rfl ?_
                refine wpAnyL_take' (i := 0) (v := ?_) (oi := ⟨some 101, .move (.tmp 15), 3, "ref.go:173", #[], none⟩) rfl (by kernel_rfl) (by kernel_rfl) (by kernel_rfl) (by kernel_rfl) rfl (fun _ _ _ h => h) (Or.inl ⟨by rfl, ?_⟩) HT ?_
                rotate_left
                · intro W hSW
                  go_simp
                  try with_reducible rfl
                simp only [Act.put, List.setIfInBounds_toArray, List.set_cons_zero, List.set_cons_succ]
                refine wpAnyL_take' (i := 1) (v := ?_) (oi := ⟨some 102, .binOp .geq 3 (.tmp 101) (.const (.int .i64 0)) 3, 4, "ref.go:173", #[⟨0, .data⟩], none⟩) rfl (by kernel_rfl) (by kernel_rfl) (by kernel_rfl) (by kernel_rfl) rfl (fun _ _ _ h => h) (Or.inl ⟨by rfl, ?_⟩) HT ?_
                rotate_left
                · intro W hSW
                  go_simp
                  try with_reducible rfl
                simp only [Act.put, List.setIfInBounds_toArray, List.set_cons_zero, List.set_cons_succ]
                refine wpAnyL_take' (i := 2) (v := ?_) (oi := ⟨some 103, .move (.tmp 102), 4, "ref.go:173", #[⟨1, .data⟩], none⟩) rfl (by kernel_rfl) (by kernel_rfl) (by kernel_rfl) (by kernel_rfl) rfl (fun _ _ _ h => h) (Or.inl ⟨by rfl, ?_⟩) HT ?_
                rotate_left
                · intro W hSW
                  go_simp
                  try with_reducible rfl
                simp only [Act.put, List.setIfInBounds_toArray, List.set_cons_zero, List.set_cons_succ]
                refine wpAnyL_take' (i := 3) (v := ?_) (oi := ⟨some 104, .fieldAddr 37 (.tmp 12) 0, 0, "ref.go:173", #[⟨2, .guard⟩], some (2, true)⟩) rfl (by kernel_rfl) (by kernel_rfl) (by kernel_rfl) (by kernel_rfl) rfl (fun _ _ _ h => h) (Or.inl ⟨by rfl, ?_⟩) HT ?_
                rotate_left
                · intro W hSW
                  go_simp
                  try with_reducible rfl
                simp only [Act.put, List.setIfInBounds_toArray, List.set_cons_zero, List.set_cons_succ]
                refine wpAnyL_take' (i := 4) (v := ?_) (oi := ⟨some 105, .load 35 (.tmp 104), 35, "ref.go:173", #[⟨3, .data⟩, ⟨2, .guard⟩], some (2, true)⟩) rfl (by kernel_rfl) (by kernel_rfl) (by kernel_rfl) (by kernel_rfl) rfl (fun _ _ _ h => h) (Or.inl ⟨by rfl, ?_⟩) HT ?_
                rotate_left
                · intro W hSW
                  go_simp
                  try with_reducible rfl
                simp only [Act.put, List.setIfInBounds_toArray, List.set_cons_zero, List.set_cons_succ]
                refine wpAnyL_take' (i := 5) (v := ?_) (oi := ⟨some 106, .move (.tmp 15), 3, "ref.go:173", #[⟨2, .guard⟩], some (2, true)⟩) rfl (by kernel_rfl) (by kernel_rfl) (by kernel_rfl) (by kernel_rfl) rfl (fun _ _ _ h => h) (Or.inl ⟨by rfl, ?_⟩) HT ?_
                rotate_left
                · intro W hSW
                  go_simp
                  try with_reducible rfl
                simp only [Act.put, List.setIfInBounds_toArray, List.set_cons_zero, List.set_cons_succ]
                refine wpAnyL_take' (i := 6) (v := ?_) (oi := ⟨some 107, .indexAddr 35 (.tmp 105) (.tmp 106), 0, "ref.go:173", #[⟨4, .data⟩, ⟨5, .data⟩, ⟨2, .guard⟩], some (2, true)⟩) rfl (by kernel_rfl) (by kernel_rfl) (by kernel_rfl) (by kernel_rfl) rfl (fun _ _ _ h => h) (Or.inl ⟨by rfl, ?_⟩) HT ?_
                rotate_left
                · intro W hSW
                  go_simp
                  try with_reducible rfl
                simp only [Act.put, List.setIfInBounds_toArray, List.set_cons_zero, List.set_cons_succ]
                refine wpAnyL_take' (i := 7) (v := ?_) (oi := ⟨some 108, .fieldAddr 39 (.tmp 107) 1, 0, "ref.go:173", #[⟨6, .data⟩, ⟨2, .guard⟩], some (2, true)⟩) rfl (by kernel_rfl) (by kernel_rfl) (by kernel_rfl) (by kernel_rfl) rfl (fun _ _ _ h => h) (Or.inl ⟨by rfl, ?_⟩) HT ?_
                rotate_left
                · intro W hSW
                  go_simp
                  try with_reducible rfl
                simp only [Act.put, List.setIfInBounds_toArray, List.set_cons_zero, List.set_cons_succ]
                refine wpAnyL_take' (i := 8) (v := ?_) (oi := ⟨some 109, .load 3 (.tmp 108), 3, "ref.go:173", #[⟨7, .data⟩, ⟨2, .guard⟩], some (2, true)⟩) rfl (by kernel_rfl) (by kernel_rfl) (by kernel_rfl) (by kernel_rfl) rfl (fun _ _ _ h => h) (Or.inl ⟨by rfl, ?_⟩) HT ?_
                rotate_left
                · intro W hSW
                  go_simp
                  try with_reducible rfl
                simp only [Act.put, List.setIfInBounds_toArray, List.set_cons_zero, List.set_cons_succ]
                refine wpAnyL_take' (i := 9) (v := ?_) (oi := ⟨some 110, .move (.tmp 13), 3, "ref.go:173", #[⟨2, .guard⟩], some (2, true)⟩) rfl (by kernel_rfl) (by kernel_rfl) (by kernel_rfl) (by kernel_rfl) rfl (fun _ _ _ h => h) (Or.inl ⟨by rfl, ?_⟩) HT ?_
                rotate_left
                · intro W hSW
                  go_simp
                  try with_reducible rfl
                simp only [Act.put, List.setIfInBounds_toArray, List.set_cons_zero, List.set_cons_succ]
                refine wpAnyL_take' (i := 10) (v := ?_) (oi := ⟨some 111, .binOp .sub 3 (.tmp 110) (.const (.int .i64 1)) 3, 3, "ref.go:173", #[⟨9, .data⟩, ⟨2, .guard⟩], some (2, true)⟩) rfl (by kernel_rfl) (by kernel_rfl) (by kernel_rfl) (by kernel_rfl) rfl (fun _ _ _ h => h) (Or.inl ⟨by rfl, ?_⟩) HT ?_
                rotate_left
                · intro W hSW
                  go_simp
                  try with_reducible rfl
                simp only [Act.put, List.setIfInBounds_toArray, List.set_cons_zero, List.set_cons_succ]
                refine wpAnyL_take' (i := 11) (v := ?_) (oi := ⟨some 112, .binOp .eql 3 (.tmp 109) (.tmp 111) 3, 4, "ref.go:173", #[⟨8, .data⟩, ⟨10, .data⟩, ⟨2, .guard⟩], some (2, true)⟩) rfl (by kernel_rfl) (by kernel_rfl) (by kernel_rfl) (by kernel_rfl) rfl (fun _ _ _ h => h) (Or.inl ⟨by rfl, ?_⟩) HT ?_
                rotate_left
                · intro W hSW
                  go_simp
                  try with_reducible rfl
                simp only [Act.put, List.setIfInBounds_toArray, List.set_cons_zero, List.set_cons_succ]
                refine wpAnyL_take' (i := 12) (v := ?_) (oi := ⟨some 113, .pick (.tmp 103) (.tmp 112) (.const (.bool false)), 4, "ref.go:173", #[⟨2, .data⟩, ⟨11, .data⟩], none⟩) rfl (by kernel_rfl) (by kernel_rfl) (by kernel_rfl) (by kernel_rfl) rfl (fun _ _ _ h => h) (Or.inl ⟨by rfl, ?_⟩) HT ?_
                rotate_left
                · intro W hSW
                  go_simp
                  try with_reducible rfl
                simp only [Act.put, List.setIfInBounds_toArray, List.set_cons_zero, List.set_cons_succ]
                refine wpAnyL_take' (i := 13) (v := ?_) (oi := ⟨some 114, .move (.tmp 113), 4, "ref.go:173", #[⟨12, .data⟩, ⟨2, .chain⟩], none⟩) rfl (by kernel_rfl) (by kernel_rfl) (by kernel_rfl) (by kernel_rfl) rfl (fun _ _ _ h => h) (Or.inl ⟨by rfl, ?_⟩) HT ?_
                rotate_left
                · intro W hSW
                  go_simp
                  try with_reducible rfl
                simp only [Act.put, List.setIfInBounds_toArray, List.set_cons_zero, List.set_cons_succ]
                refine wpAnyL_take' (i := 14) (v := undef) (oi := ⟨some 115, .fieldAddr 37 (.tmp 12) 0, 0, "ref.go:173", #[⟨13, .guard⟩], some (13, true)⟩) rfl (by kernel_rfl) (by kernel_rfl) (by kernel_rfl) (by kernel_rfl) rfl (fun _ _ _ h => h) (Or.inr ⟨by rfl, rfl⟩) HT ?_
                simp only [Act.put, List.setIfInBounds_toArray, List.set_cons_zero, List.set_cons_succ]
                refine wpAnyL_take' (i := 15) (v := undef) (oi := ⟨some 116, .load 35 (.tmp 115), 35, "ref.go:173", #[⟨14, .data⟩, ⟨13, .guard⟩], some (13, true)⟩) rfl (by kernel_rfl) (by kernel_rfl) (by kernel_rfl) (by kernel_rfl) rfl (fun _ _ _ h => h) (Or.inr ⟨by rfl, rfl⟩) HT ?_
                simp only [Act.put, List.setIfInBounds_toArray, List.set_cons_zero, List.set_cons_succ]
                refine wpAnyL_take' (i := 16) (v := undef) (oi := ⟨some 117, .move (.tmp 15), 3, "ref.go:173", #[⟨13, .guard⟩], some (13, true)⟩) rfl (by kernel_rfl) (by kernel_rfl) (by kernel_rfl) (by kernel_rfl) rfl (fun _ _ _ h => h) (Or.inr ⟨by rfl, rfl⟩) HT ?_
                simp only [Act.put, List.setIfInBounds_toArray, List.set_cons_zero, List.set_cons_succ]
                refine wpAnyL_take' (i := 17) (v := undef) (oi := ⟨some 118, .indexAddr 35 (.tmp 116) (.tmp 117), 0, "ref.go:173", #[⟨15, .data⟩, ⟨16, .data⟩, ⟨13, .guard⟩], some (13, true)⟩) rfl (by kernel_rfl) (by kernel_rfl) (by kernel_rfl) (by kernel_rfl) rfl (fun _ _ _ h => h) (Or.inr ⟨by rfl, rfl⟩) HT ?_
                simp only [Act.put, List.setIfInBounds_toArray, List.set_cons_zero, List.set_cons_succ]
                refine wpAnyL_take' (i := 18) (v := undef) (oi := ⟨some 119, .fieldAddr 39 (.tmp 118) 2, 0, "ref.go:173", #[⟨17, .data⟩, ⟨13, .guard⟩], some (13, true)⟩) rfl (by kernel_rfl) (by kernel_rfl) (by kernel_rfl) (by kernel_rfl) rfl (fun _ _ _ h => h) (Or.inr ⟨by rfl, rfl⟩) HT ?_
                simp only [Act.put, List.setIfInBounds_toArray, List.set_cons_zero, List.set_cons_succ]
                refine wpAnyL_take' (i := 19) (v := undef) (oi := ⟨some 120, .load 3 (.tmp 119), 3, "ref.go:173", #[⟨18, .data⟩, ⟨13, .guard⟩], some (13, true)⟩) rfl (by kernel_rfl) (by kernel_rfl) (by kernel_rfl) (by kernel_rfl) rfl (fun _ _ _ h => h) (Or.inr ⟨by rfl, rfl⟩) HT ?_
                simp only [Act.put, List.setIfInBounds_toArray, List.set_cons_zero, List.set_cons_succ]
                refine wpAnyL_take' (i := 20) (v := undef) (oi := ⟨some 121, .move (.tmp 5), 57, "ref.go:173", #[⟨13, .guard⟩], some (13, true)⟩) rfl (by kernel_rfl) (by kernel_rfl) (by kernel_rfl) (by kernel_rfl) rfl (fun _ _ _ h => h) (Or.inr ⟨by rfl, rfl⟩) HT ?_
                simp only [Act.put, List.setIfInBounds_toArray, List.set_cons_zero, List.set_cons_succ]
                refine wpAnyL_take' (i := 21) (v := undef) (oi := ⟨some 122, .move (.tmp 14), 3, "ref.go:173", #[⟨13, .guard⟩], some (13, true)⟩) rfl (by kernel_rfl) (by kernel_rfl) (by kernel_rfl) (by kernel_rfl) rfl (fun _ _ _ h => h) (Or.inr ⟨by rfl, rfl⟩) HT ?_
                simp only [Act.put, List.setIfInBounds_toArray, List.set_cons_zero, List.set_cons_succ]
                refine wpAnyL_take' (i := 22) (v := undef) (oi := ⟨some 123, .indexAddr 57 (.tmp 121) (.tmp 122), 0, "ref.go:173", #[⟨20, .data⟩, ⟨21, .data⟩, ⟨13, .guard⟩], some (13, true)⟩) rfl (by kernel_rfl) (by kernel_rfl) (by kernel_rfl) (by kernel_rfl) rfl (fun _ _ _ h => h) (Or.inr ⟨by rfl, rfl⟩) HT ?_
                simp only [Act.put, List.setIfInBounds_toArray, List.set_cons_zero, List.set_cons_succ]
                refine wpAnyL_take' (i := 23) (v := undef) (oi := ⟨some 124, .load 3 (.tmp 123), 3, "ref.go:173", #[⟨22, .data⟩, ⟨13, .guard⟩], some (13, true)⟩) rfl (by kernel_rfl) (by kernel_rfl) (by kernel_rfl) (by kernel_rfl) rfl (fun _ _ _ h => h) (Or.inr ⟨by rfl, rfl⟩) HT ?_
                simp only [Act.put, List.setIfInBounds_toArray, List.set_cons_zero, List.set_cons_succ]
                refine wpAnyL_take' (i := 24) (v := undef) (oi := ⟨some 125, .binOp .eql 3 (.tmp 120) (.tmp 124) 3, 4, "ref.go:173", #[⟨19, .data⟩, ⟨23, .data⟩, ⟨13, .guard⟩], some (13, true)⟩) rfl (by kernel_rfl) (by kernel_rfl) (by kernel_rfl) (by kernel_rfl) rfl (fun _ _ _ h => h) (Or.inr ⟨by rfl, rfl⟩) HT ?_
                simp only [Act.put, List.setIfInBounds_toArray, List.set_cons_zero, List.set_cons_succ]
                refine wpAnyL_take' (i := 25) (v := ?_) (oi := ⟨some 126, .pick (.tmp 114) (.tmp 125) (.const (.bool false)), 4, "ref.go:173", #[⟨13, .data⟩, ⟨24, .data⟩], none⟩) rfl (by kernel_rfl) (by kernel_rfl) (by kernel_rfl) (by kernel_rfl) rfl (fun _ _ _ h => h) (Or.inl ⟨by rfl, ?_⟩) HT ?_
                rotate_left
                · intro W hSW
                  go_simp
                  try with_reducible rfl
                simp only [Act.put, List.setIfInBounds_toArray, List.set_cons_zero, List.set_cons_succ]
                refine wpAnyL_done (by kernel_rfl) ?_ _
                go_wp2_with fail
                go_meet
                exact ⟨false, rfl, rfl, ⟨fun e => (by cases e), fun e => absurd e.1 H1.out⟩⟩
            case rest =>
            obtain ⟨T, rfl, hwc, HTT⟩ := hcut
            obtain rfl := hwc.symm
            clear hwc
            have HM3 : Hid (LM l.length (clv c) w2 ob O2 nb2 (.slice oa2 O2.length oc2) Z dv W2.drew) := HM.out.next bd
            have HSB3 : Hid (SB w2 sb R (.slice (some ⟨rg, 0, none⟩) (n + 1) rc2) acc W2.drew ∧ ∀ k, (Value.slice (some ⟨rg, 0, none⟩) (n + 1) rc2).ownBlock = some k → sb < k) := ⟨HSB.out.1.next bd, HSB.out.2⟩
            have tj : W2.drew.drew.cell? ⟨w2.heap.size, kk, none⟩ = some (.int .i64 (j : Int)) := HNJ.out _ (below_drewN bd 1)
            have t0 : W2.drew.drew.cell? ⟨sb, 0, none⟩ = some (.slice (some ⟨rg, 0, none⟩) (n + 1) rc2) := HT.1
            have k1 := HT.2.1
            clear HT HM HSB bd hwm hwm'
            cases T
            case true =>
              have hc9 := HTT.out.1 rfl
              have har := HSB3.out.1.ar
              unfold OwnA at har
              rw [hrl] at har
              have f1 : W2.drew.frozen? ⟨rg, n * 3 + 1, none⟩ = false := World.ownsRow.frozenAt har _
              have hgs : sb < rg := HSB3.out.2 rg rfl
              have s0 : W2.drew.cell? ⟨sb, 0, none⟩ = some (.slice (some ⟨rg, 0, none⟩) (n + 1) rc2) := t0
              have HF : Hid (LM l.length (clv c) w2 ob O2 nb2 (.slice oa2 O2.length oc2) Z dv (W2.drew.setCell ⟨rg, n * 3 + 1, none⟩ (.int .i64 (m : Int))) ∧ SB w2 sb (R' ++ [⟨x.lo, m, x.tg⟩]) (.slice (some ⟨rg, 0, none⟩) (n + 1) rc2) acc (W2.drew.setCell ⟨rg, n * 3 + 1, none⟩ (.int .i64 (m : Int))) ∧ RI l (clv c) O.length a ((m + 1 : Nat) : Int) O2 (R' ++ [⟨x.lo, m, x.tg⟩]) ∧ O <+: O2 ∧ ∀ k, (Value.slice (some ⟨rg, 0, none⟩) (n + 1) rc2).ownBlock = some k → sb < k) := by
                have hsb := HSB3.out.1
                rw [HRN.out.1] at hsb
                have hx9 := SB.ext (R := R') (x := x) (rc := rc2) (by rw [HRN.out.2]; exact hsb) (m : Int)
                rw [HRN.out.2] at hx9
                have hD1 : But (fun k => k = rg) W2.drew (W2.drew.setCell ⟨rg, n * 3 + 1, none⟩ (.int .i64 (m : Int))) := (But.refl _ _).setCell _ _ (.inr rfl)
                refine ⟨HM3.out.but2 HSB3.out.1.lo HLX.out.1 HLX.out.2 hD1 (fun k hk => ?_), hx9, HEXT.out R' x HRN.out.1 (by rw [HXE.out.1]; omega) (by rw [HXE.out.2]; exact hc9.2), HPF.out.1, HSB3.out.2⟩
                subst hk
                obtain ⟨cs, hc⟩ := own_is_cells har (show (Value.slice (some ⟨k, 0, none⟩) (n + 1) rc2).ownBlock = some k from rfl)
                exact ⟨Nat.le_of_lt hgs, cs, .inr hc⟩
              have hrl2 : ∀ y : Ar, (R' ++ [y]).length = n + 1 := fun y => by rw [List.length_append, HRN.out.2]; rfl
              clear hc9 har HTT HM3 HSB3 HNEW HEXT HXE HRN t0 tj HLX HL HB1 HGR HB2 HCL HLO HCI HC0 HDB HAX HD HGC HCN HNJ hgs
              have hnn : n < n + 1 := by omega
              have hn2 : (n : Int) < (n : Int) + 1 := by omega
              go_wp2_with fail
              have HFE := HF.out
              clear HF
              generalize (R' ++ [(⟨x.lo, (m : Int), x.tg⟩ : Ar)]) = R9 at *
              refine ⟨⟨m + 1, O2, nb2, oa2, oc2, R9, .slice (some ⟨rg, 0, none⟩) (n + 1) rc2, rfl, ?_, ?_, HPF.out.2, ?_⟩, ?_⟩
              · go_num
              · clear HFE; omega
              · exact HFE
              · clear HFE HPF; simp [intOf]; omega
            case false =>
              have HNW : Hid (RI l (clv c) O.length a ((m + 1 : Nat) : Int) O2 (R ++ [⟨m, m, j⟩])) := HNEW.out (fun y hy e1 e2 => by
                rw [HRN.out.1] at hy
                simp at hy
                subst hy
                have := HTT.out.2 ⟨by rw [← HXE.out.1]; omega, by rw [← HXE.out.2]; exact e2⟩
                cases this)
              clear HTT HXE HRN HEXT HNEW k1
              go_upto_region 30 with fail
              generalize W2.drew = W3 at *
              have HS3 : ∀ V : World, Below W3.drew.heap.size W3.drew V → V.cell? ⟨sb, 0, none⟩ = some (.slice (some ⟨rg, 0, none⟩) (n + 1) rc2) ∧ V.cell? ⟨w2.heap.size, kk, none⟩ = some (.int .i64 (j : Int)) := fun V h2 => ⟨(h2.cell (p := ⟨sb, 0, none⟩) (World.block_lt_of_cell? _ _ t0)).trans t0, (h2.cell (p := ⟨w2.heap.size, kk, none⟩) (World.block_lt_of_cell? _ _ tj)).trans tj⟩
              obtain ⟨ia, hia, hza0, hza1, hza2⟩ := info_parts infoAr
              have BK : Below W3.drew.heap.size W3.drew (W3.drew.alloc (Obj.cells #[.int .i64 (m : Int), .int .i64 (m : Int), .int .i64 (j : Int)] 39)) := (Below.refl _ _).alloc (Nat.le_refl _) _
              have hAR := HSB3.out.1.ar
              unfold OwnA at hAR
              rw [hrl] at hAR
              have hw3 : w2.heap.size + 1 ≤ W3.drew.heap.size := Nat.le_trans HSB3.out.1.lo (Nat.le_of_lt (blk_lt HSB3.out.1.bx))
              obtain ⟨rv', wn, hap, ho4, hg4, _, hat4⟩ := run_append_own_at (P := Try.prog) (W3.drew.alloc (Obj.cells #[.int .i64 (m : Int), .int .i64 (m : Int), .int .i64 (j : Int)] 39)) (w2.heap.size + 1) 35 35 39 ia _ 3 24 Try.underlying35 hia hza0 hza1 hza2 rfl (by omega) (.slice (some ⟨rg, 0, none⟩) (n + 1) rc2) ((n + 1)) _ (own_below hAR (below_then (below_drewN (Below.refl _ _) 1) BK (Nat.le_refl _))) ⟨W3.drew.heap.size, 0, none⟩ 1 1 [.int .i64 (m : Int), .int .i64 (m : Int), .int .i64 (j : Int)] rfl (new_cell3 W3.drew _ _ _ _) (by simp [Value.oneCell']) (by unfold maxLen; omega) (by omega) (Nat.le_trans hw3 BK.size)
              have B4 : But (fun k => (Value.slice (some ⟨rg, 0, none⟩) (n + 1) rc2).ownBlock = some k) W3 wn := ((But.of_next (below_drewN (Below.refl _ _) 1)).trans (But.of_next BK)).trans (but_grown hg4 (fun r h => h))
              have HF : Hid (LM l.length (clv c) w2 ob O2 nb2 (.slice oa2 O2.length oc2) Z dv (wn.setCell ⟨sb, 0, none⟩ rv') ∧ SB w2 sb (R ++ [⟨m, m, j⟩]) rv' acc (wn.setCell ⟨sb, 0, none⟩ rv') ∧ RI l (clv c) O.length a ((m + 1 : Nat) : Int) O2 (R ++ [⟨m, m, j⟩]) ∧ O <+: O2 ∧ ∀ k, rv'.ownBlock = some k → sb < k) := by
                have hbx := HSB3.out.1.bx
                have hsz := blk_lt hbx
                have hD1 : But (fun k => k = sb ∨ (Value.slice (some ⟨rg, 0, none⟩) (n + 1) rc2).ownBlock = some k) W3 (wn.setCell ⟨sb, 0, none⟩ rv') := (B4.mono (fun k _ hk => .inr hk)).setCell _ _ (.inr (.inl rfl))
                refine ⟨HM3.out.but2 HSB3.out.1.lo HLX.out.1 HLX.out.2 hD1 (fun k hk => ?_), HSB3.out.1.add ⟨m, m, j⟩ B4 (by rw [hrl]; exact ho4), HNW.out, HPF.out.1, fun k hk => ?_⟩
                · rcases hk with rfl | hk
                  · exact ⟨Nat.le_refl _, _, .inl hbx⟩
                  · obtain ⟨cs, hc⟩ := own_is_cells hAR hk
                    exact ⟨Nat.le_of_lt (HSB3.out.2 k hk), cs, .inr hc⟩
                · rcases hat4 with h9 | h9
                  · exact HSB3.out.2 k (by rw [← h9]; exact hk)
                  · rw [h9] at hk
                    cases hk
                    have h8 : W3.drew.heap.size ≤ (W3.drew.alloc (Obj.cells #[.int .i64 (m : Int), .int .i64 (m : Int), .int .i64 (j : Int)] 39)).heap.size := BK.size
                    have h7 : W3.drew.heap.size = W3.heap.size := rfl
                    omega
              have hb4 := but_blk B4 HSB3.out.1.bx (fun e => own_nb hAR HSB3.out.1.bx (by decide) e)
              have fz4 : wn.frozen? ⟨sb, 0, none⟩ = false := Lib.frozen_of_heap hb4 _
              have HS4 : wn.cell? ⟨sb, 0, none⟩ = some (.slice (some ⟨rg, 0, none⟩) (n + 1) rc2) ∧ wn.cell? ⟨w2.heap.size, kk, none⟩ = some (.int .i64 (j : Int)) := ⟨by rw [Lib.cell_of_heap hb4]; rfl, (B4.cell (p := ⟨w2.heap.size, kk, none⟩) (World.block_lt_of_cell? _ _ tj) (fun e => by have h9 : w2.heap.size + 1 ≤ w2.heap.size := (World.ownsRow.lt hAR _ e).1; omega)).trans tj⟩
              obtain ⟨ra', rc', rfl⟩ := slice_of_ownK ho4
              clear ho4 hg4 hat4 B4 hb4 hAR hw3 HM3 HSB3 HNW hia hza0 hza1 hza2 HLX HL HB1 HGR HB2 HCL HLO HCI HC0 HDB HAX HD HGC HCN HNJ t0 tj
              refine wp_region_L (fun W => W.cell? ⟨sb, 0, none⟩ = some (.slice (some ⟨rg, 0, none⟩) (n + 1) rc2) ∧ W.cell? ⟨w2.heap.size, kk, none⟩ = some (.int .i64 (j : Int))) 12 (by kernel_rfl) 13 rfl ?_
              refine wpAnyL_take' (i := 0) (v := ?_) (oi := ⟨some 133, .fieldAddr 37 (.tmp 12) 0, 0, "ref.go:176", #[], none⟩) rfl (by kernel_rfl) (by kernel_rfl) (by kernel_rfl) (by kernel_rfl) rfl (fun _ _ _ h => h) (Or.inl ⟨by rfl, ?_⟩) (HS3 _ (Below.refl _ _)) ?_
              rotate_left
              · intro W hSW
                go_simp
                try with_reducible rfl
              simp only [Act.put, List.setIfInBounds_toArray, List.set_cons_zero, List.set_cons_succ]
              refine wpAnyL_take' (i := 1) (v := ?_) (oi := ⟨some 134, .load 35 (.tmp 133), 35, "ref.go:176", #[⟨0, .data⟩], none⟩) rfl (by kernel_rfl) (by kernel_rfl) (by kernel_rfl) (by kernel_rfl) rfl (fun _ _ _ h => h) (Or.inl ⟨by rfl, ?_⟩) (HS3 _ (Below.refl _ _)) ?_
              rotate_left
              · intro W hSW
                go_simp
                try with_reducible rfl
              simp only [Act.put, List.setIfInBounds_toArray, List.set_cons_zero, List.set_cons_succ]
              refine wpAnyL_take' (i := 2) (v := ?_) (oi := ⟨some 135, .move (.tmp 13), 3, "ref.go:176", #[], none⟩) rfl (by kernel_rfl) (by kernel_rfl) (by kernel_rfl) (by kernel_rfl) rfl (fun _ _ _ h => h) (Or.inl ⟨by rfl, ?_⟩) (HS3 _ (Below.refl _ _)) ?_
              rotate_left
              · intro W hSW
                go_simp
                try with_reducible rfl
              simp only [Act.put, List.setIfInBounds_toArray, List.set_cons_zero, List.set_cons_succ]
              refine wpAnyL_take' (i := 3) (v := ?_) (oi := ⟨some 136, .move (.tmp 13), 3, "ref.go:176", #[], none⟩) rfl (by kernel_rfl) (by kernel_rfl) (by kernel_rfl) (by kernel_rfl) rfl (fun _ _ _ h => h) (Or.inl ⟨by rfl, ?_⟩) (HS3 _ (Below.refl _ _)) ?_
              rotate_left
              · intro W hSW
                go_simp
                try with_reducible rfl
              simp only [Act.put, List.setIfInBounds_toArray, List.set_cons_zero, List.set_cons_succ]
              refine wpAnyL_take' (i := 4) (v := ?_) (oi := ⟨some 137, .move (.tmp 5), 57, "ref.go:176", #[], none⟩) rfl (by kernel_rfl) (by kernel_rfl) (by kernel_rfl) (by kernel_rfl) rfl (fun _ _ _ h => h) (Or.inl ⟨by rfl, ?_⟩) (HS3 _ (Below.refl _ _)) ?_
              rotate_left
              · intro W hSW
                go_simp
                try with_reducible rfl
              simp only [Act.put, List.setIfInBounds_toArray, List.set_cons_zero, List.set_cons_succ]
              refine wpAnyL_take' (i := 5) (v := ?_) (oi := ⟨some 138, .move (.tmp 14), 3, "ref.go:176", #[], none⟩) rfl (by kernel_rfl) (by kernel_rfl) (by kernel_rfl) (by kernel_rfl) rfl (fun _ _ _ h => h) (Or.inl ⟨by rfl, ?_⟩) (HS3 _ (Below.refl _ _)) ?_
              rotate_left
              · intro W hSW
                go_simp
                try with_reducible rfl
              simp only [Act.put, List.setIfInBounds_toArray, List.set_cons_zero, List.set_cons_succ]
              refine wpAnyL_take' (i := 6) (v := ?_) (oi := ⟨some 139, .indexAddr 57 (.tmp 137) (.tmp 138), 0, "ref.go:176", #[⟨4, .data⟩, ⟨5, .data⟩], none⟩) rfl (by kernel_rfl) (by kernel_rfl) (by kernel_rfl) (by kernel_rfl) rfl (fun _ _ _ h => h) (Or.inl ⟨by rfl, ?_⟩) (HS3 _ (Below.refl _ _)) ?_
              rotate_left
              · intro W hSW
                go_simp
                try with_reducible rfl
              simp only [Act.put, List.setIfInBounds_toArray, List.set_cons_zero, List.set_cons_succ]
              refine wpAnyL_take' (i := 7) (v := ?_) (oi := ⟨some 140, .load 3 (.tmp 139), 3, "ref.go:176", #[⟨6, .data⟩], none⟩) rfl (by kernel_rfl) (by kernel_rfl) (by kernel_rfl) (by kernel_rfl) rfl (fun _ _ _ h => h) (Or.inl ⟨by rfl, ?_⟩) (HS3 _ (Below.refl _ _)) ?_
              rotate_left
              · intro W hSW
                go_simp
                try with_reducible rfl
              simp only [Act.put, List.setIfInBounds_toArray, List.set_cons_zero, List.set_cons_succ]
              refine wpAnyL_take' (i := 8) (v := ?_) (oi := ⟨some 141, .build 39 #[(0, .tmp 135), (1, .tmp 136), (2, .tmp 140)], 39, "ref.go:176", #[⟨2, .data⟩, ⟨3, .data⟩, ⟨7, .data⟩], none⟩) rfl (by kernel_rfl) (by kernel_rfl) (by kernel_rfl) (by kernel_rfl) rfl (fun _ _ _ h => h) (Or.inl ⟨by rfl, ?_⟩) (HS3 _ (Below.refl _ _)) ?_
              rotate_left
              · intro W hSW
                go_simp
                try with_reducible rfl
              simp only [Act.put, List.setIfInBounds_toArray, List.set_cons_zero, List.set_cons_succ]
              refine wpAnyL_one' (i := 9) (o := ⟨some 142, .buildSlice 35 1 #[(0, .tmp 141)], 35, "ref.go:176", #[⟨8, .data⟩], none⟩) (by kernel_rfl) rfl rfl (fun K hK => ?_)
              go_simp
              refine hK.out _ _ (fun _ => HS3 _ BK) ?_
              clear hK
              try simp only [Act.put, List.setIfInBounds_toArray, List.set_cons_zero, List.set_cons_succ]
              refine wpAnyL_one' (i := 10) (o := ⟨some 143, .call ⟨.builtin .append, #[.tmp 134, .tmp 142], #[35, 35]⟩, 35, "ref.go:176", #[⟨1, .data⟩, ⟨9, .data⟩], none⟩) (by kernel_rfl) rfl rfl (fun K hK => ?_)
              refine step_append_runI rfl _ _ 35 35 rfl _ _ rfl rfl hap ?_
              refine hK.out _ _ (fun _ => HS4) ?_
              clear hK
              simp only [Act.put, List.setIfInBounds_toArray, List.set_cons_zero, List.set_cons_succ]
              refine wpAnyL_take' (i := 11) (v := ?_) (oi := ⟨some 144, .fieldAddr 37 (.tmp 12) 0, 0, "ref.go:176", #[⟨0, .phase⟩, ⟨1, .phase⟩, ⟨2, .phase⟩, ⟨3, .phase⟩, ⟨4, .phase⟩, ⟨5, .phase⟩, ⟨6, .phase⟩, ⟨7, .phase⟩, ⟨8, .phase⟩, ⟨9, .phase⟩, ⟨10, .phase⟩], none⟩) rfl (by kernel_rfl) (by kernel_rfl) (by kernel_rfl) (by kernel_rfl) rfl (fun _ _ _ h => h) (Or.inl ⟨by rfl, ?_⟩) HS4 ?_
              rotate_left
              · intro W hSW
                go_simp
                try with_reducible rfl
              simp only [Act.put, List.setIfInBounds_toArray, List.set_cons_zero, List.set_cons_succ]
              refine wpAnyL_one' (i := 12) (o := ⟨none, .store 35 (.tmp 144) (.tmp 143), 0, "ref.go:176", #[⟨11, .data⟩, ⟨10, .data⟩, ⟨10, .chain⟩, ⟨0, .phase⟩, ⟨1, .phase⟩, ⟨2, .phase⟩, ⟨3, .phase⟩, ⟨4, .phase⟩, ⟨5, .phase⟩, ⟨6, .phase⟩, ⟨7, .phase⟩, ⟨8, .phase⟩, ⟨9, .phase⟩, ⟨10, .phase⟩], none⟩) (by kernel_rfl) rfl rfl (fun K hK => ?_)
              go_simp
              refine hK.out _ _ (fun h => absurd h (by decide)) ?_
              clear hK
              refine wpAnyL_done (by kernel_rfl) ?_ _
              clear HS3 HS4 fz4 hap BK
              go_wp2_with fail
              have HFE := HF.out
              clear HF
              generalize (R ++ [(⟨(m : Int), (m : Int), (j : Int)⟩ : Ar)]) = R9 at *
              refine ⟨⟨m + 1, O2, nb2, oa2, oc2, R9, .slice ra' ((n + 1) + 1) rc', rfl, ?_, ?_, HPF.out.2, ?_⟩, ?_⟩
              · go_num
              · clear HFE; omega
              · exact HFE
              · clear HFE HPF; simp [intOf]; omega
end Go.Proofs.Ytdalomibilicfaa
