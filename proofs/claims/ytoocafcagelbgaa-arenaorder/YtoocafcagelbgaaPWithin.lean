/- within: the iterator. -/
import Derived.Test.YtoocafcagelbgaaPWalk
namespace Go.Proofs.Ytoocafcagelbgaa
open Go.RowKit Go.Shelf
attribute [local go_sem] Oper.semAt_some

theorem run_store_func {P : Program} {w : World} {a : Addr} {m : Mode} (f : Fn) (x y : Array Value) : (store a (.func f x y) m).run P w = stored P w a (.func f x y) m := run_store P w a _ m rfl
attribute [local go_sem] run_store_func
/-- Roots that are there. -/
def rN (xs : List Int) : List Nat := (xs.filter fun r => decide (r ≠ -1)).map Int.toNat
theorem rN_take {xs : List Int} {j : Nat} (h : j < xs.length) : rN (xs.take (j + 1)) = if xs[j] = -1 then rN (xs.take j) else rN (xs.take j) ++ [xs[j].toNat] := by
  unfold rN
  rw [List.take_succ_eq_append_getElem h, List.filter_append, List.map_append]
  by_cases e : xs[j] = -1
  · rw [if_pos e]; simp [e]
  · rw [if_neg e]; simp [e]
/-- All places within roots. -/
def allP (l : List Sl) (roots : List Int) : List Nat := allW (Kf l) l.length (rN roots)
theorem within_any (sa : Option Addr) (n c : Nat) (fr : Int) (rv : Value) (xa : Option Addr) (xn xc : Nat) (w : World) :
    Calls Try.prog 43 #[.agg #[.slice sa n c, .int .i64 fr, rv], .slice xa xn xc] w fun e w' => e = .returned (.func (.func 61) #[] #[.pointer (some ⟨w.heap.size, 0, none⟩), .pointer (some ⟨w.heap.size + 1, 0, none⟩)]) ∧ ArBox w.heap.size sa n c fr rv w' ∧ w'.cell? ⟨w.heap.size + 1, 0, none⟩ = some (.slice xa xn xc) ∧ w'.heap.size = w.heap.size + 2 ∧ Below w.heap.size w w' := by
  have B0 : Below w.heap.size w ((w.alloc (Obj.cells #[.slice sa n c, .int .i64 fr, rv] 25)).alloc (Obj.cells #[.slice xa xn xc] 23)) := ((Below.refl _ _).alloc (Nat.le_refl _) _).alloc (by simp) _
  have b1 : ArBox w.heap.size sa n c fr rv ((w.alloc (Obj.cells #[.slice sa n c, .int .i64 fr, rv] 25)).alloc (Obj.cells #[.slice xa xn xc] 23)) := ArBox.next (W := w.alloc (Obj.cells #[.slice sa n c, .int .i64 fr, rv] 25)) ⟨by simp, by simp, by simp⟩ ((Below.refl _ _).alloc (Nat.le_refl _) _)
  have b2 : ((w.alloc (Obj.cells #[.slice sa n c, .int .i64 fr, rv] 25)).alloc (Obj.cells #[.slice xa xn xc] 23)).cell? ⟨w.heap.size + 1, 0, none⟩ = some (.slice xa xn xc) := by
    have := World.alloc_heap_new (w.alloc (Obj.cells #[.slice sa n c, .int .i64 fr, rv] 25)) (Obj.cells #[.slice xa xn xc] 23)
    rw [World.size_alloc] at this
    rw [Lib.cell_of_heap this]; rfl
  have b3 : ((w.alloc (Obj.cells #[.slice sa n c, .int .i64 fr, rv] 25)).alloc (Obj.cells #[.slice xa xn xc] 23)).heap.size = w.heap.size + 2 := by simp
  go_enter Try.func43, Try.ntmps43
  go_wp2_with fail
  go_ret
  exact ⟨rfl, b1, b2, b3, B0⟩

set_option maxRecDepth 100000 in
set_option maxHeartbeats 8000000 in
theorem within_gives (q : Nat) (l : List Sl) (sa : Option Addr) (c : Nat) (fr : Int) (rv : Value) (roots : List Int) (xa : Option Addr) (xc : Nat) (w0 : World) (hs : SlotsAt l sa w0) (hka : ∀ s ∈ l, areB l.length s.kids = true) (hkl : ∀ s ∈ l, s.kids.length ≤ 1000000) (hlen : l.length ≤ 4096) (hra : rootsB l.length roots = true) (hrl : roots.length ≤ 140737488351232)
    (ab rb : Nat) (A0 : Nat → Prop) (W : World) (hab : ArBox ab sa l.length c fr rv W) (hrb : W.cell? ⟨rb, 0, none⟩ = some (.slice xa roots.length xc)) (hA : A0 ab) (hroots : ∀ W', Below w0.heap.size w0 W' → SlI roots (.slice xa roots.length xc) W') :
    GivesT q Try.prog 61 #[.pointer (some ⟨ab, 0, none⟩), .pointer (some ⟨rb, 0, none⟩)] encN (fun xs _ => xs = allP l roots) OkN (fun pre => pre <+: allP l roots) A0 (FxN w0) W := by
  intro lb J St hF hJ
  show CallsIn Fence.wide q Try.prog 61 #[.func (.yield lb) #[] #[], .pointer (some ⟨ab, 0, none⟩), .pointer (some ⟨rb, 0, none⟩)] W _
  obtain ⟨ii, hii, hz0, hz1, hz2⟩ := info_parts (show (Try.prog.info? 4).map (fun i => (i.zero, i.size, i.bytes)) = some (some (.bool false), 1, 1) by kernel_rfl)
  have HAB : Hid (ArBox ab sa l.length c fr rv W) := hab
  have HRB : Hid (W.cell? ⟨rb, 0, none⟩ = some (.slice xa roots.length xc)) := hrb
  refine callsIn_of_wp Try.func61 rfl trivial ?_ rfl
  simp only [Try.ntmps61, List.size_toArray, List.length_cons, List.length_nil, Nat.reduceAdd, Nat.reduceSub, Array.replicate_succ, Array.replicate_zero, List.push_toArray, List.append_toArray, List.nil_append, List.cons_append]
  have BY : Below W.heap.size W (W.alloc (Obj.cells #[.func (.yield lb) #[] #[]] 89)) := (Below.refl _ _).alloc (Nat.le_refl _) _
  obtain ⟨a0, a1, a2⟩ := hab.next BY
  obtain ⟨wm, hm1, hm2, hm3⟩ := run_makeSlice_full (P := Try.prog) (W.alloc (Obj.cells #[.func (.yield lb) #[] #[]] 89)) 0 53 4 ii _ 1 Try.underlying53 hii hz0 hz1 .i64 .i64 l.length (by omega) (by rw [hz2]; omega) (by unfold maxLen; omega) (Nat.zero_le _)
  simp only [World.size_alloc] at hm2
  have BM : Below W.heap.size W wm := BY.trans (((But.refl (fun _ => False) _).grown hm3 (fun r h => by cases h)).below (by simp) (fun _ h => h.elim))
  have hgl : W.heap.size + 1 < wm.heap.size := (World.ownsRow.lt hm2 (W.heap.size + 1) rfl).2
  obtain ⟨W2, hW2⟩ : ∃ W2, W2 = (wm.alloc (Obj.cells #[Value.slice (some ⟨W.heap.size + 1, 0, none⟩) l.length l.length] 53)).alloc (Obj.cells #[Value.func (Fn.func 62) #[] #[.pointer (some ⟨wm.heap.size, 0, none⟩), .pointer (some ⟨ab, 0, none⟩), .pointer (some ⟨wm.heap.size + 1, 0, none⟩), .pointer (some ⟨W.heap.size, 0, none⟩)]] 89) := ⟨_, rfl⟩
  have B2 : Below wm.heap.size wm W2 := by rw [hW2]; exact ((Below.refl _ _).alloc (Nat.le_refl _) _).alloc (by simp) _
  have BW2 : Below W.heap.size W W2 := below_next BM B2
  have hz2' : W2.heap.size = wm.heap.size + 2 := by rw [hW2]; simp
  have habl := World.block_lt_of_cell? _ _ HAB.out.c0
  have hrbl := World.block_lt_of_cell? _ _ HRB.out
  simp only at habl hrbl
  have hrow2 : W2.ownsRow 0 4 1 (.slice (some ⟨W.heap.size + 1, 0, none⟩) l.length l.length) l.length ((List.replicate l.length false).map encB) := by
    have h1 : (madeCells (Value.bool false).cells (l.length * 1)).toList = (List.replicate l.length false).map encB := by
      rw [Nat.mul_one]
      have : (madeCells #[Value.bool false] l.length).toList = List.replicate l.length (encB false) := toList_madeCells_one _ _
      rw [List.map_replicate]; exact this
    rw [h1] at hm2
    exact ownsRow_below4 hm2 B2
  have HW2 : Hid (WB lb sa l.length c fr rv wm.heap.size ab (wm.heap.size + 1) W.heap.size (W.heap.size + 1) (List.replicate l.length false) W2) := by
    refine ⟨?_, HAB.out.next BW2, ?_, ?_, hrow2, by simp, by omega⟩
    · have : W2.heap[wm.heap.size]? = some (Obj.cells #[Value.slice (some ⟨W.heap.size + 1, 0, none⟩) l.length l.length] 53) := by
        rw [hW2]; exact (Below.heap_alloc _ _ _ (by simp)).trans (World.alloc_heap_new wm _)
      rw [Lib.cell_of_heap this]; rfl
    · have := World.alloc_heap_new (wm.alloc (Obj.cells #[Value.slice (some ⟨W.heap.size + 1, 0, none⟩) l.length l.length] 53)) (Obj.cells #[Value.func (Fn.func 62) #[] #[.pointer (some ⟨wm.heap.size, 0, none⟩), .pointer (some ⟨ab, 0, none⟩), .pointer (some ⟨wm.heap.size + 1, 0, none⟩), .pointer (some ⟨W.heap.size, 0, none⟩)]] 89)
      rw [World.size_alloc, ← hW2] at this
      rw [Lib.cell_of_heap this]; rfl
    · have h0 : (W.alloc (Obj.cells #[.func (.yield lb) #[] #[]] 89)).heap[W.heap.size]? = some (Obj.cells #[.func (.yield lb) #[] #[]] 89) := World.alloc_heap_new W _
      have h1 : wm.heap[W.heap.size]? = some (Obj.cells #[.func (.yield lb) #[] #[]] 89) := (hm3.block _ (by simp) (by simp)).trans h0
      have h2 := (B2.block W.heap.size (by omega)).trans h1
      rw [Lib.cell_of_heap h2]; rfl
  obtain ⟨A1, hA1⟩ : ∃ A1 : Nat → Prop, A1 = (fun k => A0 k ∨ (W.heap.size ≤ k ∧ k < W2.heap.size)) := ⟨_, rfl⟩
  have HJ2 : Hid (J A1 [] W2) := by rw [hA1]; exact hF.new _ _ _ _ hJ BW2
  have HA : Hid (A1 wm.heap.size ∧ A1 ab ∧ A1 (wm.heap.size + 1) ∧ A1 W.heap.size ∧ A1 (W.heap.size + 1)) := by
    rw [hA1]
    exact ⟨.inr ⟨by omega, by omega⟩, .inl hA, .inr ⟨by omega, by omega⟩, .inr ⟨by omega, by omega⟩, .inr ⟨by omega, by omega⟩⟩
  have HAL : Hid ((∀ xs W', J A1 xs W' → J A0 xs W') ∧ (∀ W', St A1 W' → St A0 W')) := by
    rw [hA1]
    exact ⟨fun xs W' h => hF.less _ _ _ _ h (fun k hk => .inl hk), fun W' h => hF.sless _ _ _ h (fun k hk => .inl hk)⟩
  have r2 := (BW2.cell (p := ⟨rb, 0, none⟩) hrbl).trans HRB.out
  have HFF : Hid (FeedsT (q - 1) Try.prog lb encN OkN (fun pre => pre <+: allP l roots) (FxN w0) J St) := hF
  have HREC : Hid _ := walkA_in (q - 1) lb l sa c fr rv w0 (allP l roots) hs hka hkl hlen J St hF wm.heap.size ab (wm.heap.size + 1) W.heap.size (W.heap.size + 1) (l.length + 1)
  have HRA : Hid (∀ p ∈ roots, rootB l.length p = true) := List.all_eq_true.1 hra
  have HRT : Hid (∀ W', Below w0.heap.size w0 W' → SlI roots (.slice xa roots.length xc) W') := hroots
  have HRBL : Hid (rb < W.heap.size) := hrbl
  rw [hW2] at r2
  clear hrb hF hJ hrow2 hm3 BY hA1 habl hrbl hz2' hA hs hka hkl hra hroots B2
  gi_wp2
  rw [← hW2]
  gi_loopw [15] (fun iv wr => ∃ (j : Nat), iv = .int .i64 j ∧ j ≤ roots.length ∧ Hid (J A1 (wkRow (wk (Kf l) (l.length + 1)) (List.replicate l.length false) (rN (roots.take j))).2 wr ∧ WB lb sa l.length c fr rv wm.heap.size ab (wm.heap.size + 1) W.heap.size (W.heap.size + 1) (wkRow (wk (Kf l) (l.length + 1)) (List.replicate l.length false) (rN (roots.take j))).1 wr)) (fun iv _ => roots.length - (intOf iv).toNat)
  case atStart => exact ⟨0, rfl, Nat.zero_le _, by simpa [wkRow, rN] using HJ2.out, by simpa [wkRow, rN] using HW2.out⟩
  case round =>
  obtain ⟨j, rfl, hj, HF⟩ := hrel
  obtain ⟨c0, ⟨a0, a1, a2⟩, w1, y1, _, _, _⟩ := HF.out.2
  obtain ⟨_, _, e0', hkr, _⟩ := HRT.out wr (HFF.out.fx _ _ _ HF.out.1)
  simp only [Value.slice.injEq] at e0'
  obtain ⟨rfl, -, rfl⟩ := e0'
  by_cases hlt : j < roots.length
  · have k1 : (j : Int) < roots.length := by omega
    obtain ⟨b3, o3, rfl, hb3, p3⟩ := hkr.at (Below.refl _ _) hlt
    have hrb := HRA.out roots[j] (List.getElem_mem hlt)
    have htk := rN_take hlt
    have hpre : rN (roots.take (j + 1)) <+: rN roots := by
      unfold rN
      exact List.IsPrefix.map _ (List.IsPrefix.filter _ (List.take_prefix _ _))
    simp only [encI] at p3
    generalize roots[j] = y at *
    by_cases hy1 : y = -1
    · subst hy1
      have d5 : ((-1 : Int) != -1) = false := rfl
      rw [if_pos rfl] at htk
      have HE : Hid (J A1 (wkRow (wk (Kf l) (l.length + 1)) (List.replicate l.length false) (rN (roots.take (j + 1)))).2 wr ∧ WB lb sa l.length c fr rv wm.heap.size ab (wm.heap.size + 1) W.heap.size (W.heap.size + 1) (wkRow (wk (Kf l) (l.length + 1)) (List.replicate l.length false) (rN (roots.take (j + 1)))).1 wr) := by rw [htk]; exact HF.out
      clear HREC hpre htk HF hrb hkr
      gi_wp2
      refine ⟨fun f h => (by cases h), ?_⟩
      gi_wp2
      go_roundw
      case rel => exact ⟨j + 1, by go_num, by omega, HE.out⟩
      case measure => simp [intOf]; omega
    · have d5 : (y != -1) = true := by simpa using hy1
      rw [if_neg hy1] at htk
      obtain ⟨y, rfl, hy⟩ := isSl_in (show isSl l.length y = true by unfold rootB at hrb; simpa [hy1] using hrb)
      simp only [Int.toNat_natCast] at htk
      have hap := congrArg (wkRow (wk (Kf l) (l.length + 1)) (List.replicate l.length false)) htk
      rw [wkRow_app] at hap
      have hgr := grows_row (grows_wk (Kf l) (l.length + 1)) (rN (roots.take j)) (List.replicate l.length false)
      have hun : unmet (List.replicate l.length false) ≤ l.length := by unfold unmet; exact Nat.le_trans List.count_le_length (by simp)
      have hrec := fun q' => HREC.out y A1 (wkRow (wk (Kf l) (l.length + 1)) (List.replicate l.length false) (rN (roots.take j))).2 (wkRow (wk (Kf l) (l.length + 1)) (List.replicate l.length false) (rN (roots.take j))).1 wr q' HF.out.1 HF.out.2 HA.out hy (by have := hgr.un; omega) (by
        obtain ⟨t, ht⟩ := hpre
        unfold allP allW
        rw [← ht, htk, wkRow_app, wkRow_app]
        simp only [wkRow, List.append_nil]
        exact List.prefix_append _ _)
      simp only [wkRow, List.append_nil] at hap
      have HAP : Hid (wkRow (wk (Kf l) (l.length + 1)) (List.replicate l.length false) (rN (roots.take (j + 1))) = _) := hap
      generalize wkRow (wk (Kf l) (l.length + 1)) (List.replicate l.length false) (rN (roots.take j)) = r0 at *
      have hrec1 := hrec (q - 1)
      clear hrec hgr hpre htk hkr HF hrb hap hun HREC hy1
      gi_wp2
      refine ⟨trivial, fun h => (by cases h), hrec1.mono ?_⟩
      rintro e W5 (⟨rfl, hJ5, hW5⟩ | ⟨rfl, hSt⟩)
      · have HE : Hid (J A1 (wkRow (wk (Kf l) (l.length + 1)) (List.replicate l.length false) (rN (roots.take (j + 1)))).2 W5 ∧ WB lb sa l.length c fr rv wm.heap.size ab (wm.heap.size + 1) W.heap.size (W.heap.size + 1) (wkRow (wk (Kf l) (l.length + 1)) (List.replicate l.length false) (rN (roots.take (j + 1)))).1 W5) := by
          rw [HAP.out]; exact ⟨hJ5, hW5⟩
        clear hrec1 hJ5 hW5 HAP
        gi_wp2
        go_roundw
        case rel => exact ⟨j + 1, by go_num, by omega, HE.out⟩
        case measure => simp [intOf]; omega
      · have HST : Hid (St A0 W5) := HAL.out.2 _ hSt
        clear hrec1 hSt HAP
        gi_wp2
        refine bodyPost_ret (results_none rfl _ _ _) rfl ?_
        exact ⟨⟨_, rfl⟩, .inr HST.out⟩
  · have hnl : ¬ (j : Int) < roots.length := by omega
    have HE : Hid (J A0 (allP l roots) wr) := by
      have := HF.out.1
      rw [List.take_of_length_le (by omega)] at this
      exact HAL.out.1 _ _ this
    clear HF HREC hkr
    gi_wp2
    go_end0
    exact ⟨⟨_, rfl⟩, .inl HE.out⟩
end Go.Proofs.Ytoocafcagelbgaa
