/- Classes of states: classArcs. -/
import Derived.Test.YtdalomibilicfaaPAccept
namespace Go.Proofs.Ytdalomibilicfaa
open Go.RowKit Go.Shelf
attribute [local go_sem] Oper.semAt_some

def encC (x : Ar) : Array Value := #[.agg #[.int .i64 x.lo, .int .i64 x.hi, .int .i64 0], .int .i64 x.tg]
/-- What is read only. -/
def FxC (w : World) (av cv : Value) (ac : Int) (Bs Bc : Nat) (V : World) : Prop := Below w.heap.size w V ∧ V.heap[Bs]? = some (Obj.cells #[av, .int .i64 ac] 37) ∧ V.heap[Bc]? = some (Obj.cells #[cv] 57)

set_option maxRecDepth 100000 in
set_option maxHeartbeats 800000 in
theorem classArcs_any (av cv : Value) (ac : Int) (ha : ∃ a n c, av = .slice a n c) (hc : ∃ a n c, cv = .slice a n c) (w : World) : Calls Try.prog 54 #[.agg #[av, .int .i64 ac], cv] w fun e w' => e = .returned (.func (.func 67) #[] #[.pointer (some ⟨w.heap.size, 0, none⟩), .pointer (some ⟨w.heap.size + 1, 0, none⟩)]) ∧ w' = (w.alloc (Obj.cells #[av, .int .i64 ac] 37)).alloc (Obj.cells #[cv] 57) := by
  obtain ⟨va, vn, vc, rfl⟩ := ha
  obtain ⟨ua, un, uc, rfl⟩ := hc
  go_enter Try.func54, Try.ntmps54
  go_wp2_with fail
  go_ret
  exact ⟨rfl, rfl⟩

set_option maxRecDepth 100000 in
set_option maxHeartbeats 3200000 in
theorem classArcs_gives (n : Nat) (l : List Ar) (c : List Int) (av cv : Value) (ac : Int) (Bs Bc : Nat) (w W : World) (hl : SlA l av w) (hc : SlI c cv w) (hb : ∀ x ∈ l, 0 ≤ x.tg ∧ x.tg < c.length ∧ x.hi ≤ 255 ∧ 0 ≤ x.lo ∧ x.lo ≤ x.hi) :
    GivesT n Try.prog 67 #[.pointer (some ⟨Bs, 0, none⟩), .pointer (some ⟨Bc, 0, none⟩)] encC (fun xs _ => xs = runC (clsOf c) l) (fun _ _ _ => True) (fun xs => xs <+: runC (clsOf c) l) (fun _ => False) (FxC w av cv ac Bs Bc) W := by
  intro yl J St hF hJ
  show CallsIn Fence.wide n Try.prog 67 #[.func (.yield yl) #[] #[], .pointer (some ⟨Bs, 0, none⟩), .pointer (some ⟨Bc, 0, none⟩)] W _
  have HF : Hid (FeedsT (n - 1) Try.prog yl encC (fun _ _ _ => True) (fun xs => xs <+: runC (clsOf c) l) (FxC w av cv ac Bs Bc) J St) := hF
  have HJ : Hid (J (fun _ => False) [] W) := hJ
  have fx0 := hF.fx _ _ _ hJ
  clear hF hJ
  have HL : Hid (∀ V, Below w.heap.size w V → SlA l av V ∧ SlI c cv V) := fun V hV => ⟨hl.next hV, hc.next hV⟩
  have HB : Hid (∀ x ∈ l, 0 ≤ x.tg ∧ x.tg < c.length ∧ x.hi ≤ 255 ∧ 0 ≤ x.lo ∧ x.lo ≤ x.hi) := hb
  obtain ⟨va, vc, rfl, _, _, _, hln⟩ := hl
  obtain ⟨ua, uc, rfl, _⟩ := hc
  clear hb
  have c1 : W.cell? ⟨Bs, 0, none⟩ = some (.slice va l.length vc) := by rw [Lib.cell_of_heap fx0.2.1]; rfl
  have hBs : Bs < W.heap.size := blk_lt fx0.2.1
  clear fx0
  refine callsIn_of_wp Try.func67 rfl trivial ?_ rfl
  simp only [Try.ntmps67, List.size_toArray, List.length_cons, List.length_nil, Nat.reduceAdd, Nat.reduceSub, Array.replicate_succ, Array.replicate_zero, List.push_toArray, List.append_toArray, List.nil_append, List.cons_append]
  gi_wp2
  gi_loopw [5, 12] (fun lv iv wr => ∃ (j : Nat) (lo hi last : Int) (A : Nat → Prop) (xs : List Ar), iv = .int .i64 j ∧ lv = .int .i64 last ∧ j ≤ l.length ∧ -1 ≤ hi ∧ hi ≤ 255 ∧ Hid (wr.heap[W.heap.size]? = some (Obj.cells #[.int .i64 lo, .int .i64 hi, .int .i64 0] 39) ∧ runC (clsOf c) l = xs ++ crun (clsOf c) lo hi last (l.drop j) ∧ J A xs wr ∧ A W.heap.size)) (fun _ i _ => l.length - (intOf i).toNat)
  case atStart =>
    refine ⟨0, 0, 0, 0, _, [], rfl, rfl, Nat.zero_le _, by omega, by omega, ?_, rfl, HF.out.new _ _ _ _ HJ.out ?_, .inr ⟨Nat.le_refl _, ?_⟩⟩
    · exact heap_alloc_new _ _
    · exact (Below.refl _ _).alloc (Nat.le_refl _) _
    · simp
  case round =>
    obtain ⟨j, lo, hi, last, A, xs, rfl, rfl, hj, hh1, hh2, HX⟩ := hrel
    clear HJ c1
    have fx := HF.out.fx _ _ _ HX.out.2.2.1
    have cw : wr.heap[W.heap.size]? = some (Obj.cells #[.int .i64 lo, .int .i64 hi, .int .i64 0] 39) := HX.out.1
    have c4 : wr.cell? ⟨W.heap.size, 0, none⟩ = some (.int .i64 lo) ∧ wr.cell? ⟨W.heap.size, 1, none⟩ = some (.int .i64 hi) ∧ wr.cell? ⟨W.heap.size, 2, none⟩ = some (.int .i64 0) := ⟨by rw [Lib.cell_of_heap cw]; rfl, by rw [Lib.cell_of_heap cw]; rfl, by rw [Lib.cell_of_heap cw]; rfl⟩
    obtain ⟨c40, c41, c42⟩ := c4
    by_cases hlt : j < l.length
    case neg =>
      obtain rfl : j = l.length := by omega
      have d0 : decide ((l.length : Int) < l.length) = false := decide_eq_false (by omega)
      clear fx
      by_cases h0 : last = 0
      · have d1 : (last != 0) = false := by simp [h0]
        have HE : Hid (xs = runC (clsOf c) l ∧ J (fun _ => False) xs wr) := by
          obtain ⟨_, q2, q3, _⟩ := HX.out
          refine ⟨?_, HF.out.less _ _ _ _ q3 (fun _ h => h.elim)⟩
          rw [q2, List.drop_of_length_le (Nat.le_refl _), crun, if_pos h0, List.append_nil]
        clear HX HF HL HB
        gi_wp2
        go_end0
        exact ⟨⟨_, rfl⟩, .inl ⟨xs, HE.out⟩⟩
      · have d1 : (last != 0) = true := by simp [h0]
        have HPF : Hid (xs ++ [⟨lo, hi, last⟩] = runC (clsOf c) l) := by
          show _ = _
          rw [HX.out.2.1, List.drop_of_length_le (Nat.le_refl _), crun, if_neg h0]
        obtain ⟨fn, tmps, assign, body, hyl, hR⟩ := yield_any (m' := n - 1) (HF.out.yield A xs ⟨lo, hi, last⟩ _ HX.out.2.2.1 trivial (by rw [HPF.out]; exact List.prefix_refl _))
        unfold encC at hyl
        simp only at hyl
        have HLess : Hid ((∀ A B pre V, J A pre V → (∀ k, B k → A k) → J B pre V) ∧ ∀ A B V, St A V → (∀ k, B k → A k) → St B V) := ⟨HF.out.less, HF.out.sless⟩
        clear HX HF HL HB
        gi_wp2
        refine ⟨fun h => (by cases h), hR.mono ?_⟩
        rintro e W3 (⟨rfl, hJ3, _⟩ | ⟨rfl, hSt, _⟩)
        · have HE : Hid (xs ++ [⟨lo, hi, last⟩] = runC (clsOf c) l ∧ J (fun _ => False) (xs ++ [⟨lo, hi, last⟩]) W3) := ⟨HPF.out, HLess.out.1 _ _ _ _ hJ3 (fun _ h => h.elim)⟩
          clear hR hyl hJ3 HPF HLess cw c40 c41 c42
          gi_wp2
          go_end0
          exact ⟨⟨_, rfl⟩, .inl ⟨_, HE.out⟩⟩
        · have HE : Hid (St (fun _ => False) W3) := HLess.out.2 _ _ _ hSt (fun _ h => h.elim)
          clear hR hyl hSt HPF HLess cw c40 c41 c42
          gi_wp2
          go_end0
          exact ⟨⟨_, rfl⟩, .inr HE.out⟩
    have d0 : decide ((j : Int) < l.length) = true := decide_eq_true (by omega)
    obtain ⟨⟨_, _, e1, ha, _⟩, ⟨_, _, e2, hcr, _, _, hci⟩⟩ := HL.out _ fx.1
    cases e1
    cases e2
    obtain ⟨b, off, rfl, hbw, a1, a2, a3, i1, i2, i3⟩ := ha.at (Below.refl _ _) hlt
    have hx := HB.out l[j] (List.getElem_mem hlt)
    have HD : Hid (l.drop j = l[j] :: l.drop (j + 1)) := List.drop_eq_getElem_cons hlt
    generalize l[j] = x at *
    obtain ⟨xl, xh, tg⟩ := x
    simp only at a1 a2 a3 i1 i2 i3 hx
    obtain ⟨t, rfl⟩ := Int.eq_ofNat_of_zero_le hx.1
    obtain ⟨_, hxt, hxh, hxl, hxx⟩ := hx
    have htl : t < c.length := by omega
    obtain ⟨ub, uo, rfl, hub, ct⟩ := hcr.at (Below.refl _ _) htl
    have HQ : Hid (clsOf c (t : Int) = c[t]) := by
      show _ = _
      unfold clsOf
      rw [if_neg (by omega), Int.toNat_natCast, List.getElem?_eq_getElem htl]; rfl
    generalize c[t] = q at *
    have ct2 : wr.cell? ⟨ub, uo + t, none⟩ = some (.int .i64 q) := ct
    have cb : wr.cell? ⟨Bc, 0, none⟩ = some (.slice (some ⟨ub, uo, none⟩) c.length uc) := by rw [Lib.cell_of_heap fx.2.2]; rfl
    have hbc : Bc < wr.heap.size := blk_lt fx.2.2
    have hws : W.heap.size < wr.heap.size := blk_lt cw
    have B1 : Below wr.heap.size wr (wr.alloc (Obj.cells #[.int .i64 xl, .int .i64 xh, .int .i64 t] 39)) := (Below.refl _ _).alloc (Nat.le_refl _) _
    have HJ0 : Hid (J A xs wr) := HX.out.2.2.1
    have HJ1 : Hid (J (fun k => A k ∨ (wr.heap.size ≤ k ∧ k < (wr.alloc (Obj.cells #[.int .i64 xl, .int .i64 xh, .int .i64 t] 39)).heap.size)) xs (wr.alloc (Obj.cells #[.int .i64 xl, .int .i64 xh, .int .i64 t] 39)) ∧ A W.heap.size ∧ (wr.alloc (Obj.cells #[.int .i64 xl, .int .i64 xh, .int .i64 t] 39)).heap[W.heap.size]? = some (Obj.cells #[.int .i64 lo, .int .i64 hi, .int .i64 0] 39) ∧ runC (clsOf c) l = xs ++ crun (clsOf c) lo hi last (⟨xl, xh, t⟩ :: l.drop (j + 1))) := ⟨HF.out.new _ _ _ _ HX.out.2.2.1 B1, HX.out.2.2.2, blk_new cw, by rw [← HD.out]; exact HX.out.2.1⟩
    clear HX HD fx ha hcr hci ct B1 HL HB
    have hw2 := hxx
    have hw1 : IntKind.i64.wrap (hi + 1) = hi + 1 := IntWalk.i64_in _ (by omega)
    have fw : ∀ k, wr.frozen? ⟨W.heap.size, k, none⟩ = false := fun k => Lib.frozen_of_heap cw _
    have f0 := fw 0
    have f1 := fw 1
    have f2 := fw 2
    clear fw
    by_cases hm : q = last ∧ xl = hi + 1
    · have d1 : (q == last) = true := by simp [hm.1]
      have d2 : (xl == hi + 1) = true := by simp [hm.2]
      have HE : Hid (∃ A', ((wr.setCell ⟨W.heap.size, 1, none⟩ (.int .i64 xh)).alloc (Obj.cells #[.int .i64 xl, .int .i64 xh, .int .i64 t] 39)).heap[W.heap.size]? = some (Obj.cells #[.int .i64 lo, .int .i64 xh, .int .i64 0] 39) ∧ runC (clsOf c) l = xs ++ crun (clsOf c) lo xh last (l.drop (j + 1)) ∧ J A' xs ((wr.setCell ⟨W.heap.size, 1, none⟩ (.int .i64 xh)).alloc (Obj.cells #[.int .i64 xl, .int .i64 xh, .int .i64 t] 39)) ∧ A' W.heap.size) := by
        obtain ⟨q1, q2, q3, q4⟩ := HJ1.out
        refine ⟨_, blk_new (by simpa using blk_set (o := 1) cw (.int .i64 xh)), ?_, HF.out.new _ _ _ _ (HF.out.turn _ _ _ _ HJ0.out ((But.refl _ _).setCell _ _ (.inr q2))) ((Below.refl _ _).alloc (Nat.le_refl _) _), .inl q2⟩
        rw [q4, crun, if_pos ⟨by simp only; rw [HQ.out]; exact hm.1, hm.2⟩]
      clear HJ1 HJ0 HQ HF hm
      gi_wp2
      go_roundw
      case rel =>
        obtain ⟨A', h1, h2, h3, h4⟩ := HE.out
        exact ⟨j + 1, lo, xh, last, A', xs, by go_num, rfl, by omega, by omega, by omega, h1, h2, h3, h4⟩
      case measure => simp [intOf]; omega
    have HX2 : Hid (crun (clsOf c) lo hi last (⟨xl, xh, t⟩ :: l.drop (j + 1)) = (if last = 0 then [] else [⟨lo, hi, last⟩]) ++ crun (clsOf c) xl xh q (l.drop (j + 1))) := by
      show _ = _
      rw [crun, if_neg (fun h => hm ⟨by rw [← h.1]; exact HQ.out.symm, h.2⟩)]
      simp only
      rw [HQ.out]
    clear HQ
    by_cases hql : q = last
    · skip
      have d1 : (q == last) = true := by simp [hql]
      have d2 : (xl == hi + 1) = false := by simp; exact fun h => hm ⟨hql, h⟩
      clear hm hql
      by_cases h0 : last = 0
      · have d3 : (last != 0) = false := by simp [h0]
        have HE : Hid (∃ A', ((((wr.setCell ⟨W.heap.size, 0, none⟩ (.int .i64 xl)).setCell ⟨W.heap.size, 1, none⟩ (.int .i64 xh)).setCell ⟨W.heap.size, 2, none⟩ (.int .i64 0)).alloc (Obj.cells #[.int .i64 xl, .int .i64 xh, .int .i64 t] 39)).heap[W.heap.size]? = some (Obj.cells #[.int .i64 xl, .int .i64 xh, .int .i64 0] 39) ∧ runC (clsOf c) l = xs ++ crun (clsOf c) xl xh q (l.drop (j + 1)) ∧ J A' xs ((((wr.setCell ⟨W.heap.size, 0, none⟩ (.int .i64 xl)).setCell ⟨W.heap.size, 1, none⟩ (.int .i64 xh)).setCell ⟨W.heap.size, 2, none⟩ (.int .i64 0)).alloc (Obj.cells #[.int .i64 xl, .int .i64 xh, .int .i64 t] 39)) ∧ A' W.heap.size) := by
          obtain ⟨q1, q2, q3, q4⟩ := HJ1.out
          refine ⟨_, blk_new ?_, ?_, HF.out.new _ _ _ _ (HF.out.turn _ _ _ _ HJ0.out ((((But.refl _ _).setCell _ _ (.inr q2)).setCell _ _ (.inr q2)).setCell _ _ (.inr q2))) ((Below.refl _ _).alloc (Nat.le_refl _) _), .inl q2⟩
          · have z1 := blk_set (o := 0) cw (.int .i64 xl)
            have z2 := blk_set (o := 1) z1 (.int .i64 xh)
            simpa using blk_set (o := 2) z2 (.int .i64 0)
          · rw [q4, HX2.out, if_pos h0]; rfl
        clear HJ1 HJ0 HF HX2 h0
        gi_wp2
        refine ⟨fun f h => (by cases h), ?_⟩
        gi_wp2
        all_goals (
          go_roundw
          case rel =>
            obtain ⟨A', h1, h2, h3, h4⟩ := HE.out
            exact ⟨j + 1, xl, xh, q, A', xs, by go_num, rfl, by omega, by omega, by omega, h1, h2, h3, h4⟩
          case measure => simp [intOf]; omega)
      have d3 : (last != 0) = true := by simp [h0]
      have HPF : Hid (runC (clsOf c) l = (xs ++ [⟨lo, hi, last⟩]) ++ crun (clsOf c) xl xh q (l.drop (j + 1))) := by
        show _ = _
        rw [HJ1.out.2.2.2, HX2.out, if_neg h0]; simp
      obtain ⟨fn, tmps, assign, body, hyl, hR⟩ := yield_any (m' := n - 1) (HF.out.yield _ xs ⟨lo, hi, last⟩ _ HJ1.out.1 trivial (by rw [HPF.out]; exact ⟨_, rfl⟩))
      unfold encC at hyl
      simp only at hyl
      clear HX2 h0 HJ0
      gi_wp2
      refine ⟨fun h => (by cases h), hR.mono ?_⟩
      rintro e W3 (⟨rfl, hJ3, hB3⟩ | ⟨rfl, hSt, _⟩)
      case inr =>
        have HE : Hid (St (fun _ => False) W3) := HF.out.sless _ _ _ hSt (fun _ h => h.elim)
        clear hR hyl hSt HPF HJ1 HF
        gi_wp2
        refine bodyPost_ret (results_none rfl _ _ _) rfl ?_
        exact ⟨⟨_, rfl⟩, .inr HE.out⟩
      have cw3 : W3.heap[W.heap.size]? = some (Obj.cells #[.int .i64 lo, .int .i64 hi, .int .i64 0] 39) := but_blk hB3 HJ1.out.2.2.1 (fun h => h (.inl HJ1.out.2.1))
      have cx3 : W3.heap[wr.heap.size]? = some (Obj.cells #[.int .i64 xl, .int .i64 xh, .int .i64 t] 39) := but_blk hB3 (heap_alloc_new _ _) (fun h => h (.inr ⟨Nat.le_refl _, by simp⟩))
      have g0 : W3.cell? ⟨wr.heap.size, 0, none⟩ = some (.int .i64 xl) := by rw [Lib.cell_of_heap cx3]; rfl
      have g1 : W3.cell? ⟨wr.heap.size, 1, none⟩ = some (.int .i64 xh) := by rw [Lib.cell_of_heap cx3]; rfl
      have k0 : W3.cell? ⟨W.heap.size, 0, none⟩ = some (.int .i64 lo) := by rw [Lib.cell_of_heap cw3]; rfl
      have k1 : W3.cell? ⟨W.heap.size, 1, none⟩ = some (.int .i64 hi) := by rw [Lib.cell_of_heap cw3]; rfl
      have k2 : W3.cell? ⟨W.heap.size, 2, none⟩ = some (.int .i64 0) := by rw [Lib.cell_of_heap cw3]; rfl
      have fw3 : ∀ k, W3.frozen? ⟨W.heap.size, k, none⟩ = false := fun k => Lib.frozen_of_heap cw3 _
      have f30 := fw3 0
      have f31 := fw3 1
      have f32 := fw3 2
      have HE : Hid (∃ A', (((W3.setCell ⟨W.heap.size, 0, none⟩ (.int .i64 xl)).setCell ⟨W.heap.size, 1, none⟩ (.int .i64 xh)).setCell ⟨W.heap.size, 2, none⟩ (.int .i64 0)).heap[W.heap.size]? = some (Obj.cells #[.int .i64 xl, .int .i64 xh, .int .i64 0] 39) ∧ runC (clsOf c) l = (xs ++ [⟨lo, hi, last⟩]) ++ crun (clsOf c) xl xh q (l.drop (j + 1)) ∧ J A' (xs ++ [⟨lo, hi, last⟩]) (((W3.setCell ⟨W.heap.size, 0, none⟩ (.int .i64 xl)).setCell ⟨W.heap.size, 1, none⟩ (.int .i64 xh)).setCell ⟨W.heap.size, 2, none⟩ (.int .i64 0)) ∧ A' W.heap.size) := by
        obtain ⟨q1, q2, q3, q4⟩ := HJ1.out
        refine ⟨_, ?_, HPF.out, HF.out.turn _ _ _ _ hJ3 ((((But.refl _ _).setCell _ _ (.inr (.inl q2))).setCell _ _ (.inr (.inl q2))).setCell _ _ (.inr (.inl q2))), .inl q2⟩
        have z1 := blk_set (o := 0) cw3 (.int .i64 xl)
        have z2 := blk_set (o := 1) z1 (.int .i64 xh)
        simpa using blk_set (o := 2) z2 (.int .i64 0)
      clear hR hyl hJ3 hB3 HPF HJ1 HF fw3 cw3 cx3
      gi_wp2
      all_goals (
        go_roundw
        case rel =>
          obtain ⟨A', h1, h2, h3, h4⟩ := HE.out
          exact ⟨j + 1, xl, xh, q, A', xs ++ [⟨lo, hi, last⟩], by go_num, rfl, by omega, by omega, by omega, h1, h2, h3, h4⟩
        case measure => simp [intOf]; omega)
    have d1 : (q == last) = false := by simp [hql]
    clear hm hql
    by_cases h0 : last = 0
    · have d3 : (last != 0) = false := by simp [h0]
      have HE : Hid (∃ A', ((((wr.setCell ⟨W.heap.size, 0, none⟩ (.int .i64 xl)).setCell ⟨W.heap.size, 1, none⟩ (.int .i64 xh)).setCell ⟨W.heap.size, 2, none⟩ (.int .i64 0)).alloc (Obj.cells #[.int .i64 xl, .int .i64 xh, .int .i64 t] 39)).heap[W.heap.size]? = some (Obj.cells #[.int .i64 xl, .int .i64 xh, .int .i64 0] 39) ∧ runC (clsOf c) l = xs ++ crun (clsOf c) xl xh q (l.drop (j + 1)) ∧ J A' xs ((((wr.setCell ⟨W.heap.size, 0, none⟩ (.int .i64 xl)).setCell ⟨W.heap.size, 1, none⟩ (.int .i64 xh)).setCell ⟨W.heap.size, 2, none⟩ (.int .i64 0)).alloc (Obj.cells #[.int .i64 xl, .int .i64 xh, .int .i64 t] 39)) ∧ A' W.heap.size) := by
        obtain ⟨q1, q2, q3, q4⟩ := HJ1.out
        refine ⟨_, blk_new ?_, ?_, HF.out.new _ _ _ _ (HF.out.turn _ _ _ _ HJ0.out ((((But.refl _ _).setCell _ _ (.inr q2)).setCell _ _ (.inr q2)).setCell _ _ (.inr q2))) ((Below.refl _ _).alloc (Nat.le_refl _) _), .inl q2⟩
        · have z1 := blk_set (o := 0) cw (.int .i64 xl)
          have z2 := blk_set (o := 1) z1 (.int .i64 xh)
          simpa using blk_set (o := 2) z2 (.int .i64 0)
        · rw [q4, HX2.out, if_pos h0]; rfl
      clear HJ1 HJ0 HF HX2 h0
      gi_wp2
      refine ⟨fun f h => (by cases h), ?_⟩
      gi_wp2
      all_goals (
        go_roundw
        case rel =>
          obtain ⟨A', h1, h2, h3, h4⟩ := HE.out
          exact ⟨j + 1, xl, xh, q, A', xs, by go_num, rfl, by omega, by omega, by omega, h1, h2, h3, h4⟩
        case measure => simp [intOf]; omega)
    have d3 : (last != 0) = true := by simp [h0]
    have HPF : Hid (runC (clsOf c) l = (xs ++ [⟨lo, hi, last⟩]) ++ crun (clsOf c) xl xh q (l.drop (j + 1))) := by
      show _ = _
      rw [HJ1.out.2.2.2, HX2.out, if_neg h0]; simp
    obtain ⟨fn, tmps, assign, body, hyl, hR⟩ := yield_any (m' := n - 1) (HF.out.yield _ xs ⟨lo, hi, last⟩ _ HJ1.out.1 trivial (by rw [HPF.out]; exact ⟨_, rfl⟩))
    unfold encC at hyl
    simp only at hyl
    clear HX2 h0 HJ0
    gi_wp2
    refine ⟨fun h => (by cases h), hR.mono ?_⟩
    rintro e W3 (⟨rfl, hJ3, hB3⟩ | ⟨rfl, hSt, _⟩)
    case inr =>
      have HE : Hid (St (fun _ => False) W3) := HF.out.sless _ _ _ hSt (fun _ h => h.elim)
      clear hR hyl hSt HPF HJ1 HF
      gi_wp2
      refine bodyPost_ret (results_none rfl _ _ _) rfl ?_
      exact ⟨⟨_, rfl⟩, .inr HE.out⟩
    have cw3 : W3.heap[W.heap.size]? = some (Obj.cells #[.int .i64 lo, .int .i64 hi, .int .i64 0] 39) := but_blk hB3 HJ1.out.2.2.1 (fun h => h (.inl HJ1.out.2.1))
    have cx3 : W3.heap[wr.heap.size]? = some (Obj.cells #[.int .i64 xl, .int .i64 xh, .int .i64 t] 39) := but_blk hB3 (heap_alloc_new _ _) (fun h => h (.inr ⟨Nat.le_refl _, by simp⟩))
    have g0 : W3.cell? ⟨wr.heap.size, 0, none⟩ = some (.int .i64 xl) := by rw [Lib.cell_of_heap cx3]; rfl
    have g1 : W3.cell? ⟨wr.heap.size, 1, none⟩ = some (.int .i64 xh) := by rw [Lib.cell_of_heap cx3]; rfl
    have k0 : W3.cell? ⟨W.heap.size, 0, none⟩ = some (.int .i64 lo) := by rw [Lib.cell_of_heap cw3]; rfl
    have k1 : W3.cell? ⟨W.heap.size, 1, none⟩ = some (.int .i64 hi) := by rw [Lib.cell_of_heap cw3]; rfl
    have k2 : W3.cell? ⟨W.heap.size, 2, none⟩ = some (.int .i64 0) := by rw [Lib.cell_of_heap cw3]; rfl
    have fw3 : ∀ k, W3.frozen? ⟨W.heap.size, k, none⟩ = false := fun k => Lib.frozen_of_heap cw3 _
    have f30 := fw3 0
    have f31 := fw3 1
    have f32 := fw3 2
    have HE : Hid (∃ A', (((W3.setCell ⟨W.heap.size, 0, none⟩ (.int .i64 xl)).setCell ⟨W.heap.size, 1, none⟩ (.int .i64 xh)).setCell ⟨W.heap.size, 2, none⟩ (.int .i64 0)).heap[W.heap.size]? = some (Obj.cells #[.int .i64 xl, .int .i64 xh, .int .i64 0] 39) ∧ runC (clsOf c) l = (xs ++ [⟨lo, hi, last⟩]) ++ crun (clsOf c) xl xh q (l.drop (j + 1)) ∧ J A' (xs ++ [⟨lo, hi, last⟩]) (((W3.setCell ⟨W.heap.size, 0, none⟩ (.int .i64 xl)).setCell ⟨W.heap.size, 1, none⟩ (.int .i64 xh)).setCell ⟨W.heap.size, 2, none⟩ (.int .i64 0)) ∧ A' W.heap.size) := by
      obtain ⟨q1, q2, q3, q4⟩ := HJ1.out
      refine ⟨_, ?_, HPF.out, HF.out.turn _ _ _ _ hJ3 ((((But.refl _ _).setCell _ _ (.inr (.inl q2))).setCell _ _ (.inr (.inl q2))).setCell _ _ (.inr (.inl q2))), .inl q2⟩
      have z1 := blk_set (o := 0) cw3 (.int .i64 xl)
      have z2 := blk_set (o := 1) z1 (.int .i64 xh)
      simpa using blk_set (o := 2) z2 (.int .i64 0)
    clear hR hyl hJ3 hB3 HPF HJ1 HF fw3 cw3 cx3
    gi_wp2
    all_goals (
      go_roundw
      case rel =>
        obtain ⟨A', h1, h2, h3, h4⟩ := HE.out
        exact ⟨j + 1, xl, xh, q, A', xs ++ [⟨lo, hi, last⟩], by go_num, rfl, by omega, by omega, by omega, h1, h2, h3, h4⟩
      case measure => simp [intOf]; omega)
end Go.Proofs.Ytdalomibilicfaa
