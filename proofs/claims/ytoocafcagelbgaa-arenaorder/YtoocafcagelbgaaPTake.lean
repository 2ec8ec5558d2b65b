/- A builder in memory; take. -/
import Derived.Test.YtoocafcagelbgaaAMath1
import Derived.Test.YtoocafcagelbgaaPCopied
namespace Go.Proofs.Ytoocafcagelbgaa
open Go.RowKit

/-- A builder, as it lies. -/
structure Bld (B bb mb : Nat) (S : St) (sv rv : Value) (L : List Sv) (W : World) : Prop where
  box : W.heap[bb]? = some (Obj.cells #[sv, .int .i64 S.free, rv, .map (some mb)] 77)
  map : ∃ n, n ≤ S.cnt ∧ MapF mb S.F n W
  lst : L.map Prod.fst = S.sl.map SN.sl
  own : OwnS B L sv W
  rt : OwnI B S.roots rv W
  part : ∀ p ∈ L, ∀ k, rv.ownBlock = some k → p.2.ownBlock ≠ some k
  lo : B ≤ bb ∧ B ≤ mb
theorem Bld.len {B bb mb : Nat} {S : St} {sv rv : Value} {L : List Sv} {W : World} (h : Bld B bb mb S sv rv L W) : L.length = S.sl.length := by
  have := congrArg List.length h.lst
  simpa using this
theorem Bld.next {B bb mb : Nat} {S : St} {sv rv : Value} {L : List Sv} {W W' : World} (h : Bld B bb mb S sv rv L W) (hb : Below W.heap.size W W') : Bld B bb mb S sv rv L W' := by
  obtain ⟨n, hn, hm⟩ := h.map
  exact ⟨(hb.block _ (blk_lt h.box)).trans h.box, ⟨n, hn, hm.next hb⟩, h.lst, h.own.next hb, ownsRow_below4 h.rt hb, h.part, h.lo⟩
/-- The blocks that it turns. -/
def BldD (bb mb : Nat) (sv : Value) (k : Nat) : Prop := k = bb ∨ k = mb ∨ sv.ownBlock = some k
theorem Bld.low {B bb mb : Nat} {S : St} {sv rv : Value} {L : List Sv} {W : World} (h : Bld B bb mb S sv rv L W) {k : Nat} (hk : BldD bb mb sv k) : B ≤ k ∧ k < W.heap.size := by
  rcases hk with rfl | rfl | hk
  · exact ⟨h.lo.1, blk_lt h.box⟩
  · obtain ⟨n, _, hm⟩ := h.map
    exact ⟨h.lo.2, hm.lt⟩
  · exact World.ownsRow.lt h.own.row k hk
theorem Bld.at {B bb mb : Nat} {S : St} {sv rv : Value} {L : List Sv} {W : World} (h : Bld B bb mb S sv rv L W) {i : Nat} {s : SN} (hs : S.sl[i]? = some s) : ∃ g cap u, sv = .slice (some ⟨g, 0, none⟩) S.sl.length cap ∧ L[i]? = some (s.sl, u) ∧ B ≤ g ∧ g < W.heap.size ∧ OwnI B (intL s.ks) u W ∧ (∀ (k : Nat) (x : Value), k < 10 → (encS (s.sl, u))[k]? = some x → W.cell? ⟨g, i * 10 + k, none⟩ = some x) ∧ (∀ o, W.frozen? ⟨g, o, none⟩ = false) ∧ ∃ cs, W.heap[g]? = some (Obj.cells cs 60) := by
  have hi := (List.getElem?_eq_some_iff.1 hs).1
  have hL := h.len
  have hp : ∃ u, L[i]? = some (s.sl, u) := by
    have : (L.map Prod.fst)[i]? = some s.sl := by rw [h.lst, List.getElem?_map, hs]; rfl
    rw [List.getElem?_map] at this
    obtain ⟨p, h1, h2⟩ := Option.map_eq_some_iff.1 this
    exact ⟨p.2, by rw [h1, ← h2]⟩
  obtain ⟨u, hu⟩ := hp
  obtain ⟨g, cap, e, hg, _, hc⟩ := own_cells encS_len h.own.row (by omega)
  rw [hL] at e
  have hlt := World.ownsRow.lt h.own.row g (by rw [e]; rfl)
  obtain ⟨cs, hcs⟩ := own_is_cells h.own.row (j := g) (by rw [e]; rfl)
  exact ⟨g, cap, u, e, hu, hlt.1, hlt.2, h.own.kids _ (List.mem_of_getElem? hu), fun k x hk hx => hc i k _ x hu hk hx, fun o => Lib.frozen_of_heap hcs _, cs, hcs⟩
theorem Bld.shape {B bb mb : Nat} {S : St} {sv rv : Value} {L : List Sv} {W : World} (h : Bld B bb mb S sv rv L W) : ∃ a c, sv = .slice a S.sl.length c := by
  obtain ⟨a, c, e⟩ := slice_of_ownK h.own.row
  exact ⟨a, c, by rw [e, h.len]⟩
/-- The blocks of slots' kids. -/
def KB (L : List Sv) (k : Nat) : Prop := ∃ q ∈ L, q.2.ownBlock = some k
theorem okS_zero (next : Int) (hn : i64B next) : okS (zeroN next).sl :=
  ⟨rfl, ⟨hdok_zero, ⟨by simp [SN.sl, zeroN], by simp [SN.sl, zeroN]⟩, hn, by simp [SN.sl, zeroN, intL]⟩, by simp [SN.sl, zeroN, intL], fun y hy => by simp [SN.sl, zeroN, intL] at hy⟩

set_option maxRecDepth 100000 in
set_option maxHeartbeats 8000000 in
theorem take_any (B bb mb : Nat) (S : St) (R : Nat) (sv rv : Value) (L : List Sv) (w : World) (h : Bld B bb mb S sv rv L w) (hw : Wf S R) (hB : B ≤ w.heap.size) :
    Calls Try.prog 64 #[.pointer (some ⟨bb, 0, none⟩)] w fun e w' =>
      (takeS S = none ∧ e = .returned (.tuple #[.int .i64 0, .bool false]) ∧ w' = w) ∨
      (∃ S2 p sv' L', takeS S = some (S2, p) ∧ e = .returned (.tuple #[.int .i64 (p : Int), .bool true]) ∧ Bld B bb mb S2 sv' rv L' w' ∧ But (fun k => BldD bb mb sv k) w w' ∧ (∀ k, sv'.ownBlock = some k → sv.ownBlock = some k ∨ w.heap.size ≤ k) ∧ ∀ k, KB L' k → KB L k) := by
  obtain ⟨is, his, hs0, hs1, hs2⟩ := info_parts infoSl
  have HBD : Hid (Bld B bb mb S sv rv L w) := h
  have HWF : Hid (Wf S R) := hw
  obtain ⟨sa, sc, hsv⟩ := h.shape
  have kb := h.box
  have fb : ∀ o, w.frozen? ⟨bb, o, none⟩ = false := fun o => Lib.frozen_of_heap kb _
  cases hfl : S.fl with
  | cons p l =>
    have hfr : S.free = (p : Int) := by unfold St.free; rw [hfl]; rfl
    have hc := hw.chain
    rw [hfl] at hc
    obtain ⟨⟨s, hsp, hsn⟩, _⟩ := hc
    obtain ⟨g, cap, u, e, hu, hg1, hg2, hku, hcell, hfz, cs, hcs⟩ := h.at hsp
    rw [hfr] at kb
    have c1 : w.cell? ⟨bb, 1, none⟩ = some (.int .i64 (p : Int)) := by rw [Lib.cell_of_heap kb]; rfl
    have c0 : w.cell? ⟨bb, 0, none⟩ = some (.slice (some ⟨g, 0, none⟩) S.sl.length cap) := by rw [Lib.cell_of_heap kb, e]; rfl
    have c9 := hcell 9 _ (by omega) rfl
    simp only [SN.sl] at c9
    have d1 : decide ((p : Int) ≥ 0) = true := decide_eq_true (by omega)
    have hpl : p < S.sl.length := (List.getElem?_eq_some_iff.1 hsp).1
    have hplI : (p : Int) < S.sl.length := by omega
    have hT : takeS S = some ({ S with fl := l }, p) := by unfold takeS; rw [hfl]
    have HE : Hid (Bld B bb mb { S with fl := l } sv rv L (w.setCell ⟨bb, 1, none⟩ (.int .i64 s.next)) ∧ But (fun k => BldD bb mb sv k) w (w.setCell ⟨bb, 1, none⟩ (.int .i64 s.next))) := by
      have B1 : But (fun k => k = bb) w (w.setCell ⟨bb, 1, none⟩ (.int .i64 s.next)) := (But.refl _ _).setCell _ _ (.inr rfl)
      obtain ⟨n, hn, hm⟩ := h.map
      refine ⟨⟨?_, ⟨n, hn, hm.but B1 (fun e => by rw [e] at hm; exact hm.notCells _ _ _ h.box)⟩, h.lst, ⟨ownsRow_keep h.own.row B1 (fun j hj e => own_nb h.own.row h.box (by decide) (by rw [← e]; exact hj)), fun q hq => ownsRow_keep (h.own.kids q hq) B1 (fun j hj e => own_nb (h.own.kids q hq) h.box (by decide) (by rw [← e]; exact hj)), h.own.ok⟩, ownsRow_keep h.rt B1 (fun j hj e => own_nb h.rt h.box (by decide) (by rw [← e]; exact hj)), h.part, h.lo⟩, B1.mono (fun k _ hk => .inl hk)⟩
      have := blk_set (o := 1) h.box (.int .i64 s.next)
      have e2 : ({ S with fl := l } : St).free = s.next := hsn.symm
      rw [e2]
      simpa using this
    have HT : Hid (takeS S = some ({ S with fl := l }, p)) := hT
    clear hT hu hku hcell hcs hsn h hw kb hsp hfl hfr hsv
    go_enter Try.func64, Try.ntmps64
    go_wp2_with fail
    refine bodyPost_ret (results_tmp2 rfl _ _ _) rfl ?_
    exact .inr ⟨_, p, sv, L, HT.out, rfl, HE.out.1, HE.out.2, fun k hk => .inl hk, fun k hk => hk⟩
  | nil =>
    have hfr : S.free = -1 := by unfold St.free; rw [hfl]; rfl
    rw [hfr, hsv] at kb
    have c1 : w.cell? ⟨bb, 1, none⟩ = some (.int .i64 (-1)) := by rw [Lib.cell_of_heap kb]; rfl
    have c0 : w.cell? ⟨bb, 0, none⟩ = some (.slice sa S.sl.length sc) := by rw [Lib.cell_of_heap kb]; rfl
    have hl := hw.len
    by_cases h4 : S.sl.length = 4096
    · have HT : Hid (takeS S = none) := by show _ = _; unfold takeS; rw [hfl]; simp only; rw [if_pos h4]
      have d1 : ((S.sl.length : Int) == 4096) = true := by rw [h4]; rfl
      obtain ⟨sn, hsn⟩ : ∃ sn : Int, (S.sl.length : Int) = sn := ⟨_, rfl⟩
      have HSN : Hid (S.sl.length = S.sl.length) := rfl
      clear h hw kb hsv hfl hfr h4
      go_enter Try.func64, Try.ntmps64
      go_wp2_with fail
      refine bodyPost_ret (results_tmp2 rfl _ _ _) rfl ?_
      exact .inl ⟨HT.out, rfl, rfl⟩
    · have HT : Hid (takeS S = some ({ S with sl := S.sl ++ [zeroN 0] }, S.sl.length)) := by show _ = _; unfold takeS; rw [hfl]; simp only; rw [if_neg h4]
      have d1 : ((S.sl.length : Int) == 4096) = false := by simp; omega
      have hrow := h.own.row
      rw [hsv, h.len] at hrow
      have hfl10 : (L.flatMap encS).length = S.sl.length * 10 := by have := hrow.1; simpa using this
      have hlz : S.sl.length ≤ 4096 := hl
      obtain ⟨zl, HZL⟩ : ∃ zl, Hid (S.sl.length = zl) := ⟨_, rfl⟩
      have HFR : Hid (S.free = -1) := hfr
      have HSV : Hid (sv = .slice sa zl sc) := by rw [← HZL.out]; exact hsv
      have h4' : zl < 4096 := by rw [← HZL.out]; omega
      rw [HZL.out] at c0 d1 hrow HT
      have BA : Below w.heap.size w (w.alloc (Obj.cells #[.string ⟨#[]⟩, .bool false, .string ⟨#[]⟩, .int .i64 0, .int .i64 0, .int .i64 0, .slice none 0 0, .slice none 0 0, .int .i64 0, .int .i64 0] 60)) := (Below.refl _ _).alloc (Nat.le_refl _) _
      have hrow2 := ownsRow_below4 hrow BA
      have hw1 : IntKind.i64.wrap (((zl + 1 : Nat) : Int) - 1) = (zl : Int) := by rw [IntWalk.i64_in _ (by omega)]; omega
      have HW1 : Hid (IntKind.i64.wrap (((zl + 1 : Nat) : Int) - 1) = (zl : Int)) := hw1
      have HBA : Hid (Below w.heap.size w (w.alloc (Obj.cells #[.string ⟨#[]⟩, .bool false, .string ⟨#[]⟩, .int .i64 0, .int .i64 0, .int .i64 0, .slice none 0 0, .slice none 0 0, .int .i64 0, .int .i64 0] 60))) := BA
      have HOW : Hid _ := hrow2
      have hnews : ∀ (j : Nat) (x : Value), (encS ((zeroN 0).sl, .slice none 0 0))[j]? = some x → (w.alloc (Obj.cells #[.string ⟨#[]⟩, .bool false, .string ⟨#[]⟩, .int .i64 0, .int .i64 0, .int .i64 0, .slice none 0 0, .slice none 0 0, .int .i64 0, .int .i64 0] 60)).cell? ((⟨w.heap.size, 0, none⟩ : Addr).add j) = some x := fun j x hj => by
        rw [add_plain, Nat.zero_add, Lib.cell_of_heap (heap_alloc_new _ _)]
        have e : encS ((zeroN 0).sl, .slice none 0 0) = [.string ⟨#[]⟩, .bool false, .string ⟨#[]⟩, .int .i64 0, .int .i64 0, .int .i64 0, .slice none 0 0, .slice none 0 0, .int .i64 0, .int .i64 0] := rfl
        rw [e] at hj
        simpa using hj
      have HNW : Hid _ := hnews
      have HX0 : Hid (∀ W', (w.alloc (Obj.cells #[.string ⟨#[]⟩, .bool false, .string ⟨#[]⟩, .int .i64 0, .int .i64 0, .int .i64 0, .slice none 0 0, .slice none 0 0, .int .i64 0, .int .i64 0] 60)).grownBy W' (Value.slice sa zl sc).ownBlock → W'.cell? ⟨bb, 0, none⟩ = some (.slice sa zl sc) ∧ ∀ o, W'.frozen? ⟨bb, o, none⟩ = false) := fun W' hg => by
        have kb1 := (HBA.out.block _ (blk_lt h.box)).trans h.box
        have kb2 := (hg.block _ (blk_lt kb1) (fun e => by
          have h1 := h.own.row
          rw [HSV.out] at h1
          exact own_nb h1 h.box (by decide) e.symm)).trans kb1
        exact ⟨by rw [Lib.cell_of_heap kb2, HSV.out]; rfl, fun o => Lib.frozen_of_heap kb2 _⟩
      clear h hw kb hsv hfl hfr hl hlz h4 hrow BA hfl10 hrow2 hw1 hnews
      go_enter Try.func64, Try.ntmps64
      go_wp2_with (at_builtin; refine wpList_append_own_at _ rfl _ _ 22 rfl B 60 is _ 10 128 Try.underlying22 his hs0 hs1 hs2 rfl (by decide) _ _ _ rfl HOW.out ⟨w.heap.size, 0, none⟩ 1 1 (encS ((zeroN 0).sl, .slice none 0 0)) rfl rfl HNW.out (fun x hx => by simp only [encS, List.mem_cons, List.not_mem_nil, or_false] at hx; rcases hx with rfl | rfl | rfl | rfl | rfl | rfl | rfl | rfl | rfl | rfl <;> rfl) (by unfold maxLen; omega) (by omega) (by simp; omega) ?_; intro v' w' o1 o2 o3 o4; obtain ⟨va, vc, rfl⟩ := slice_of_ownK o1; obtain ⟨x0, fx⟩ := HX0.out _ o2)
      have hS := HBD.out
      have hlz := HZL.out
      have nbb : ∀ j, (Value.slice sa zl sc).ownBlock = some j → j ≠ bb := fun j hj e => by
        have h1 := hS.own.row
        rw [HSV.out] at h1
        exact own_nb h1 hS.box (by decide) (by rw [← e]; exact hj)
      have kb1 : (w.alloc (Obj.cells #[.string ⟨#[]⟩, .bool false, .string ⟨#[]⟩, .int .i64 0, .int .i64 0, .int .i64 0, .slice none 0 0, .slice none 0 0, .int .i64 0, .int .i64 0] 60)).heap[bb]? = some (Obj.cells #[sv, .int .i64 S.free, rv, .map (some mb)] 77) := (HBA.out.block _ (blk_lt hS.box)).trans hS.box
      have kb2 : w'.heap[bb]? = some (Obj.cells #[sv, .int .i64 S.free, rv, .map (some mb)] 77) := (o2.block _ (blk_lt kb1) (fun e => nbb bb e.symm rfl)).trans kb1
      have BG : But (fun k => sv.ownBlock = some k) w w' := by
        refine (But.of_next (D := fun k => sv.ownBlock = some k) HBA.out).trans ⟨o2.os, o2.tape, o2.output, o2.size, fun k hk hd => o2.block k hk (fun e => hd ?_)⟩
        rw [HSV.out]; exact e.symm
      have BF : But (fun k => BldD bb mb sv k) w (w'.setCell ⟨bb, 0, none⟩ (.slice va (zl + 1) vc)) := (BG.mono (fun k _ hk => .inr (.inr hk))).setCell _ _ (.inr (.inl rfl))
      have B1 : But (fun k => k = bb) w' (w'.setCell ⟨bb, 0, none⟩ (.slice va (zl + 1) vc)) := (But.refl _ _).setCell _ _ (.inr rfl)
      have HE : Hid (Bld B bb mb { S with sl := S.sl ++ [zeroN 0] } (.slice va (zl + 1) vc) rv (L ++ [((zeroN 0).sl, .slice none 0 0)]) (w'.setCell ⟨bb, 0, none⟩ (.slice va (zl + 1) vc))) := by
        obtain ⟨n, hn, hm⟩ := hS.map
        have hsep : ∀ (v : Value) (l : List Int), OwnI B l v w → OwnI B l v (w'.setCell ⟨bb, 0, none⟩ (.slice va (zl + 1) vc)) := fun v l hv => by
          refine ownsRow_keep (ownsRow_keep hv BG (fun j hj e => ?_)) B1 (fun j hj e => own_nb hv hS.box (by decide) (by rw [← e]; exact hj))
          obtain ⟨cs, hcs⟩ := own_is_cells hS.own.row e
          exact own_nb hv hcs (by decide) hj
        refine ⟨?_, ⟨n, hn, (hm.but BG (fun e => ?_)).but B1 (fun e => by rw [e] at hm; exact hm.notCells _ _ _ hS.box)⟩, by rw [List.map_append, hS.lst, List.map_append]; rfl, ⟨?_, fun q hq => ?_, fun q hq => ?_⟩, hsep _ _ hS.rt, fun q hq k hk => ?_, hS.lo⟩
        · have := blk_set (o := 0) kb2 (.slice va (zl + 1) vc)
          have e : ({ S with sl := S.sl ++ [zeroN 0] } : St).free = S.free := rfl
          rw [e]
          simpa using this
        · obtain ⟨cs, hcs⟩ := own_is_cells hS.own.row e
          exact hm.notCells _ _ _ hcs
        · have e : (L ++ [((zeroN 0).sl, Value.slice none 0 0)]).flatMap encS = L.flatMap encS ++ encS ((zeroN 0).sl, Value.slice none 0 0) := by simp
          rw [e]
          have e2 : (L ++ [((zeroN 0).sl, Value.slice none 0 0)]).length = zl + 1 := by rw [List.length_append, hS.len, hlz]; rfl
          rw [e2]
          exact ownsRow_keep o1 B1 (fun j hj e => own_nb o1 kb2 (by decide) (by rw [← e]; exact hj))
        · rcases List.mem_append.1 hq with hq | hq
          · exact hsep _ _ (hS.own.kids q hq)
          · simp at hq; subst hq; exact World.ownsRow_nil _ _ _ _
        · rcases List.mem_append.1 hq with hq | hq
          · exact hS.own.ok q hq
          · simp at hq; subst hq; exact okS_zero 0 ⟨by omega, by omega⟩
        · rcases List.mem_append.1 hq with hq | hq
          · exact hS.part q hq k hk
          · simp at hq; subst hq; intro e; cases e
      have HV : Hid (∀ k, (Value.slice va (zl + 1) vc).ownBlock = some k → sv.ownBlock = some k ∨ w.heap.size ≤ k) := fun k hk => by
        rcases o4 with h4 | h4
        · left; rw [HSV.out]; exact h4.symm.trans hk
        · right
          rw [h4] at hk
          simp only [World.size_alloc, Option.some.injEq] at hk
          omega
      have HBF : Hid _ := BF
      refine bodyPost_ret (results_tmp2 rfl _ _ _) rfl ?_
      exact .inr ⟨_, zl, _, _, HT.out, rfl, HE.out, HBF.out, HV.out, fun k ⟨q, hq, e⟩ => by
        rcases List.mem_append.1 hq with hq | hq
        · exact ⟨q, hq, e⟩
        · simp at hq; subst hq; cases e⟩
end Go.Proofs.Ytoocafcagelbgaa
