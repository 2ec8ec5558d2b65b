/- The iterator over a text's rows: it hands out just the rows, in their order, or a beginning of them; for every text of at most 140737488351232 bytes. -/
import Derived.Test.YtneailhanohdhaaRowsMath
import Derived.RangeFuncNested
import Derived.RangeFuncBound
import Derived.RangeFuncCalls
import Derived.RangeFuncLeaves
import Derived.Shelf.Abstract
import Derived.Shelf.RegionOpen
import Derived.WalkKit
import Derived.OwnWalkIn
import Derived.TacticsInMore
import Derived.LoopNIn
import Derived.LoopIn
import Derived.Scope
import Derived.Laws.Externs
namespace Go.Proofs.Ytneailhanohdhaa
open Go.RowKit Go.Shelf
attribute [local go_sem] Oper.semAt_some

theorem ext32 (args : Array Value) (w : World) : (callFunc 32 args).run Try.prog w = ((Extern.BytealgIndexByte.indexByte args).run Try.prog w).andThen fun v w' => .ok (.value v) w' :=
  run_callFunc_extern Try.func32 (by kernel_rfl) (by kernel_rfl) (by kernel_rfl) (by kernel_rfl) args w

set_option maxHeartbeats 400000 in
theorem ixbyte_any (s : ByteArray) (w : World) :
    Calls Try.prog 30 #[.string s, .int .u8 10] w fun e w' => e = .returned (.int .i64 (Lib.indexByte s.data.toList 10)) ∧ w' = w := by
  have hx := fun w => ext32 #[.string s, .int .u8 10] w
  have hy := fun w => run_indexByte_string (P := Try.prog) s 10 w
  have hz : firstIdx s (10 : Int).toNat.toUInt8 = Lib.indexByte s.data.toList 10 := Lib.firstIdx_eq s 10
  go_enter Try.func30, Try.ntmps30
  go_wp2
  go_ret
  exact ⟨ret_int hz, rfl⟩

abbrev encR (x : Rw) : Array Value := #[.int .i64 x.n, .agg #[.int .i64 x.fr, .int .i64 x.to]]

/-- The box of the text lies as it lay. -/
def KpS (Bs : Nat) (A B : World) : Prop := ∀ v, A.cell? ⟨Bs, 0, none⟩ = some v → B.cell? ⟨Bs, 0, none⟩ = some v
theorem kpS_t {Bs : Nat} {A B C : World} (h : KpS Bs A B) (k : KpS Bs B C) : KpS Bs A C := fun v hv => k v (h v hv)
theorem kpS_b {Bs : Nat} (W : World) (l : Nat) (o o' : Obj) (h : W.heap[l]? = some o) (hc : o.isCells = false) : KpS Bs W (W.putObj l o') := fun _ hv =>
  cell_kept hv (grownBy_putObj' W l o') (fun r e => by cases e; exact ⟨o, h, hc⟩)

set_option maxRecDepth 100000 in
set_option maxHeartbeats 1000000 in
theorem rows1_in (n : Nat) (hn : 1 ≤ n) (l Bs : Nat) (s : ByteArray) (hs : s.size ≤ 140737488351232) (J Jx : List Rw → World → Prop)
    (hY : ∀ pre x W, J pre W → pre.length < s.size + 1 → YieldAt Fence.wide (n - 1) Try.prog l (encR x) W fun e W' =>
      (e = .returned (.bool true) ∧ J (pre ++ [x]) W' ∧ KpS Bs W W') ∨ (e = .returned (.bool false) ∧ Jx (pre ++ [x]) W'))
    (W : World) (hBs : W.cell? ⟨Bs, 0, none⟩ = some (.string s)) (h0 : J [] W) :
    CallsIn Fence.wide n Try.prog 29 #[.func (.yield l) #[] #[], .pointer (some ⟨Bs, 0, none⟩)] W fun e W' => (∃ v, e = .returned v) ∧
      ((∃ ys, ys = rowsOf s.data.toList ∧ J ys W') ∨ (∃ pre, pre <+: rowsOf s.data.toList ∧ Jx pre W')) := by
  refine callsIn_of_wp Try.func29 rfl trivial ?_ rfl
  simp only [Try.ntmps29, List.size_toArray, List.length_cons, List.length_nil, Nat.reduceAdd, Nat.reduceSub, Array.replicate_succ, Array.replicate_zero, List.push_toArray, List.append_toArray, List.nil_append, List.cons_append]
  gi_wp2
  gi_loopw [3, 4] (fun f m wr => ∃ (pre : List Rw) (k j : Nat), f = .int .i64 k ∧ m = .int .i64 j ∧ k ≤ s.size ∧ j ≤ k ∧ pre.length = j ∧ rowsOf s.data.toList = pre ++ rowsAux (s.data.toList.drop k) j k k ∧ wr.cell? ⟨Bs, 0, none⟩ = some (.string s) ∧ J pre wr)
    (fun f _ _ => s.size + 1 - (intOf f).toNat)
  case atStart =>
    exact ⟨[], 0, 0, rfl, rfl, Nat.zero_le _, Nat.le_refl _, rfl, by simp [rowsOf], hBs, h0⟩
  case round =>
    obtain ⟨pre, k, j, rfl, rfl, hk, hj, hl, hx, hc, hJ⟩ := hrel
    have HX : Hid (rowsOf s.data.toList = pre ++ rowsAux (s.data.toList.drop k) j k k) := hx
    have HL : Hid (pre.length = j) := hl
    have HI : Hid (Lib.indexByte (s.extract k s.size).data.toList 10 = Lib.indexByte (s.data.toList.drop k) 10) := by show _ = _; rw [ex_tail]
    clear hx hl
    have hge := Lib.indexByte_ge (s.data.toList.drop k) 10
    by_cases hm : Lib.indexByte (s.data.toList.drop k) 10 = -1
    · have HR : Hid (rowsOf s.data.toList = pre ++ [⟨j, k, s.size⟩]) := by
        show _ = _
        rw [HX.out, rows_none _ _ _ _ hm]
        have : k + (s.data.toList.drop k).length = s.size := by simp; omega
        rw [this]
      have HM : Hid (Lib.indexByte (s.data.toList.drop k) 10 = -1) := hm
      clear hm hge HX
      obtain ⟨fn, tmps, assign, body, hy, hR⟩ := hY pre ⟨j, k, s.size⟩ wr hJ (by rw [HL.out]; omega)
      dsimp only [encR] at hy
      gi_wp2_with fail
      refine ⟨trivial, ?_⟩
      refine (callsIn_wide.2 (ixbyte_any _ _)).mono ?_
      rw [HI.out, HM.out]
      rintro e w1 ⟨rfl, rfl⟩
      gi_wp2
      refine hR.mono ?_
      rintro e W3 (⟨rfl, hJ3, hk3⟩ | ⟨rfl, hJx3⟩)
      · gi_wp2
        refine bodyPost_ret (results_none rfl _ _ _) rfl ?_
        exact ⟨⟨_, rfl⟩, .inl ⟨_, HR.out.symm, hJ3⟩⟩
      · gi_wp2
        refine bodyPost_ret (results_none rfl _ _ _) rfl ?_
        exact ⟨⟨_, rfl⟩, .inr ⟨_, by rw [HR.out]; exact List.prefix_rfl, hJx3⟩⟩
    · obtain ⟨d, hd⟩ : ∃ d : Nat, Lib.indexByte (s.data.toList.drop k) 10 = d := ⟨(Lib.indexByte (s.data.toList.drop k) 10).toNat, by omega⟩
      obtain ⟨hr1, hr2⟩ := rows_some (s.data.toList.drop k) j k k d hd
      have hd2 : k + d < s.size := by simp at hr2; omega
      have HR : Hid (rowsOf s.data.toList = (pre ++ [⟨j, k, k + d⟩]) ++ rowsAux (s.data.toList.drop (k + d + 1)) (j + 1) (k + d + 1) (k + d + 1)) := by
        show _ = _
        rw [HX.out, hr1, List.drop_drop]
        simp [Nat.add_assoc]
      have HM : Hid (Lib.indexByte (s.data.toList.drop k) 10 = d) := hd
      clear hm hge HX hr1 hr2 hd
      obtain ⟨fn, tmps, assign, body, hy, hR⟩ := hY pre ⟨j, k, k + d⟩ wr hJ (by rw [HL.out]; omega)
      dsimp only [encR] at hy
      rw [Int.natCast_add] at hy
      gi_wp2_with fail
      refine ⟨trivial, ?_⟩
      refine (callsIn_wide.2 (ixbyte_any _ _)).mono ?_
      rw [HI.out, HM.out]
      rintro e w1 ⟨rfl, rfl⟩
      gi_wp2
      refine hR.mono ?_
      rintro e W3 (⟨rfl, hJ3, hk3⟩ | ⟨rfl, hJx3⟩)
      · have hc3 := hk3 _ hc
        gi_wp2
        go_roundw
        case rel => exact ⟨_, k + d + 1, j + 1, by go_num, by go_num, by omega, by omega, by simp [HL.out], HR.out, hc3, hJ3⟩
        case measure => simp [intOf]; omega
      · gi_wp2
        refine bodyPost_ret (results_none rfl _ _ _) rfl ?_
        exact ⟨⟨_, rfl⟩, .inr ⟨_, by rw [HR.out]; exact List.prefix_append _ _, hJx3⟩⟩

set_option maxHeartbeats 400000 in
theorem rows_any (s : ByteArray) (w : World) :
    Calls Try.prog 26 #[.string s] w fun e w' => e = .returned (.func (.func 29) #[] #[.pointer (some ⟨w.heap.size, 0, none⟩)]) ∧ w' = w.alloc (.cells #[.string s] 9) := by
  go_enter Try.func26, Try.ntmps26
  go_wp2
  go_ret
  exact ⟨rfl, rfl⟩

theorem rows_stops (n : Nat) (hn : 1 ≤ n) (Bs : Nat) (s : ByteArray) (hs : s.size ≤ 140737488351232) (w : World) (hB : Bs < w.heap.size) (hc : w.cell? ⟨Bs, 0, none⟩ = some (.string s)) :
    SeqStopsK Fence.wide n Try.prog 29 #[.pointer (some ⟨Bs, 0, none⟩)] encR (KpS Bs) (fun ys => ys = rowsOf s.data.toList) (fun pre => pre <+: rowsOf s.data.toList) (s.size + 1) w := fun l J Jx W hW _ _ hY h0 =>
  rows1_in n hn l Bs s hs J Jx hY W ((hW.cell (p := ⟨Bs, 0, none⟩) hB).trans hc) h0

theorem wpIn_scope_wide {n : Nat} {P : Program} {c : Code} {Q : Exit → Act → World → Prop} {a : Act} {w : World} (h : c.wpIn Fence.wide n P (Exit.noGoto Q) a w) : (Code.scope c).wpIn Fence.wide n P Q a w :=
  wpIn_wide.2 (wp_scope_straight (wpIn_wide.1 h))
end Go.Proofs.Ytneailhanohdhaa
