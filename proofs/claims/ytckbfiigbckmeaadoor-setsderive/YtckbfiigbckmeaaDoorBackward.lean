/- slices.Backward over items: from the last one on. -/
import Derived.Test.YtckbfiigbckmeaaDoorProds
import Derived.Test.YtckbfiigbckmeaaDoorLib10
namespace Go.Proofs.YtckbfiigbckmeaaDoor
open Go.RowKit Go.Shelf
attribute [local go_sem] Oper.semAt_some

set_option maxHeartbeats 400000 in
theorem back_any (v : Value) (w : World) (hv : ∃ a n c, v = .slice a n c) :
    Calls Tryd.prog 55 #[v] w fun e w' => e = .returned (.func (.func 67) #[] #[.pointer (some ⟨w.heap.size, 0, none⟩)]) ∧ w' = w.alloc (.cells #[v] 26) := by
  obtain ⟨a, n, c, rfl⟩ := hv
  go_enter Tryd.func55, Tryd.ntmps55
  go_wp2
  go_ret
  exact ⟨rfl, rfl⟩

/-- What is handed out at turn x: the place, and the item. -/
def encBk (n : Nat) (it : Nat → It) (x : Nat) : Array Value := #[.int .i64 ((n - 1 - x : Nat) : Int), .agg #[.int .i64 (it x).sym, .string (it x).fld, .string (it x).als]]

set_option maxRecDepth 100000 in
set_option maxHeartbeats 1000000 in
theorem back1_in (n : Nat) (hn : 1 ≤ n) (l Bx N cap : Nat) (ao : Option Addr) (it : Nat → It) (hN : N ≤ 1000) (J Jx : List Nat → World → Prop)
    (hY : ∀ pre x W, J pre W → pre.length < N → YieldAt Fence.wide (n - 1) Tryd.prog l (encBk N it x) W fun e W' =>
      (e = .returned (.bool true) ∧ J (pre ++ [x]) W' ∧ KpC (fun k => k = Bx ∨ ∃ ad, ao = some ad ∧ ad.block = k) W W') ∨ (e = .returned (.bool false) ∧ Jx (pre ++ [x]) W'))
    (W : World) (h0 : J [] W) (c2 : W.cell? ⟨Bx, 0, none⟩ = some (.slice ao N cap))
    (hc : ∀ x, x < N → ∃ b off, ao = some ⟨b, off, none⟩ ∧ W.cell? ⟨b, off + (N - 1 - x) * 3, none⟩ = some (.int .i64 (it x).sym) ∧ W.cell? ⟨b, off + (N - 1 - x) * 3 + 1, none⟩ = some (.string (it x).fld) ∧ W.cell? ⟨b, off + (N - 1 - x) * 3 + 2, none⟩ = some (.string (it x).als)) :
    CallsIn Fence.wide n Tryd.prog 67 #[.func (.yield l) #[] #[], .pointer (some ⟨Bx, 0, none⟩)] W fun e W' => (∃ v, e = .returned v) ∧
      ((∃ ys, ys = List.range N ∧ J ys W') ∨ (∃ pre, pre <+: List.range N ∧ Jx pre W')) := by
  refine callsIn_of_wp Tryd.func67 rfl trivial ?_ rfl
  simp only [Tryd.ntmps67, List.size_toArray, List.length_cons, List.length_nil, Nat.reduceAdd, Nat.reduceSub, Array.replicate_succ, Array.replicate_zero, List.push_toArray, List.append_toArray, List.nil_append, List.cons_append]
  gi_wp2
  gi_loopw [3] (fun i wr => ∃ (x : Nat), i = .int .i64 ((N : Int) - 1 - x) ∧ x ≤ N ∧ J (List.range x) wr ∧ wr.cell? ⟨Bx, 0, none⟩ = some (.slice ao N cap) ∧ (∀ x, x < N → ∃ b off, ao = some ⟨b, off, none⟩ ∧ wr.cell? ⟨b, off + (N - 1 - x) * 3, none⟩ = some (.int .i64 (it x).sym) ∧ wr.cell? ⟨b, off + (N - 1 - x) * 3 + 1, none⟩ = some (.string (it x).fld) ∧ wr.cell? ⟨b, off + (N - 1 - x) * 3 + 2, none⟩ = some (.string (it x).als)))
    (fun i _ => (intOf i + 1).toNat)
  case atStart => exact ⟨0, by simp, Nat.zero_le _, h0, c2, hc⟩
  case round =>
    clear hc c2 h0
    obtain ⟨x, rfl, hx, hJ, c2, hc⟩ := hrel
    by_cases hlt : x < N
    · have HC : Hid (∀ x, x < N → ∃ b off, ao = some ⟨b, off, none⟩ ∧ wr.cell? ⟨b, off + (N - 1 - x) * 3, none⟩ = some (.int .i64 (it x).sym) ∧ wr.cell? ⟨b, off + (N - 1 - x) * 3 + 1, none⟩ = some (.string (it x).fld) ∧ wr.cell? ⟨b, off + (N - 1 - x) * 3 + 2, none⟩ = some (.string (it x).als)) := hc
      obtain ⟨b, off, rfl, d0, d1, d2⟩ := hc x hlt
      clear hc
      obtain ⟨fn, tmps, assign, body, hy, hR⟩ := hY (List.range x) x wr hJ (by simpa using hlt)
      dsimp only [encBk] at hy
      have HS : Hid (List.range x ++ [x] = List.range (x + 1)) := List.range_succ.symm
      have hi : ((N : Int) - 1 - x) = ((N - 1 - x : Nat) : Int) := by omega
      have hge : decide ((0 : Int) ≤ ((N - 1 - x : Nat) : Int)) = true := by simp
      have hil : N - 1 - x < N := by omega
      have HI2 : Hid (((N - 1 - x : Nat) : Int) - 1 = (N : Int) - 1 - ((x + 1 : Nat) : Int) ∧ (((N : Int) - 1 - ((x + 1 : Nat) : Int)) + 1).toNat < (((N - 1 - x : Nat) : Int) + 1).toNat) := by refine ⟨by omega, by omega⟩
      rw [hi]
      clear hY hi
      generalize N - 1 - x = i at *
      gi_wp2
      refine hR.mono ?_
      rintro e W3 (⟨rfl, hJ3, hk3⟩ | ⟨rfl, hJx3⟩)
      · have c3 := hk3 _ _ (.inl rfl) c2
        have HC3 : Hid (∀ x, x < N → ∃ b2 o2, (some ⟨b, off, none⟩ : Option Addr) = some ⟨b2, o2, none⟩ ∧ W3.cell? ⟨b2, o2 + (N - 1 - x) * 3, none⟩ = some (.int .i64 (it x).sym) ∧ W3.cell? ⟨b2, o2 + (N - 1 - x) * 3 + 1, none⟩ = some (.string (it x).fld) ∧ W3.cell? ⟨b2, o2 + (N - 1 - x) * 3 + 2, none⟩ = some (.string (it x).als)) := fun y hy' => by
          obtain ⟨b', off', e, e0, e1, e2⟩ := HC.out y hy'
          cases e
          exact ⟨b, off, rfl, hk3 _ _ (.inr ⟨_, rfl, rfl⟩) e0, hk3 _ _ (.inr ⟨_, rfl, rfl⟩) e1, hk3 _ _ (.inr ⟨_, rfl, rfl⟩) e2⟩
        rw [HS.out] at hJ3
        clear hk3 HC d0 d1 d2 hR hy hJ
        gi_wp2
        go_roundw
        case rel => exact ⟨x + 1, by rw [← HI2.out.1], by omega, hJ3, c3, HC3.out⟩
        case measure => have := HI2.out; simp only [intOf]; rw [this.1]; exact this.2
      · rw [HS.out] at hJx3
        gi_wp2
        refine bodyPost_ret (results_none rfl _ _ _) rfl ?_
        exact ⟨⟨_, rfl⟩, .inr ⟨_, range_pre (by omega), hJx3⟩⟩
    · obtain rfl : x = N := by omega
      have hm : ((x : Int) - 1 - x) = -1 := by omega
      rw [hm]
      clear hc hY
      gi_wp2
      go_end0
      exact ⟨⟨_, rfl⟩, .inl ⟨_, rfl, hJ⟩⟩

theorem back_stops (n : Nat) (hn : 1 ≤ n) (Bx N cap : Nat) (ao : Option Addr) (it : Nat → It) (hN : N ≤ 1000) (w : World) (hBx : Bx < w.heap.size) (hb : ∀ ad, ao = some ad → N ≠ 0 → ad.block < w.heap.size) (c2 : w.cell? ⟨Bx, 0, none⟩ = some (.slice ao N cap)) (hc : ∀ x, x < N → ∃ b off, ao = some ⟨b, off, none⟩ ∧ w.cell? ⟨b, off + (N - 1 - x) * 3, none⟩ = some (.int .i64 (it x).sym) ∧ w.cell? ⟨b, off + (N - 1 - x) * 3 + 1, none⟩ = some (.string (it x).fld) ∧ w.cell? ⟨b, off + (N - 1 - x) * 3 + 2, none⟩ = some (.string (it x).als)) :
    SeqStopsK Fence.wide n Tryd.prog 67 #[.pointer (some ⟨Bx, 0, none⟩)] (encBk N it) (KpC (fun k => k = Bx ∨ ∃ ad, ao = some ad ∧ ad.block = k)) (fun ys => ys = List.range N) (fun pre => pre <+: List.range N) N w := fun l J Jx W hW _ _ hY h0 =>
  back1_in n hn l Bx N cap ao it hN J Jx hY W h0 ((hW.cell (p := ⟨Bx, 0, none⟩) hBx).trans c2)
    (fun x hx => by
      obtain ⟨b, off, e, e0, e1, e2⟩ := hc x hx
      have hbl := hb _ e (by omega)
      simp only at hbl
      exact ⟨b, off, e, (hW.cell (p := ⟨b, off + (N - 1 - x) * 3, none⟩) hbl).trans e0, (hW.cell (p := ⟨b, off + (N - 1 - x) * 3 + 1, none⟩) hbl).trans e1, (hW.cell (p := ⟨b, off + (N - 1 - x) * 3 + 2, none⟩) hbl).trans e2⟩)
end Go.Proofs.YtckbfiigbckmeaaDoor
