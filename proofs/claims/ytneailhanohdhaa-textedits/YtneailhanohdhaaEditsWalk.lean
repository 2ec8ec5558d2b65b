/- The law TextEdits is walked: it returns true wherever what its calls hand back is the same on both sides. -/
import Derived.Test.YtneailhanohdhaaBoxes
import Derived.Deep.RegionHeld
namespace Go.Proofs.Ytneailhanohdhaa
open Go.RowKit

theorem undo_form (s t : ByteArray) (a o : Int) : ∃ (u0 u1 : Int) (ub : ByteArray), undoV s t a o = .agg #[.int .i64 u0, .int .i64 u1, .string ub] := by
  unfold undoV
  split
  · exact ⟨_, _, _, rfl⟩
  · exact ⟨_, _, _, rfl⟩

/-- What each call of the law hands back, in every world. -/
structure Said4 (s t : ByteArray) (a o x f m : Int) (r ub : ByteArray) (u0 u1 : Int) (b : Bool) : Prop where
  c14 : ∀ w, Calls Try.prog 14 #[.string s, .agg #[.int .i64 a, .int .i64 o, .string t]] w fun e w' => e = .returned (.tuple #[.string r, .int .i64 f]) ∧ Below w.heap.size w w'
  c15 : ∀ w, Calls Try.prog 15 #[.string s, .agg #[.int .i64 a, .int .i64 o, .string t]] w fun e w' => e = .returned (.tuple #[.string r, .int .i64 f]) ∧ Below w.heap.size w w'
  c16 : ∀ w, Calls Try.prog 16 #[.string s, .agg #[.int .i64 a, .int .i64 o, .string t]] w fun e w' => e = .returned (.tuple #[.agg #[.int .i64 u0, .int .i64 u1, .string ub], .int .i64 f]) ∧ Below w.heap.size w w'
  c17 : ∀ w, Calls Try.prog 17 #[.string s, .agg #[.int .i64 a, .int .i64 o, .string t]] w fun e w' => e = .returned (.tuple #[.agg #[.int .i64 u0, .int .i64 u1, .string ub], .int .i64 f]) ∧ Below w.heap.size w w'
  c18 : ∀ w, Calls Try.prog 18 #[.agg #[.int .i64 a, .int .i64 o, .string t], .int .i64 x] w fun e w' => e = .returned (.tuple #[.int .i64 m, .bool b]) ∧ Below w.heap.size w w'
  c19 : ∀ w, Calls Try.prog 19 #[.agg #[.int .i64 a, .int .i64 o, .string t], .int .i64 x] w fun e w' => e = .returned (.tuple #[.int .i64 m, .bool b]) ∧ Below w.heap.size w w'
  c20 : ∀ w, Calls Try.prog 20 #[.string s, .agg #[.int .i64 a, .int .i64 o, .string t]] w fun e w' => e = .returned (.int .i64 f) ∧ Below w.heap.size w w'
  c21 : ∀ w, Calls Try.prog 21 #[.string s, .agg #[.int .i64 a, .int .i64 o, .string t]] w fun e w' => e = .returned (.int .i64 f) ∧ Below w.heap.size w w'

theorem wp_region_quiet_below {P : Program} {id : Nat} {Q : Exit → Act → World → Prop} {a : Act} {w : World} {l : List Oper} (hm : P.follows .mixedOrders = true) (hB : Region.lexB .any l.toArray = true)
    (h : wpQuiet P l.toArray (fun w' => Below w.heap.size w w') (fun a' => ∀ w', Below w.heap.size w w' → Q .normal a' w') l a) : (Code.region id l.toArray true).wp P Q a w :=
  wp_region_quiet (C := fun w' => Below w.heap.size w w') hm hB ((Below.refl _ w).drew) (by simpa using h)

set_option maxHeartbeats 1000000 in
theorem edits_walk (s t : ByteArray) (a o x f m : Int) (r ub : ByteArray) (u0 u1 : Int) (b : Bool) (w : World) (h : Said4 s t a o x f m r ub u0 u1 b) :
    Calls Try.prog 4 #[.string s, .agg #[.int .i64 a, .int .i64 o, .string t], .int .i64 x] w fun e w' => e = .returned (.bool true) ∧ Below w.heap.size w w' := by
  go_enter Try.func4, Try.ntmps4
  go_wp2_with fail
  refine (h.c14 _).mono ?_
  rintro e w1 ⟨rfl, hb⟩
  have k1 : Has3 w.heap.size (.int .i64 a) (.int .i64 o) (.string t) w1 := (Has3.new w _ _ _ _).next hb
  have B1 : Below w.heap.size w w1 := below_then ((Below.refl w.heap.size w).alloc (Nat.le_refl _) _) hb (by simp)
  clear hb
  obtain ⟨l1, a0, a1, a2⟩ := id k1
  go_wp2_with fail
  refine (h.c15 _).mono ?_
  rintro e w2 ⟨rfl, hb⟩
  replace k1 := k1.next hb
  replace B1 := below_then B1 hb B1.size
  clear hb l1 a0 a1 a2
  obtain ⟨l1, a0, a1, a2⟩ := id k1
  go_wp2_with fail
  refine (h.c16 _).mono ?_
  rintro e w3 ⟨rfl, hb⟩
  replace k1 := k1.next hb
  replace B1 := below_then B1 hb B1.size
  clear hb l1 a0 a1 a2
  obtain ⟨l1, a0, a1, a2⟩ := id k1
  go_wp2_with fail
  refine (h.c17 _).mono ?_
  rintro e w4 ⟨rfl, hb⟩
  replace k1 := (k1.alloc _).next hb
  have k2 := (Has3.new w3 (.int .i64 u0) (.int .i64 u1) (.string ub) 36).next hb
  replace B1 := below_then (B1.alloc B1.size _) hb (by simp; omega)
  clear hb l1 a0 a1 a2
  obtain ⟨l1, a0, a1, a2⟩ := id k1
  go_wp2_with fail
  refine (h.c18 _).mono ?_
  rintro e w5 ⟨rfl, hb⟩
  replace k1 := (k1.alloc _).next hb
  replace k2 := (k2.alloc _).next hb
  have k3 := (Has3.new w4 (.int .i64 u0) (.int .i64 u1) (.string ub) 36).next hb
  replace B1 := below_then (B1.alloc B1.size _) hb (by simp; omega)
  clear hb l1 a0 a1 a2
  obtain ⟨l1, a0, a1, a2⟩ := id k1
  go_wp2_with fail
  refine (h.c19 _).mono ?_
  rintro e w6 ⟨rfl, hb⟩
  replace k1 := k1.next hb
  replace k2 := k2.next hb
  replace k3 := k3.next hb
  replace B1 := below_then B1 hb B1.size
  clear hb l1 a0 a1 a2
  go_wp2_with fail
  refine wp_region_quiet_below (by kernel_rfl) (by kernel_rfl) ?_
  go_big_quiet_step (fail)
  go_big_quiet_want
  refine ⟨.agg #[.int .i64 a, .int .i64 o, .string t], fun w' hw' => ?_, ?_⟩
  · obtain ⟨_, q0, q1, q2⟩ := k1.next hw'
    go_simp
  go_simp
  go_big_quiet_on
  go_big_quiet_want
  refine ⟨.int .i64 f, fun w' hw' => ?_, ?_⟩
  · go_simp
    exact (h.c20 _).mono fun e w'' hh => ⟨hh.1, hw'.trans (hh.2.mono hw'.size)⟩
  go_simp
  go_big_quiet_on
  go_big_quiet_step (fail)
  go_big_quiet_want
  refine ⟨.agg #[.int .i64 a, .int .i64 o, .string t], fun w' hw' => ?_, ?_⟩
  · obtain ⟨_, q0, q1, q2⟩ := k1.next hw'
    go_simp
  go_simp
  go_big_quiet_on
  go_big_quiet_want
  refine ⟨.int .i64 f, fun w' hw' => ?_, ?_⟩
  · go_simp
    exact (h.c21 _).mono fun e w'' hh => ⟨hh.1, hw'.trans (hh.2.mono hw'.size)⟩
  go_simp
  go_big_quiet_on
  repeat (first | go_big_quiet_step (fail) | (go_big_quiet_want; refine ⟨.bool true, fun w' hw' => ?_, ?_⟩; (· go_simp; done); go_simp; go_big_quiet_on))
  go_big_quiet_want
  refine ⟨.agg #[.int .i64 u0, .int .i64 u1, .string ub], fun w' hw' => ?_, ?_⟩
  · obtain ⟨_, q0, q1, q2⟩ := k2.next hw'
    go_simp
  go_simp
  go_big_quiet_on
  go_big_quiet_want
  refine ⟨.agg #[.int .i64 u0, .int .i64 u1, .string ub], fun w' hw' => ?_, ?_⟩
  · obtain ⟨_, q0, q1, q2⟩ := k3.next hw'
    go_simp
  go_simp
  go_big_quiet_on
  go_big_quiet_want
  refine ⟨.bool true, fun w' hw' => ?_, ?_⟩
  · go_simp
  go_simp
  go_big_quiet_on
  repeat (first | go_big_quiet_step (fail) | (go_big_quiet_want; refine ⟨.bool true, fun w' hw' => ?_, ?_⟩; (· go_simp; done); go_simp; go_big_quiet_on))
  go_big_quiet_want
  refine ⟨.bool true, fun w' hw' => ?_, ?_⟩
  · go_simp
    exact (awake_any _).mono fun e w'' hh => ⟨hh.1, hw'.trans (hh.2.mono hw'.size)⟩
  go_simp
  go_big_quiet_on
  repeat (first | go_big_quiet_step (fail) | (go_big_quiet_want; refine ⟨.bool true, fun w' hw' => ?_, ?_⟩; (· go_simp; done); go_simp; go_big_quiet_on))
  refine wpQuiet_nil ?_
  intro w7 hw7
  go_wp2
  go_ret
  exact ⟨rfl, B1.trans (hw7.mono B1.size)⟩
end Go.Proofs.Ytneailhanohdhaa
