/- The walk of the law SpanPlaces: for every slice of ranges, text, number and range it returns true. -/
import Derived.Test.YtdkgeeimhjffdaaSplit
import Derived.Test.YtdkgeeimhjffdaaRefSplit
import Derived.Test.YtdkgeeimhjffdaaRefPlaces
import Derived.Test.YtdkgeeimhjffdaaBack
namespace Go.Proofs.Ytdkgeeimhjffdaa
open Go.RowKit Go.Shelf

set_option maxHeartbeats 1000000 in
theorem places_big (ao : Option Addr) (n cap : Nat) (s : ByteArray) (a x0 x1 : Int) (w : World) (hn : ¬ n ≤ 100) :
    Calls Try.prog 4 #[.slice ao n cap, .string s, .int .i64 a, .agg #[.int .i64 x0, .int .i64 x1]] w fun e w' => e = .returned (.bool true) ∧ Below w.heap.size w w' := by
  have hs := fun W => small_any ao n cap W
  rw [decide_eq_false hn] at hs
  go_enter Try.func4, Try.ntmps4
  go_wp2_with fail
  refine (hs _).mono ?_
  rintro e w1 ⟨rfl, rfl⟩
  go_wp2_with fail
  refine (awake_any _).mono ?_
  rintro e w2 ⟨rfl, hb⟩
  go_wp2
  go_ret
  exact ⟨rfl, below_then ((Below.refl _ _).alloc (Nat.le_refl _) _) hb (by simp)⟩

set_option maxHeartbeats 1000000 in
theorem places_unfit (es : List Rg) (ao : Option Addr) (cap : Nat) (s : ByteArray) (a x0 x1 : Int) (w : World) (hc : RgAt es ao w) (ho : ∀ r ∈ es, RgOk r) (hn : es.length ≤ 100) (hf : fitB (-1) es = false) :
    Calls Try.prog 4 #[.slice ao es.length cap, .string s, .int .i64 a, .agg #[.int .i64 x0, .int .i64 x1]] w fun e w' => e = .returned (.bool true) ∧ Below w.heap.size w w' := by
  have hs := fun W => small_any ao es.length cap W
  rw [decide_eq_true hn] at hs
  have hr := fun W (h : Below w.heap.size w W) => rfit_any es ao cap W (hc.next h) ho (by omega)
  rw [hf] at hr
  have b0 : Below w.heap.size w (w.alloc (.cells #[.int .i64 x0, .int .i64 x1] 29)) := (Below.refl _ _).alloc (Nat.le_refl _) _
  go_enter Try.func4, Try.ntmps4
  go_wp2_with fail
  refine (hs _).mono ?_
  rintro e w1 ⟨rfl, rfl⟩
  go_wp2_with fail
  refine (hr _ b0).mono ?_
  rintro e w1 ⟨rfl, hb⟩
  have B1 := below_then b0 hb b0.size
  go_wp2_with fail
  refine (awake_any _).mono ?_
  rintro e w2 ⟨rfl, hb⟩
  go_wp2
  go_ret
  exact ⟨rfl, below_then B1 hb B1.size⟩

/-- What is kept all along: the box of x, and all that was below. -/
structure SaidP (ao : Option Addr) (n cap : Nat) (s t : ByteArray) (a z x0 x1 : Int) (o1 i1 : Int) (o2 i2 : Bool) (P : List Rg) (N : Nat) (w : World) : Prop where
  c21 : ∀ W, W.cell? ⟨N, 0, none⟩ = some (.int .i64 x0) ∧ W.cell? ⟨N, 1, none⟩ = some (.int .i64 x1) ∧ Below w.heap.size w W → Calls Try.prog 21 #[.slice ao n cap, .int .i64 a] W fun e w' => e = .returned (.tuple #[.int .i64 o1, .bool o2]) ∧ w'.cell? ⟨N, 0, none⟩ = some (.int .i64 x0) ∧ w'.cell? ⟨N, 1, none⟩ = some (.int .i64 x1) ∧ Below w.heap.size w w'
  c22 : ∀ W, W.cell? ⟨N, 0, none⟩ = some (.int .i64 x0) ∧ W.cell? ⟨N, 1, none⟩ = some (.int .i64 x1) ∧ Below w.heap.size w W → Calls Try.prog 22 #[.slice ao n cap, .int .i64 a] W fun e w' => e = .returned (.tuple #[.int .i64 o1, .bool o2]) ∧ w'.cell? ⟨N, 0, none⟩ = some (.int .i64 x0) ∧ w'.cell? ⟨N, 1, none⟩ = some (.int .i64 x1) ∧ Below w.heap.size w w'
  c23 : ∀ W, W.cell? ⟨N, 0, none⟩ = some (.int .i64 x0) ∧ W.cell? ⟨N, 1, none⟩ = some (.int .i64 x1) ∧ Below w.heap.size w W → Calls Try.prog 23 #[.slice ao n cap, .int .i64 a] W fun e w' => e = .returned (.tuple #[.int .i64 i1, .bool i2]) ∧ w'.cell? ⟨N, 0, none⟩ = some (.int .i64 x0) ∧ w'.cell? ⟨N, 1, none⟩ = some (.int .i64 x1) ∧ Below w.heap.size w w'
  c24 : ∀ W, W.cell? ⟨N, 0, none⟩ = some (.int .i64 x0) ∧ W.cell? ⟨N, 1, none⟩ = some (.int .i64 x1) ∧ Below w.heap.size w W → Calls Try.prog 24 #[.slice ao n cap, .int .i64 a] W fun e w' => e = .returned (.tuple #[.int .i64 i1, .bool i2]) ∧ w'.cell? ⟨N, 0, none⟩ = some (.int .i64 x0) ∧ w'.cell? ⟨N, 1, none⟩ = some (.int .i64 x1) ∧ Below w.heap.size w w'
  c25 : ∀ W, W.cell? ⟨N, 0, none⟩ = some (.int .i64 x0) ∧ W.cell? ⟨N, 1, none⟩ = some (.int .i64 x1) ∧ Below w.heap.size w W → Calls Try.prog 25 #[.slice ao n cap] W fun e w' => e = .returned (.int .i64 z) ∧ w'.cell? ⟨N, 0, none⟩ = some (.int .i64 x0) ∧ w'.cell? ⟨N, 1, none⟩ = some (.int .i64 x1) ∧ Below w.heap.size w w'
  c26 : ∀ W, W.cell? ⟨N, 0, none⟩ = some (.int .i64 x0) ∧ W.cell? ⟨N, 1, none⟩ = some (.int .i64 x1) ∧ Below w.heap.size w W → Calls Try.prog 26 #[.slice ao n cap] W fun e w' => e = .returned (.int .i64 z) ∧ w'.cell? ⟨N, 0, none⟩ = some (.int .i64 x0) ∧ w'.cell? ⟨N, 1, none⟩ = some (.int .i64 x1) ∧ Below w.heap.size w w'
  c27 : ∀ W, W.cell? ⟨N, 0, none⟩ = some (.int .i64 x0) ∧ W.cell? ⟨N, 1, none⟩ = some (.int .i64 x1) ∧ Below w.heap.size w W → Calls Try.prog 27 #[.string s, .slice ao n cap] W fun e w' => e = .returned (.string t) ∧ w'.cell? ⟨N, 0, none⟩ = some (.int .i64 x0) ∧ w'.cell? ⟨N, 1, none⟩ = some (.int .i64 x1) ∧ Below w.heap.size w w'
  c28 : ∀ W, W.cell? ⟨N, 0, none⟩ = some (.int .i64 x0) ∧ W.cell? ⟨N, 1, none⟩ = some (.int .i64 x1) ∧ Below w.heap.size w W → Calls Try.prog 28 #[.string s, .slice ao n cap] W fun e w' => e = .returned (.string t) ∧ w'.cell? ⟨N, 0, none⟩ = some (.int .i64 x0) ∧ w'.cell? ⟨N, 1, none⟩ = some (.int .i64 x1) ∧ Below w.heap.size w w'
  c29 : ∀ W, W.cell? ⟨N, 0, none⟩ = some (.int .i64 x0) ∧ W.cell? ⟨N, 1, none⟩ = some (.int .i64 x1) ∧ Below w.heap.size w W → Calls Try.prog 29 #[.slice ao n cap, .agg #[.int .i64 x0, .int .i64 x1]] W fun e w' => ∃ ro rc, e = .returned (.slice ro P.length rc) ∧ Hid (RgAt P ro w') ∧ w'.cell? ⟨N, 0, none⟩ = some (.int .i64 x0) ∧ w'.cell? ⟨N, 1, none⟩ = some (.int .i64 x1) ∧ Below w.heap.size w w'
  c30 : ∀ W ro, W.cell? ⟨N, 0, none⟩ = some (.int .i64 x0) ∧ W.cell? ⟨N, 1, none⟩ = some (.int .i64 x1) ∧ Below w.heap.size w W → Hid (RgAt P ro W) → Calls Try.prog 30 #[.slice ao n cap, .agg #[.int .i64 x0, .int .i64 x1]] W fun e w' => ∃ qo qc, e = .returned (.slice qo P.length qc) ∧ Hid (RgAt P ro w' ∧ RgAt P qo w') ∧ w'.cell? ⟨N, 0, none⟩ = some (.int .i64 x0) ∧ w'.cell? ⟨N, 1, none⟩ = some (.int .i64 x1) ∧ Below w.heap.size w w'
  c10 : ∀ W ro rc qo qc, W.cell? ⟨N, 0, none⟩ = some (.int .i64 x0) ∧ W.cell? ⟨N, 1, none⟩ = some (.int .i64 x1) ∧ Below w.heap.size w W → Hid (RgAt P ro W ∧ RgAt P qo W) → Calls Try.prog 10 #[.slice ro P.length rc, .slice qo P.length qc] W fun e w' => e = .returned (.bool true) ∧ w'.cell? ⟨N, 0, none⟩ = some (.int .i64 x0) ∧ w'.cell? ⟨N, 1, none⟩ = some (.int .i64 x1) ∧ Below w.heap.size w w'
  c9 : ∀ W, W.cell? ⟨N, 0, none⟩ = some (.int .i64 x0) ∧ W.cell? ⟨N, 1, none⟩ = some (.int .i64 x1) ∧ Below w.heap.size w W → Calls Try.prog 9 #[] W fun e w' => e = .returned (.bool true) ∧ w'.cell? ⟨N, 0, none⟩ = some (.int .i64 x0) ∧ w'.cell? ⟨N, 1, none⟩ = some (.int .i64 x1) ∧ Below w.heap.size w w'

set_option maxRecDepth 100000 in
set_option maxHeartbeats 4000000 in
theorem places_walk (ao : Option Addr) (n cap : Nat) (s t : ByteArray) (a z x0 x1 : Int) (o1 i1 : Int) (o2 i2 : Bool) (P : List Rg) (w : World) (hs : ∀ W, Calls Try.prog 8 #[.slice ao n cap] W fun e w' => e = .returned (.bool true) ∧ w' = W)
    (hr : ∀ W, Below w.heap.size w W → Calls Try.prog 14 #[.slice ao n cap] W fun e w' => e = .returned (.bool true) ∧ Below W.heap.size W w') (h : SaidP ao n cap s t a z x0 x1 o1 i1 o2 i2 P w.heap.size w) :
    Calls Try.prog 4 #[.slice ao n cap, .string s, .int .i64 a, .agg #[.int .i64 x0, .int .i64 x1]] w fun e w' => e = .returned (.bool true) ∧ Below w.heap.size w w' := by
  have b0 : Below w.heap.size w (w.alloc (.cells #[.int .i64 x0, .int .i64 x1] 29)) := (Below.refl _ _).alloc (Nat.le_refl _) _
  go_enter Try.func4, Try.ntmps4
  go_wp2_with fail
  refine (hs _).mono ?_
  rintro e w1 ⟨rfl, rfl⟩
  go_wp2_with fail
  refine (hr _ b0).mono ?_
  rintro e w1 ⟨rfl, hb⟩
  have B1 : w1.cell? ⟨w.heap.size, 0, none⟩ = some (.int .i64 x0) ∧ w1.cell? ⟨w.heap.size, 1, none⟩ = some (.int .i64 x1) ∧ Below w.heap.size w w1 := ⟨(hb.cell (p := ⟨w.heap.size, 0, none⟩) (by simp)).trans (by simp), (hb.cell (p := ⟨w.heap.size, 1, none⟩) (by simp)).trans (by simp), below_then b0 hb b0.size⟩
  clear hb b0 hs hr
  go_wp2_with fail
  refine (h.c21 _ B1).mono ?_
  rintro e w2 ⟨rfl, B2⟩
  clear B1
  go_wp2_with fail
  refine (h.c22 _ B2).mono ?_
  rintro e w3 ⟨rfl, B3⟩
  clear B2
  go_wp2_with fail
  refine (h.c23 _ B3).mono ?_
  rintro e w4 ⟨rfl, B4⟩
  clear B3
  go_wp2_with fail
  refine (h.c24 _ B4).mono ?_
  rintro e w5 ⟨rfl, B5⟩
  clear B4
  have HB : Hid (w5.drew.cell? ⟨w.heap.size, 0, none⟩ = some (.int .i64 x0) ∧ w5.drew.cell? ⟨w.heap.size, 1, none⟩ = some (.int .i64 x1) ∧ Below w.heap.size w w5.drew) := ⟨B5.1, B5.2.1, B5.2.2.drew⟩
  clear B5
  go_wp2
  go_region_held3 (fun w' => w'.cell? ⟨w.heap.size, 0, none⟩ = some (.int .i64 x0) ∧ w'.cell? ⟨w.heap.size, 1, none⟩ = some (.int .i64 x1) ∧ Below w.heap.size w w') (first | exact HB.out | assumption) (first
    | (go_at_call 25; refine (h.c25 _ (by assumption)).mono ?_; rintro e w' ⟨rfl, hS⟩)
    | (go_at_call 26; refine (h.c26 _ (by assumption)).mono ?_; rintro e w' ⟨rfl, hS⟩)
    | (go_at_call 27; refine (h.c27 _ (by assumption)).mono ?_; rintro e w' ⟨rfl, hS⟩)
    | (go_at_call 28; refine (h.c28 _ (by assumption)).mono ?_; rintro e w' ⟨rfl, hS⟩)
    | (go_at_call 29; refine (h.c29 _ (by assumption)).mono ?_; rintro e w' ⟨ro, rc, rfl, hR, hS⟩)
    | (go_at_call 30; refine (h.c30 _ _ (by assumption) hR).mono ?_; clear hR; rintro e w' ⟨qo, qc, rfl, hR, hS⟩)
    | (go_at_call 10; refine (h.c10 _ _ _ _ _ (by assumption) hR).mono ?_; rintro e w' ⟨rfl, hS⟩)
    | (go_at_call 9; refine (h.c9 _ (by assumption)).mono ?_; rintro e w' ⟨rfl, hS⟩))
  all_goals
    have HS : Hid (Below w.heap.size w _) := hS.2.2
    clear hS
    go_wp2
    go_ret
    exact ⟨rfl, HS.out⟩
end Go.Proofs.Ytdkgeeimhjffdaa
