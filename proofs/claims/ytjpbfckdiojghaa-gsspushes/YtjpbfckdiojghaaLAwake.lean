/- Stacks: chapter 16's example, as the statements ask for it. -/
import Derived.Test.YtjpbfckdiojghaaKMath
import Derived.Test.YtjpbfckdiojghaaGRows
namespace Go.Proofs.Ytjpbfckdiojghaa
open Go.RowKit

def X0 : List Gn := [⟨0, 0, []⟩]
def X1 : List Gn := [⟨0, 0, []⟩, ⟨1, 1, [0]⟩]
def X2 : List Gn := [⟨0, 0, []⟩, ⟨1, 1, [0]⟩, ⟨2, 1, [0]⟩]
def X3 : List Gn := [⟨0, 0, []⟩, ⟨1, 1, [0]⟩, ⟨2, 1, [0]⟩, ⟨3, 2, [1]⟩]
def X4 : List Gn := [⟨0, 0, []⟩, ⟨1, 1, [0]⟩, ⟨2, 1, [0]⟩, ⟨3, 2, [1, 2]⟩]
theorem x1 : pushL X0 0 1 1 = X1 ∧ posG X0 (1, 1) = 1 := by decide
theorem x2 : pushL X1 0 2 1 = X2 ∧ posG X1 (1, 2) = 2 := by decide
theorem x3 : pushL X2 1 3 2 = X3 ∧ posG X2 (2, 3) = 3 := by decide
theorem x4 : pushL X3 2 3 2 = X4 ∧ posG X3 (2, 3) = 3 ∧ newB X3 2 3 2 = true := by decide
theorem y0 : pushB X0 0 1 1 := ⟨by decide, by decide, fun y hy => by simp [X0] at hy; subst hy; decide, by decide, by decide⟩
theorem y1 : pushB X1 0 2 1 := ⟨by decide, by decide, fun y hy => by simp [X1] at hy; subst hy; decide, by decide, by decide⟩
theorem y2 : pushB X2 1 3 2 := ⟨by decide, by decide, fun y hy => by simp [X2] at hy; subst hy; decide, by decide, by decide⟩
theorem y3 : pushB X3 2 3 2 := ⟨by decide, by decide, fun y hy => by simp [X3] at hy; subst hy; decide, by decide, by decide⟩
theorem z0 : fitP X0 := fit_of (by decide) (by unfold UpG X0; simp) (fun x hx => by simp [X0] at hx; subst hx; exact ⟨by decide, by decide, by unfold UpL; simp, by simp⟩)
theorem z1 : fitP X1 := by rw [← x1.1]; exact push_fit z0 y0
theorem z2 : fitP X2 := by rw [← x2.1]; exact push_fit z1 y1
theorem z3 : fitP X3 := by rw [← x3.1]; exact push_fit z2 y2
theorem z4 : fitP X4 := by rw [← x4.1]; exact push_fit z3 y3
theorem q4 : pathsF X4 3 2 = ([[3, 1, 0], [3, 2, 0]], 0) := by decide
theorem b41 : backF X4 3 1 = [1, 2] := by decide
theorem b42 : backF X4 3 2 = [0] := by decide
theorem push_is {l m : List Gn} {f st pl : Int} {p : Nat} (hf : fitP l) (hp : pushB l f st pl) (h1 : pushL l f st pl = m) (h2 : posG l (pl, st) = p) (v : Value) (w : World) (hl : SlN l v w) :
    Calls Try.prog 8 #[.agg #[v], .int .i64 f, .int .i64 st, .int .i64 pl] w fun e w' => ∃ v' b, e = .returned (.tuple #[.agg #[v'], .int .i64 p, .bool b]) ∧ b = newB l f st pl ∧ (∃ a n c, v' = .slice a n c) ∧ SlN m v' w' ∧ Below w.heap.size w w' :=
  (push_yes l v f st pl w hl hf hp).mono fun e w' ⟨v', h3, h4, h5⟩ => ⟨v', _, by rw [h3, h2], rfl, by obtain ⟨a, c, e, _⟩ := h4; exact ⟨a, _, c, e⟩, by rw [← h1]; exact h4, h5⟩
theorem slI_two {w : World} {x y : Int} (hx : i64B x) (hy : i64B y) {W : World} (hb : Below (w.alloc (Obj.cells #[.int .i64 x, .int .i64 y] 3)).heap.size (w.alloc (Obj.cells #[.int .i64 x, .int .i64 y] 3)) W) : SlI [x, y] (.slice (some ⟨w.heap.size, 0, none⟩) 2 2) W := by
  have ho : (w.alloc (Obj.cells #[.int .i64 x, .int .i64 y] 3)).ownsRow 0 3 1 (.slice (some ⟨w.heap.size, 0, none⟩) 2 2) 2 [.int .i64 x, .int .i64 y] := ⟨rfl, .inr ⟨w.heap.size, 2, _, rfl, Nat.zero_le _, heap_alloc_new _ _, Nat.le_refl _, by unfold maxLen; omega, rfl, rfl⟩⟩
  exact sli_own (B := 0) (show Own1 3 encI 0 [x, y] _ _ from ownsRow_below4 ho hb) (fun z hz => by simp at hz; rcases hz with rfl | rfl <;> assumption)
set_option maxRecDepth 100000 in
set_option maxHeartbeats 800000 in
theorem gInts_any (es fs : List Int) (u v : Value) (w : World) (hc : SlI es u w) (hd : SlI fs v w) (hl : es.length ≤ 1000000) (hm : fs.length ≤ 1000000) :
    Calls Try.prog 17 #[u, v] w fun e w' => e = .returned (.bool (decide (es = fs))) ∧ Below w.heap.size w w' := by
  have HC := gints_any es fs u v w hc hd hl hm
  obtain ⟨_, _, rfl, _⟩ := hc
  obtain ⟨_, _, rfl, _⟩ := hd
  go_enter Try.func17, Try.ntmps17
  go_wp2_with fail
  refine HC.mono ?_
  rintro e w1 ⟨rfl, hb⟩
  go_wp2_with fail
  go_ret
  exact ⟨rfl, hb⟩
theorem SlI.box {l : List Int} {v : Value} {W W' : World} {gb : Nat} {a : Option Addr} {n c : Nat} {T : TypeId} (h : SlI l v W) (hg : W.heap[gb]? = some (Obj.cells #[.slice a n c] T)) (hb : But (fun k => k = gb) W W') : SlI l v W' := by
  obtain ⟨ao, cap, h0, h1, h2⟩ := h
  refine ⟨ao, cap, h0, fun i y hy => ?_, h2⟩
  obtain ⟨b, off, e, hlt, hc⟩ := h1 i y hy
  refine ⟨b, off, e, Nat.lt_of_lt_of_le hlt hb.size, (hb.cell (p := ⟨b, off + i, none⟩) hlt (fun e2 => ?_)).trans hc⟩
  simp only at e2
  subst e2
  rw [Lib.cell_of_heap hg] at hc
  match off + i, hc with
  | 0, hc => simp [encI] at hc
  | k + 1, hc => simp at hc
theorem SlN.box {l : List Gn} {v : Value} {W W' : World} {gb : Nat} {a : Option Addr} {n c : Nat} {T : TypeId} (h : SlN l v W) (hg : W.heap[gb]? = some (Obj.cells #[.slice a n c] T)) (hb : But (fun k => k = gb) W W') : SlN l v W' := by
  obtain ⟨ao, cap, h0, h1, h2⟩ := h
  refine ⟨ao, cap, h0, fun i x hx => ?_, h2⟩
  obtain ⟨b, off, u, e, hlt, q0, q1, q2, q3, q4⟩ := h1 i x hx
  have hne : ¬ b = gb := fun e2 => by
    subst e2
    rw [Lib.cell_of_heap hg] at q1
    simp at q1
  exact ⟨b, off, u, e, Nat.lt_of_lt_of_le hlt hb.size, (hb.cell (p := ⟨b, off + i * 3, none⟩) hlt hne).trans q0, (hb.cell (p := ⟨b, off + i * 3 + 1, none⟩) hlt hne).trans q1, (hb.cell (p := ⟨b, off + i * 3 + 2, none⟩) hlt hne).trans q2, q3.box hg hb, q4⟩
set_option maxRecDepth 100000 in
set_option maxHeartbeats 3200000 in
theorem awake_any (w : World) : Calls Try.prog 7 #[] w fun e w' => e = .returned (.bool true) ∧ Below w.heap.size w w' := by
  have HC := new_any 0 w (by unfold i64B; omega)
  go_enter Try.func7, Try.ntmps7
  go_wp2_with fail
  refine HC.mono ?_
  rintro e w1 ⟨v1, rfl, s1, b1⟩
  clear HC
  have HC := push_is z0 y0 x1.1 x1.2 v1 w1 s1
  have HB1 : Hid (Below w.heap.size w w1) := b1
  clear s1 b1
  go_wp2_with fail
  refine HC.mono ?_
  rintro e w2 ⟨v2, nb2, rfl, _, ⟨a2, n2, c2, rfl⟩, s2, b2⟩
  clear HC
  have HB2 : Hid (Below w.heap.size w w2) := below_then HB1.out b2 HB1.out.size
  have BA : Below w2.heap.size w2 (w2.alloc (Obj.cells #[.slice a2 n2 c2] 24)) := below_box _ _ _
  have HC := push_is z1 y1 x2.1 x2.2 (.slice a2 n2 c2) (w2.alloc (Obj.cells #[.slice a2 n2 c2] 24)) (s2.next BA)
  have kA : (w2.alloc (Obj.cells #[.slice a2 n2 c2] 24)).heap[w2.heap.size]? = some (Obj.cells #[.slice a2 n2 c2] 24) := heap_alloc_new _ _
  have HBA : Hid (Below w.heap.size w (w2.alloc (Obj.cells #[.slice a2 n2 c2] 24))) := below_then HB2.out BA HB2.out.size
  have hw2 := HB2.out.size
  clear s2 b2 HB1 BA
  go_wp2_with fail
  refine HC.mono ?_
  rintro e w3 ⟨v3, nb3, rfl, _, ⟨a3, n3, c3, rfl⟩, s3, b3⟩
  clear HC
  generalize w2.alloc (Obj.cells #[.slice a2 n2 c2] 24) = wA at *
  have k3 := (b3.block _ (blk_lt kA)).trans kA
  have HB3 : Hid (Below w.heap.size w w3) := below_then HBA.out b3 HBA.out.size
  have c3' : w3.cell? ⟨w2.heap.size, 0, none⟩ = some (.slice a2 n2 c2) := by rw [Lib.cell_of_heap k3]; rfl
  have f3' : w3.frozen? ⟨w2.heap.size, 0, none⟩ = false := Lib.frozen_of_heap k3 _
  have HC := push_is z2 y2 x3.1 x3.2 (.slice a3 n3 c3) (w3.setCell ⟨w2.heap.size, 0, none⟩ (.slice a3 n3 c3)) (s3.box k3 ((But.refl _ _).setCell _ _ (.inr rfl)))
  have HB4 : Hid (Below w.heap.size w (w3.setCell ⟨w2.heap.size, 0, none⟩ (.slice a3 n3 c3))) := HB3.out.setCell hw2 _
  have k4 : (w3.setCell ⟨w2.heap.size, 0, none⟩ (.slice a3 n3 c3)).cell? ⟨w2.heap.size, 0, none⟩ = some (.slice a3 n3 c3) := by rw [Lib.cell_of_heap (blk_set (o := 0) k3 _)]; rfl
  clear kA s3 b3 k3 HBA HB3 HB2
  go_wp2_with fail
  refine HC.mono ?_
  rintro e w5 ⟨v5, nb5, rfl, _, ⟨a5, n5, c5, rfl⟩, s5, b5⟩
  clear HC
  have HB5 : Hid (Below w.heap.size w w5) := below_then HB4.out b5 HB4.out.size
  have hw5 := HB5.out.size
  have BA : Below w5.heap.size w5 (w5.alloc (Obj.cells #[.slice a5 n5 c5] 24)) := below_box _ _ _
  have HC := push_is z3 y3 x4.1 x4.2.1 (.slice a5 n5 c5) (w5.alloc (Obj.cells #[.slice a5 n5 c5] 24)) (s5.next BA)
  have kA : (w5.alloc (Obj.cells #[.slice a5 n5 c5] 24)).heap[w5.heap.size]? = some (Obj.cells #[.slice a5 n5 c5] 24) := heap_alloc_new _ _
  have HBA : Hid (Below w.heap.size w (w5.alloc (Obj.cells #[.slice a5 n5 c5] 24))) := below_then HB5.out BA HB5.out.size
  clear c3' f3' k4 HB4 s5 b5 BA
  go_wp2_with fail
  refine HC.mono ?_
  rintro e w6 ⟨v6, nb6, rfl, hnb, ⟨a6, n6, c6, rfl⟩, s6, b6⟩
  rw [x4.2.2] at hnb
  subst hnb
  clear HC
  generalize w5.alloc (Obj.cells #[.slice a5 n5 c5] 24) = wB at *
  have k6 := (b6.block _ (blk_lt kA)).trans kA
  have HB6 : Hid (Below w.heap.size w w6) := below_then HBA.out b6 HBA.out.size
  have c6' : w6.cell? ⟨w5.heap.size, 0, none⟩ = some (.slice a5 n5 c5) := by rw [Lib.cell_of_heap k6]; rfl
  have f6' : w6.frozen? ⟨w5.heap.size, 0, none⟩ = false := Lib.frozen_of_heap k6 _
  have k7 := blk_set (o := 0) k6 (.slice a6 n6 c6)
  have c7 : (w6.setCell ⟨w5.heap.size, 0, none⟩ (.slice a6 n6 c6)).cell? ⟨w5.heap.size, 0, none⟩ = some (.slice a6 n6 c6) := by rw [Lib.cell_of_heap k7]; rfl
  have s7 : SlN X4 (.slice a6 n6 c6) (w6.setCell ⟨w5.heap.size, 0, none⟩ (.slice a6 n6 c6)) := s6.box k6 ((But.refl _ _).setCell _ _ (.inr rfl))
  have HB7 : Hid (Below w.heap.size w (w6.setCell ⟨w5.heap.size, 0, none⟩ (.slice a6 n6 c6))) := HB6.out.setCell hw5 _
  have HC := paths_any X4 _ 3 2 _ s7 z4
  rw [q4] at HC
  clear kA s6 b6 k6 HBA HB6 HB5
  go_wp2_with fail
  refine HC.mono ?_
  rintro e w8 ⟨v8, rfl, s8, b8⟩
  clear HC
  generalize w6.setCell ⟨w5.heap.size, 0, none⟩ (.slice a6 n6 c6) = w7 at *
  obtain ⟨a8, c8, rfl, _⟩ := s8
  have HB8 : Hid (Below w.heap.size w w8) := below_then HB7.out b8 HB7.out.size
  have hbl := blk_lt k7
  have c8' := (b8.cell (p := ⟨w5.heap.size, 0, none⟩) hbl).trans c7
  have HC := back_any X4 _ 3 1 _ (s7.next b8) z4
  rw [b41] at HC
  go_wp2_with fail
  refine HC.mono ?_
  rintro e w9 ⟨v9, rfl, s9, b9⟩
  clear HC
  have HSZ : Hid (∀ W, Below w9.heap.size w9 W → SlN X4 (.slice a6 n6 c6) W ∧ Below w.heap.size w W ∧ W.cell? ⟨w5.heap.size, 0, none⟩ = some (.slice a6 n6 c6)) := fun W hW => ⟨((s7.next b8).next b9).next hW, below_then (below_then HB8.out b9 HB8.out.size) hW (Nat.le_trans HB8.out.size b9.size), (hW.cell (p := ⟨w5.heap.size, 0, none⟩) (Nat.lt_of_lt_of_le hbl (Nat.le_trans b8.size b9.size))).trans ((b9.cell (p := ⟨w5.heap.size, 0, none⟩) (Nat.lt_of_lt_of_le hbl b8.size)).trans c8')⟩
  obtain ⟨a9, c9, rfl, _⟩ := id s9
  have BC : Below w9.heap.size w9 (w9.alloc (Obj.cells #[.int .i64 1, .int .i64 2] 3)) := (Below.refl _ _).alloc (Nat.le_refl _) _
  have HC := gInts_any [1, 2] [1, 2] _ _ (w9.alloc (Obj.cells #[.int .i64 1, .int .i64 2] 3)) (s9.next BC) (slI_two (by unfold i64B; omega) (by unfold i64B; omega) (Below.refl _ _)) (by simp) (by simp)
  rw [decide_eq_true rfl] at HC
  clear c7 k7 s7 HB7 b8 b9 c8' HB8 hbl c6' f6'
  go_wp2_with fail
  refine HC.mono ?_
  rintro e w10 ⟨rfl, b10⟩
  clear HC
  have B10 : Below w9.heap.size w9 w10 := below_then BC b10 BC.size
  have c10 := (HSZ.out _ B10).2.2
  have HC := back_any X4 _ 3 2 _ (HSZ.out _ B10).1 z4
  rw [b42] at HC
  clear BC b10 s9
  go_wp2_with fail
  refine HC.mono ?_
  rintro e w11 ⟨v11, rfl, s11, b11⟩
  clear HC
  obtain ⟨a11, c11, rfl, _⟩ := id s11
  have BC : Below w11.heap.size w11 (w11.alloc (Obj.cells #[.int .i64 0] 3)) := below_box _ _ _
  have HC := gInts_any [0] [0] _ _ (w11.alloc (Obj.cells #[.int .i64 0] 3)) (s11.next BC) (slI_one (by unfold i64B; omega) (Below.refl _ _)) (by simp) (by simp)
  rw [decide_eq_true rfl] at HC
  have B11 : Below w9.heap.size w9 w11 := below_then B10 b11 B10.size
  clear b11 s11 c10 B10
  go_wp2_with fail
  refine HC.mono ?_
  rintro e w12 ⟨rfl, b12⟩
  clear HC
  have B12 : Below w9.heap.size w9 w12 := below_then B11 (below_then BC b12 BC.size) B11.size
  have c12 := (HSZ.out _ B12).2.2
  have HC := fit_yes X4 _ _ (HSZ.out _ B12).1 z4 (fun x hx => by simp [X4] at hx; rcases hx with rfl | rfl | rfl | rfl <;> simp)
  clear BC b12 B11
  go_wp2_with fail
  refine HC.mono ?_
  rintro e w13 ⟨rfl, b13⟩
  clear HC
  have HE : Hid (Below w.heap.size w w13) := (HSZ.out _ (below_then B12 b13 B12.size)).2.1
  clear b13 B12
  go_wp2_with fail
  go_ret
  exact ⟨rfl, HE.out⟩
end Go.Proofs.Ytjpbfckdiojghaa
