/- Texts joined: PSame, PSame2. -/
import Derived.Test.YtdalomibilicfaaRSame
/- Machines in one state: the program's Same: arcs, two states. -/
namespace Go.Proofs.Ytdalomibilicfaa
open Go.RowKit

set_option maxRecDepth 100000 in
set_option maxHeartbeats 1600000 in
theorem eqArcs_any (xs ys : List Ar) (u v : Value) (w : World) (ha : SlA xs u w) (hb : SlA ys v w) :
    Calls Try.prog 25 #[u, v] w fun e w' => e = .returned (.bool (decide (xs = ys))) ∧ Below w.heap.size w w' := by
  have HB : Hid (∀ W, Below w.heap.size w W → SlA xs u W ∧ SlA ys v W) := fun W hW => ⟨ha.next hW, hb.next hW⟩
  obtain ⟨xa, xk, rfl, _, _, _, hxl⟩ := ha
  obtain ⟨ya, yk, rfl, _, _, _, hyl⟩ := hb
  by_cases hn : xs.length = ys.length
  case neg =>
    have HE : Hid (decide (xs = ys) = false) := decide_eq_false (fun e => hn (by rw [e]))
    have d0 : ((xs.length : Int) != ys.length) = true := by simp; omega
    clear HB
    go_enter Try.func25, Try.ntmps25
    go_wp2_with fail
    go_ret
    exact ⟨by rw [HE.out]; rfl, Below.refl _ _⟩
  have HL2 : Hid (xs.length = ys.length) := hn
  have d0 : ((xs.length : Int) != ys.length) = false := by simp; omega
  clear hn
  go_enter Try.func25, Try.ntmps25
  go_wp2_with fail
  go_loopw [13] (fun kv wq => ∃ (k : Nat), kv = .int .i64 k ∧ k ≤ xs.length ∧ Hid (xs = ys ↔ xs.drop k = ys.drop k) ∧ Below w.heap.size w wq) (fun i _ => xs.length - (intOf i).toNat)
  case atStart => exact ⟨0, rfl, Nat.zero_le _, by show _ ↔ _; simp, Below.refl _ _⟩
  case round =>
  obtain ⟨k, rfl, hk, HR, BQ⟩ := hrel
  obtain ⟨⟨_, _, e3, hx, _⟩, ⟨_, _, e4, hy, _⟩⟩ := HB.out _ BQ
  cases e3
  cases e4
  have hll := HL2.out
  by_cases hkl : k < xs.length
  case neg =>
    obtain rfl : k = xs.length := by omega
    have HE : Hid (decide (xs = ys) = true) := decide_eq_true (HR.out.2 (by rw [List.drop_of_length_le (by omega), List.drop_of_length_le (by omega)]))
    have d4 : decide ((xs.length : Int) < xs.length) = false := decide_eq_false (by omega)
    clear HB HR hx hy hll HL2
    go_wp2_with fail
    go_ret
    exact ⟨by rw [HE.out]; rfl, BQ⟩
  have d4 : decide ((k : Int) < xs.length) = true := decide_eq_true (by omega)
  obtain ⟨b5, o5, rfl, hb5, s0, s1, s2, _⟩ := hx.at (Below.refl _ _) hkl
  obtain ⟨b6, o6, rfl, hb6, t0, t1, t2, _⟩ := hy.at (Below.refl _ _) (show k < ys.length by omega)
  have hky : (k : Int) < ys.length := by omega
  have HR2 : Hid (xs = ys ↔ (xs[k] = ys[k]'(by omega) ∧ xs.drop (k + 1) = ys.drop (k + 1))) := by
    show _ ↔ _
    rw [HR.out, List.drop_eq_getElem_cons hkl, List.drop_eq_getElem_cons (show k < ys.length by omega), List.cons.injEq]
  generalize xs[k] = p at *
  generalize ys[k]'(by omega) = q at *
  obtain ⟨p1, p2, p3⟩ := p
  obtain ⟨q1, q2, q3⟩ := q
  simp only [Ar.mk.injEq] at *
  clear HR hx hy hll
  by_cases hpq : p1 = q1 ∧ p2 = q2 ∧ p3 = q3
  · obtain ⟨rfl, rfl, rfl⟩ := hpq
    have HE : Hid (xs = ys ↔ xs.drop (k + 1) = ys.drop (k + 1)) := by show _ ↔ _; rw [HR2.out]; simp
    clear HR2 HB
    go_wp2
    go_quiet (fail)
    go_wp2
    exact ⟨⟨k + 1, by go_num, by omega, HE, (by first | exact below_drewN BQ _ | exact BQ)⟩, by simp [intOf]; omega⟩
  · have HE : Hid (decide (xs = ys) = false) := decide_eq_false (fun e => hpq (HR2.out.1 e).1)
    clear HR2 HB
    by_cases h5 : p1 = q1
    · subst h5
      by_cases h6 : p2 = q2
      · subst h6
        have h7 : ¬ p3 = q3 := fun e => hpq ⟨rfl, rfl, e⟩
        have d7 : (p3 == q3) = false := by simpa using h7
        clear hpq
        go_wp2
        go_quiet (fail)
        go_wp2
        go_ret
        exact ⟨by rw [HE.out]; rfl, (by first | exact below_drewN BQ _ | exact BQ)⟩
      · have d6 : (p2 == q2) = false := by simpa using h6
        clear hpq
        go_wp2
        go_quiet (fail)
        go_wp2
        go_ret
        exact ⟨by rw [HE.out]; rfl, (by first | exact below_drewN BQ _ | exact BQ)⟩
    · have d5 : (p1 == q1) = false := by simpa using h5
      clear hpq
      go_wp2
      go_quiet (fail)
      go_wp2
      go_ret
      exact ⟨by rw [HE.out]; rfl, (by first | exact below_drewN BQ _ | exact BQ)⟩

set_option maxRecDepth 100000 in
set_option maxHeartbeats 1600000 in
theorem sameC_any (x y : Ds) (u v : Value) (w : World) (ha : SlA x.arcs u w) (hb : SlA y.arcs v w) :
    Calls Try.prog 24 #[.agg #[u, .int .i64 x.acc], .agg #[v, .int .i64 y.acc]] w fun e w' => e = .returned (.bool (decide (x = y))) ∧ Below w.heap.size w w' := by
  obtain ⟨xs, xc⟩ := x
  obtain ⟨ys, yc⟩ := y
  simp only at *
  have B0 : Below w.heap.size w ((w.alloc (Obj.cells #[u, .int .i64 xc] 37)).alloc (Obj.cells #[v, .int .i64 yc] 37)) := ((Below.refl _ _).alloc (Nat.le_refl _) _).alloc (by simp) _
  have HC := eqArcs_any xs ys u v _ (ha.next B0) (hb.next B0)
  obtain ⟨xa, xk, rfl, _⟩ := ha
  obtain ⟨ya, yk, rfl, _⟩ := hb
  by_cases h1 : xc = yc
  · subst h1
    have HE : Hid (decide ((⟨xs, xc⟩ : Ds) = ⟨ys, xc⟩) = decide (xs = ys)) := by show _ = _; simp
    rw [HE.out]
    generalize decide (xs = ys) = R at *
    have d1 : (xc == xc) = true := by simp
    go_enter Try.func24, Try.ntmps24
    go_wp2_with fail
    refine HC.mono ?_
    rintro e w1 ⟨rfl, hb1⟩
    have HB : Hid (Below w.heap.size w w1) := B0.trans (hb1.mono B0.size)
    clear HC hb1 B0
    go_wp2_with fail
    go_ret
    exact ⟨rfl, HB.out⟩
  · have HE : Hid (decide ((⟨xs, xc⟩ : Ds) = ⟨ys, yc⟩) = false) := decide_eq_false (fun e => h1 (by cases e; rfl))
    have d1 : (xc == yc) = false := by simpa using h1
    clear HC
    go_enter Try.func24, Try.ntmps24
    go_wp2_with fail
    go_ret
    exact ⟨by rw [HE.out]; rfl, B0⟩
end Go.Proofs.Ytdalomibilicfaa
/- Machines in one state: the program's Same. -/
namespace Go.Proofs.Ytdalomibilicfaa
open Go.RowKit

set_option maxRecDepth 100000 in
set_option maxHeartbeats 1600000 in
theorem eqStates_any (a b : List Ds) (u v : Value) (w : World) (ha : SlD a u w) (hb : SlD b v w) :
    Calls Try.prog 23 #[u, v, .func (.func 24) #[] #[]] w fun e w' => e = .returned (.bool (decide (a = b))) ∧ Below w.heap.size w w' := by
  have HB : Hid (∀ W, Below w.heap.size w W → SlD a u W ∧ SlD b v W) := fun W hW => ⟨ha.next hW, hb.next hW⟩
  obtain ⟨aa, ac, rfl, _, _, _, hal⟩ := ha
  obtain ⟨ba, bc, rfl, _, _, _, hbl⟩ := hb
  by_cases hn : a.length = b.length
  case neg =>
    have HE : Hid (decide (a = b) = false) := decide_eq_false (fun e => hn (by rw [e]))
    have d0 : ((a.length : Int) != b.length) = true := by simp; omega
    clear HB
    go_enter Try.func23, Try.ntmps23
    go_wp2_with fail
    go_ret
    exact ⟨by rw [HE.out]; rfl, Below.refl _ _⟩
  have HL2 : Hid (a.length = b.length) := hn
  have d0 : ((a.length : Int) != b.length) = false := by simp; omega
  clear hn
  go_enter Try.func23, Try.ntmps23
  go_wp2_with fail
  go_loopw [17] (fun kv wq => ∃ (k : Nat), kv = .int .i64 k ∧ k ≤ a.length ∧ Hid (a = b ↔ a.drop k = b.drop k) ∧ Below w.heap.size w wq) (fun i _ => a.length - (intOf i).toNat)
  case atStart => exact ⟨0, rfl, Nat.zero_le _, by show _ ↔ _; simp, Below.refl _ _⟩
  case round =>
  obtain ⟨k, rfl, hk, HR, BQ⟩ := hrel
  obtain ⟨⟨_, _, e3, hx, _⟩, ⟨_, _, e4, hy, _⟩⟩ := HB.out _ BQ
  cases e3
  cases e4
  have hll := HL2.out
  by_cases hkl : k < a.length
  case neg =>
    obtain rfl : k = a.length := by omega
    have HE : Hid (decide (a = b) = true) := decide_eq_true (HR.out.2 (by rw [List.drop_of_length_le (by omega), List.drop_of_length_le (by omega)]))
    have d4 : decide ((a.length : Int) < a.length) = false := decide_eq_false (by omega)
    clear HB HR hx hy hll HL2
    go_wp2_with fail
    go_ret
    exact ⟨by rw [HE.out]; rfl, BQ⟩
  have d4 : decide ((k : Int) < a.length) = true := decide_eq_true (by omega)
  obtain ⟨b5, o5, u5, rfl, hb5, s0, s1, hA, _⟩ := hx.at (Below.refl _ _) hkl
  obtain ⟨b6, o6, u6, rfl, hb6, t0, t1, hB, _⟩ := hy.at (Below.refl _ _) (show k < b.length by omega)
  have hky : (k : Int) < b.length := by omega
  have HR2 : Hid (a = b ↔ (a[k] = b[k]'(by omega) ∧ a.drop (k + 1) = b.drop (k + 1))) := by
    show _ ↔ _
    rw [HR.out, List.drop_eq_getElem_cons hkl, List.drop_eq_getElem_cons (show k < b.length by omega), List.cons.injEq]
  generalize a[k] = x at *
  generalize b[k]'(by omega) = y at *
  have HC0 : Hid (∀ W, Below wr.heap.size wr W → Calls Try.prog 24 #[.agg #[u5, .int .i64 x.acc], .agg #[u6, .int .i64 y.acc]] W fun e w' => e = .returned (.bool (decide (x = y))) ∧ Below W.heap.size W w') := fun W hW => sameC_any x y u5 u6 W (hA.next hW) (hB.next hW)
  have HE1 : Hid (decide (x = y) = false → decide (a = b) = false) := fun h => decide_eq_false (fun e => (of_decide_eq_false h) (HR2.out.1 e).1)
  have HE2 : Hid (decide (x = y) = true → (a = b ↔ a.drop (k + 1) = b.drop (k + 1))) := fun h => by
    rw [HR2.out]
    exact ⟨fun e => e.2, fun e => ⟨of_decide_eq_true h, e⟩⟩
  generalize decide (x = y) = R at *
  obtain ⟨xs, xc⟩ := x
  obtain ⟨ys, yc⟩ := y
  simp only at *
  obtain ⟨xa, xk, rfl, _⟩ := hA
  obtain ⟨ya, yk, rfl, _⟩ := hB
  have bx : Below wr.heap.size wr ((wr.alloc (Obj.cells #[.slice xa xs.length xk, .int .i64 xc] 37)).alloc (Obj.cells #[.slice ya ys.length yk, .int .i64 yc] 37)) := ((Below.refl _ _).alloc (Nat.le_refl _) _).alloc (by simp) _
  have HC := HC0.out _ bx
  have HBX : Hid (Below w.heap.size w ((wr.alloc (Obj.cells #[.slice xa xs.length xk, .int .i64 xc] 37)).alloc (Obj.cells #[.slice ya ys.length yk, .int .i64 yc] 37))) := BQ.trans (bx.mono BQ.size)
  have t0' := cell_newD (o := Obj.cells #[.slice xa xs.length xk, .int .i64 xc] 37) t0
  have t1' := cell_newD (o := Obj.cells #[.slice xa xs.length xk, .int .i64 xc] 37) t1
  have x0 : ((wr.alloc (Obj.cells #[.slice xa xs.length xk, .int .i64 xc] 37)).alloc (Obj.cells #[.slice ya ys.length yk, .int .i64 yc] 37)).heap[wr.heap.size]? = some (Obj.cells #[.slice xa xs.length xk, .int .i64 xc] 37) := (((Below.refl _ (wr.alloc (Obj.cells #[.slice xa xs.length xk, .int .i64 xc] 37))).alloc (Nat.le_refl _) _).block _ (by simp)).trans (heap_alloc_new _ _)
  have cx0 : ((wr.alloc (Obj.cells #[.slice xa xs.length xk, .int .i64 xc] 37)).alloc (Obj.cells #[.slice ya ys.length yk, .int .i64 yc] 37)).cell? ⟨wr.heap.size, 0, none⟩ = some (.slice xa xs.length xk) := by rw [Lib.cell_of_heap x0]; rfl
  have cx1 : ((wr.alloc (Obj.cells #[.slice xa xs.length xk, .int .i64 xc] 37)).alloc (Obj.cells #[.slice ya ys.length yk, .int .i64 yc] 37)).cell? ⟨wr.heap.size, 1, none⟩ = some (.int .i64 xc) := by rw [Lib.cell_of_heap x0]; rfl
  clear HR HR2 hx hy hll HC0 HB bx x0
  go_wp2_with fail
  refine HC.mono ?_
  rintro e w1 ⟨rfl, hb1⟩
  have HF : Hid (Below w.heap.size w w1) := HBX.out.trans (hb1.mono HBX.out.size)
  clear HC hb1 HBX
  cases R with
  | false =>
    have HE := HE1.out rfl
    clear HE1 HE2
    go_wp2_with fail
    go_ret
    exact ⟨by rw [HE]; rfl, HF.out⟩
  | true =>
    have HE : Hid (a = b ↔ a.drop (k + 1) = b.drop (k + 1)) := HE2.out rfl
    clear HE1 HE2
    go_wp2_with fail
    exact ⟨⟨k + 1, by go_num, by omega, HE, HF.out⟩, by simp [intOf]; omega⟩

set_option maxRecDepth 100000 in
set_option maxHeartbeats 1600000 in
theorem same_any (a b : List Ds) (u v : Value) (w : World) (ha : SlD a u w) (hb : SlD b v w) :
    Calls Try.prog 8 #[.agg #[u], .agg #[v]] w fun e w' => e = .returned (.bool (decide (a = b))) ∧ Below w.heap.size w w' := by
  have B0 : Below w.heap.size w ((w.alloc (Obj.cells #[u] 24)).alloc (Obj.cells #[v] 24)) := ((Below.refl _ _).alloc (Nat.le_refl _) _).alloc (by simp) _
  have HC := eqStates_any a b u v _ (ha.next B0) (hb.next B0)
  obtain ⟨xa, xk, rfl, _⟩ := ha
  obtain ⟨ya, yk, rfl, _⟩ := hb
  generalize decide (a = b) = R at *
  go_enter Try.func8, Try.ntmps8
  go_wp2_with fail
  refine HC.mono ?_
  rintro e w1 ⟨rfl, hb1⟩
  have HB : Hid (Below w.heap.size w w1) := B0.trans (hb1.mono B0.size)
  clear HC hb1 B0
  go_wp2_with fail
  go_ret
  exact ⟨rfl, HB.out⟩
end Go.Proofs.Ytdalomibilicfaa
