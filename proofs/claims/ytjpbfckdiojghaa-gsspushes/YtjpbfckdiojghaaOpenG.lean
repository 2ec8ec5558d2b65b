/- A stack among the arguments, opened. -/
import Derived.Test.YtjpbfckdiojghaaRows
import Derived.Test.YtjpbfckdiojghaaGBase
import Derived.ProofKit
import Derived.OpenShut
import Derived.SizedLaws
import Derived.Lib.SmallJoins
import Derived.Deep.Slices
import Derived.Deep.Strs
namespace Go.Proofs.Ytjpbfckdiojghaa
open Go.ChangeShapes Go.WideShapes Go.ChangeAt Go.RowKit Go.Joins Go.Deep

theorem own : ownKnob Try.prog.godebug = none := by kernel_rfl
theorem cellsGnode : Try.prog.cellsOf 35 = 3 := by kernel_rfl
theorem cellsGss : Try.prog.cellsOf 24 = 1 := by kernel_rfl
theorem cellsInt : Try.prog.cellsOf 3 = 1 := by kernel_rfl
theorem cellsInts : Try.prog.cellsOf 33 = 1 := by kernel_rfl
theorem cellsGnodes : Try.prog.cellsOf 22 = 1 := by kernel_rfl
theorem bytesGnode : Try.prog.bytesOf 35 = 40 := by kernel_rfl
theorem bytesInt : Try.prog.bytesOf 3 = 8 := by kernel_rfl
theorem laidOut : laidOutB Try.prog = true := by kernel_rfl
theorem cell_plain {W : World} {a : Addr} {v : Value} (h : W.cell? a = some v) : ∃ b off, a = ⟨b, off, none⟩ := by
  obtain ⟨b, off, spot⟩ := a
  have hs : spot = none := by simpa using World.cell?_spot h
  subst hs
  exact ⟨b, off, rfl⟩
theorem i64_of {a : Int} (w : (Lit.int .i64 a).wf = true) : i64B a := by
  have := bounds_i64 w
  exact ⟨this.1, this.2⟩
theorem three_of : ∀ {l : List Value}, l.length = 3 → ∃ a b c, l = [a, b, c]
  | [a, b, c], _ => ⟨a, b, c, rfl⟩
theorem getR {α : Type} {l n : Nat} {q : Nat → α} (hl : l = n) {i : Nat} {x : α} (h : ((List.range l).map q)[i]? = some x) : i < n ∧ x = q i := by
  have hi : i < l := by
    have := (List.getElem?_eq_some_iff.1 h).1
    simpa using this
  rw [List.getElem?_map, List.getElem?_range hi] at h
  exact ⟨by omega, (Option.some.inj h).symm⟩

variable {H : Type} {enc : TypeId × Value → H} {W : World}

theorem weights_all {P : Program} {e : TypeId} : ∀ {l : List (DataW H)} {x : DataW H}, x ∈ l → ∀ n ∈ x.weights P e, n ∈ DataW.weightsAll P e l
  | d :: r, x, h, n, hn => by
    rw [DataW.weightsAll, List.mem_append]
    rcases List.mem_cons.1 h with rfl | h
    · exact .inl hn
    · exact .inr (weights_all h n hn)
/-- A slice's own weight, and those of its elements, out of what it weighs. -/
theorem weigh_slice {t e : TypeId} {l m : Nat} {D : Nat → DataW H} (hu : Try.prog.underlying t = some (.slice e)) (hlm : l ≤ m)
    (hw : ∀ n ∈ (DataW.slice ((List.range l).map D) ((List.range (m - l)).map fun j => D (l + j)) : DataW H).weights Try.prog t, n ≤ reachBytes) :
    m * Try.prog.bytesOf e ≤ reachBytes ∧ ∀ i, i < l → ∀ n ∈ (D i).weights Try.prog e, n ≤ reachBytes := by
  rw [DataW.weights, hu] at hw
  simp only at hw
  refine ⟨?_, fun i hi n hn => hw n ?_⟩
  · have := hw _ (List.mem_cons_self ..)
    simp only [List.length_map, List.length_range] at this
    rw [show l + (m - l) = m by omega] at this
    exact this
  · refine List.mem_cons_of_mem _ (List.mem_append.2 (.inl (weights_all (List.mem_map.2 ⟨i, List.mem_range.2 hi, rfl⟩) n hn)))
theorem open_numsG {fuel : Nat} {cs : List Value} {x : DataW H × List MemPlace} (hf : DataW.trod enc Try.prog W 0 (fun _ => true) true fuel 33 cs = some x) (hw : ∀ n ∈ x.1.weights Try.prog 33, n ≤ reachBytes) :
    ∃ (es : List Int) (v : Value), cs = [v] ∧ SlI es v W ∧ es.length ≤ 140737488351232 := by
  rcases open_slice Try.underlying33 hf with ⟨hcs, _⟩ | ⟨a, l, c, m, n, D, Pl, hcs, _, hl, hmx, hmm, hx, hel⟩
  · exact ⟨[], _, hcs, ⟨none, 0, rfl, RowAt.nil _ _ _, fun _ => rfl, Nat.le_refl _, by simp⟩, by simp⟩
  · have hm : m = c := by simpa using hmm
    subst hm
    rw [hx] at hw
    have hwt := (weigh_slice Try.underlying33 hl hw).1
    rw [bytesInt] at hwt
    unfold reachBytes at hwt
    have each : ∀ i, i < l → ∃ q : Int, W.cell? (a.add i) = some (.int .i64 q) ∧ i64B q := by
      intro i hi
      obtain ⟨cs', h1, h2⟩ := hel i (by omega)
      rw [cellsInt] at h1
      obtain ⟨_, hlen', hcell⟩ := World.cells?_some h1
      obtain ⟨x0, e0, _, w0⟩ := DataW.trod_int Try.underlying3 h2
      subst e0
      have q0 := hcell 0 (by omega)
      rw [add_add] at q0
      exact ⟨x0, by simpa using q0, i64_of w0⟩
    obtain ⟨q, hq⟩ := choose_lt each
    refine ⟨(List.range l).map q, _, hcs, ⟨some a, m, by simp, fun i r hr => ?_, (fun h => by cases h), by simpa using hl, fun y hy => ?_⟩, by simp; omega⟩
    · obtain ⟨hi, rfl⟩ := getR rfl hr
      have c0 := (hq i hi).1
      have hc' : W.cell? a = some (.int .i64 (q 0)) := by simpa [Addr.add] using (hq 0 (by omega)).1
      obtain ⟨b, off, rfl⟩ := cell_plain hc'
      rw [add_plain] at c0
      exact ⟨b, off, rfl, World.block_lt_of_cell? W _ hc', c0⟩
    · obtain ⟨i, hi, rfl⟩ := List.mem_map.1 hy
      exact (hq i (List.mem_range.1 hi)).2
set_option maxRecDepth 100000 in
theorem open_gns {fuel : Nat} {cs : List Value} {x : DataW H × List MemPlace} (hf : DataW.trod enc Try.prog W 0 (fun _ => true) true fuel 22 cs = some x) (hw : ∀ n ∈ x.1.weights Try.prog 22, n ≤ reachBytes) :
    ∃ (es : List Gn) (v : Value), cs = [v] ∧ SlN es v W := by
  rcases open_slice Try.underlying22 hf with ⟨hcs, _⟩ | ⟨a, l, c, m, n, D, Pl, hcs, _, hl, hmx, hmm, hx, hel⟩
  · exact ⟨[], _, hcs, SlN.nil W⟩
  · have hm : m = c := by simpa using hmm
    subst hm
    rw [hx] at hw
    have hwt := weigh_slice Try.underlying22 hl hw
    rw [bytesGnode] at hwt
    have hb := hwt.1
    unfold reachBytes at hb
    have each : ∀ i, i < l → ∃ q : Gn × Value, W.cell? (a.add (i * 3)) = some (.int .i64 q.1.st) ∧ W.cell? (a.add (i * 3 + 1)) = some (.int .i64 q.1.pl) ∧ W.cell? (a.add (i * 3 + 2)) = some q.2 ∧ SlI q.1.links q.2 W ∧ i64B q.1.st ∧ i64B q.1.pl ∧ q.1.links.length ≤ 140737488351232 := by
      intro i hi
      obtain ⟨cs', h1, h2⟩ := hel i (by omega)
      rw [cellsGnode] at h1
      obtain ⟨_, hlen', hcell⟩ := World.cells?_some h1
      obtain ⟨y0, y1, y2, k, hy, _, g0, g1, g2⟩ := trod_struct3 Try.underlying35 h2
      have hwi := hwt.2 i hi
      have hy1 : D i = .agg [y0.1, y1.1, y2.1] := by have := congrArg Prod.fst hy; exact this
      rw [hy1, DataW.weights, Try.underlying35] at hwi
      obtain ⟨v0, v1, v2, rfl⟩ := three_of hlen'
      simp [cellsInt, cellsInts] at g0 g1 g2
      obtain ⟨x0, e0, _, w0⟩ := DataW.trod_int Try.underlying3 g0
      obtain ⟨x1, e1, _, w1⟩ := DataW.trod_int Try.underlying3 g1
      obtain ⟨its, vv, e2, hT, hTl⟩ := open_numsG g2 (fun n hn => hwi n (by simp [DataW.weightsEach, hn]))
      simp at e0 e1 e2
      subst e0 e1 e2
      have q0 := hcell 0 (by omega)
      have q1 := hcell 1 (by omega)
      have q2 := hcell 2 (by omega)
      rw [add_add] at q0 q1 q2
      exact ⟨(⟨x0, x1, its⟩, v2), by simpa using q0, by simpa using q1, by simpa using q2, hT, i64_of w0, i64_of w1, hTl⟩
    haveI : Inhabited (Gn × Value) := ⟨(⟨0, 0, []⟩, .bool false)⟩
    obtain ⟨q, hq⟩ := choose_lt each
    refine ⟨(List.range l).map fun i => (q i).1, _, hcs, some a, m, by simp, fun i r hr => ?_, (fun h => by cases h), by simpa using hl, by simp; omega⟩
    obtain ⟨hi, rfl⟩ := getR rfl hr
    obtain ⟨c0, c1, c2, c3⟩ := hq i hi
    have hc' : W.cell? a = some (.int .i64 (q 0).1.st) := by simpa [Addr.add] using (hq 0 (by omega)).1
    obtain ⟨b, off, rfl⟩ := cell_plain hc'
    rw [add_plain] at c0 c1 c2
    exact ⟨b, off, _, rfl, World.block_lt_of_cell? W _ hc', c0, c1, c2, c3⟩
set_option maxRecDepth 100000 in
theorem open_gss {r : Reach} {b0 : Nat} {v : Value} {d : DataW H} {p : List MemPlace} (hv : Value.okWide Try.prog W r b0 24 v) (h : DataW.Trod enc Try.prog W 0 (fun _ => true) true 24 v d p) (hw : ∀ n ∈ d.weights Try.prog 24, n ≤ reachBytes) :
    ∃ (l : List Gn) (u : Value), v = .agg #[u] ∧ SlN l u W := by
  obtain ⟨cs, rfl, hsz⟩ := okWide_struct Try.underlying24 hv
  rw [cellsGss] at hsz
  obtain ⟨c0, rfl⟩ : ∃ c0, cs = #[c0] := by
    obtain ⟨l⟩ := cs
    match l, hsz with
    | [c0], _ => exact ⟨c0, rfl⟩
  obtain ⟨fuel, hf⟩ := h
  obtain ⟨y0, n, hx, _, g0⟩ := trod_struct1 Try.underlying24 hf
  simp only [Prod.mk.injEq] at hx
  rw [hx.1, DataW.weights, Try.underlying24] at hw
  simp [Value.cells, cellsGnodes] at g0
  obtain ⟨l, u, e0, hl⟩ := open_gns g0 (fun n hn => hw n (by simp [DataW.weightsEach, hn]))
  simp at e0
  subst e0
  exact ⟨l, _, rfl, hl⟩
theorem trodAll_six {P : Program} {w : World} {base : Nat} {spare : Nat → Bool} {held : Bool} {t0 t1 t2 t3 t4 t5 : TypeId} {args : Array Value} {ds : List (DataW H)} {ps : List MemPlace} (h : DataW.TrodAll enc P w base spare held [t0, t1, t2, t3, t4, t5] args.toList ds ps) :
    ∃ v0 v1 v2 v3 v4 v5 d0 d1 d2 d3 d4 d5 p0 p1 p2 p3 p4 p5, args = #[v0, v1, v2, v3, v4, v5] ∧ ds = [d0, d1, d2, d3, d4, d5] ∧ ps = p0 ++ (p1 ++ (p2 ++ (p3 ++ (p4 ++ (p5 ++ []))))) ∧ DataW.Trod enc P w base spare held t0 v0 d0 p0 ∧ DataW.Trod enc P w base spare held t1 v1 d1 p1 ∧ DataW.Trod enc P w base spare held t2 v2 d2 p2 ∧ DataW.Trod enc P w base spare held t3 v3 d3 p3 ∧ DataW.Trod enc P w base spare held t4 v4 d4 p4 ∧ DataW.Trod enc P w base spare held t5 v5 d5 p5 := by
  obtain ⟨v0, vs, d0, ds0, p0, q0, hargs, rfl, rfl, h0, r0⟩ := trodAll_cons h
  obtain ⟨v1, vs1, d1, ds1, p1, q1, rfl, rfl, rfl, h1, r1⟩ := trodAll_cons r0
  obtain ⟨v2, vs2, d2, ds2, p2, q2, rfl, rfl, rfl, h2, r2⟩ := trodAll_cons r1
  obtain ⟨v3, vs3, d3, ds3, p3, q3, rfl, rfl, rfl, h3, r3⟩ := trodAll_cons r2
  obtain ⟨v4, vs4, d4, ds4, p4, q4, rfl, rfl, rfl, h4, r4⟩ := trodAll_cons r3
  obtain ⟨v5, vs5, d5, ds5, p5, q5, rfl, rfl, rfl, h5, r5⟩ := trodAll_cons r4
  obtain ⟨rfl, rfl, rfl⟩ := trodAll_nil r5
  exact ⟨v0, v1, v2, v3, v4, v5, d0, d1, d2, d3, d4, d5, p0, p1, p2, p3, p4, p5, by cases args; simp_all, rfl, rfl, h0, h1, h2, h3, h4, h5⟩
end Go.Proofs.Ytjpbfckdiojghaa
