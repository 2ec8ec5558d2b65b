/- A machine among the arguments, opened. -/
import Derived.Test.YtdalomibilicfaaRows
import Derived.Test.YtdalomibilicfaaJDMath
import Derived.ProofKit
import Derived.OpenShut
import Derived.SizedLaws
import Derived.Lib.SmallJoins
import Derived.Deep.Slices
import Derived.Deep.Strs
namespace Go.Proofs.Ytdalomibilicfaa
open Go.ChangeShapes Go.WideShapes Go.ChangeAt Go.RowKit Go.Joins Go.Deep

theorem own : ownKnob Try.prog.godebug = none := by kernel_rfl
theorem cellsInt : Try.prog.cellsOf 3 = 1 := by kernel_rfl
theorem cellsArc : Try.prog.cellsOf 39 = 3 := by kernel_rfl
theorem cellsArcs : Try.prog.cellsOf 35 = 1 := by kernel_rfl
theorem cellsDs : Try.prog.cellsOf 37 = 2 := by kernel_rfl
theorem cellsDss : Try.prog.cellsOf 22 = 1 := by kernel_rfl
theorem cellsDfa : Try.prog.cellsOf 24 = 1 := by kernel_rfl
theorem bytesArc : Try.prog.bytesOf 39 = 24 := by kernel_rfl
theorem bytesDs : Try.prog.bytesOf 37 = 32 := by kernel_rfl
theorem bytesInt : Try.prog.bytesOf 3 = 8 := by kernel_rfl
theorem laidOut : laidOutB Try.prog = true := by kernel_rfl
theorem cell_plain {W : World} {a : Addr} {v : Value} (h : W.cell? a = some v) : ∃ b off, a = ⟨b, off, none⟩ := by
  obtain ⟨b, off, spot⟩ := a
  have hs : spot = none := by simpa using World.cell?_spot h
  subst hs
  exact ⟨b, off, rfl⟩
theorem i64_of {a : Int} (w : (Lit.int .i64 a).wf = true) : i64B a := by
  have := bounds_i64 w
  exact ⟨this.1, this.2⟩
theorem three_of : ∀ {l : List Value}, l.length = 3 → ∃ a b c, l = [a, b, c]
  | [a, b, c], _ => ⟨a, b, c, rfl⟩
theorem two_of : ∀ {l : List Value}, l.length = 2 → ∃ a b, l = [a, b]
  | [a, b], _ => ⟨a, b, rfl⟩
theorem getR {α : Type} {l n : Nat} {q : Nat → α} (hl : l = n) {i : Nat} {x : α} (h : ((List.range l).map q)[i]? = some x) : i < n ∧ x = q i := by
  have hi : i < l := by
    have := (List.getElem?_eq_some_iff.1 h).1
    simpa using this
  rw [List.getElem?_map, List.getElem?_range hi] at h
  exact ⟨by omega, (Option.some.inj h).symm⟩

variable {H : Type} {enc : TypeId × Value → H} {W : World}

theorem weights_all {P : Program} {e : TypeId} : ∀ {l : List (DataW H)} {x : DataW H}, x ∈ l → ∀ n ∈ x.weights P e, n ∈ DataW.weightsAll P e l
  | d :: r, x, h, n, hn => by
    rw [DataW.weightsAll, List.mem_append]
    rcases List.mem_cons.1 h with rfl | h
    · exact .inl hn
    · exact .inr (weights_all h n hn)
/-- A slice's own weight, and those of its elements, out of what it weighs. -/
theorem weigh_slice {t e : TypeId} {l m : Nat} {D : Nat → DataW H} (hu : Try.prog.underlying t = some (.slice e)) (hlm : l ≤ m)
    (hw : ∀ n ∈ (DataW.slice ((List.range l).map D) ((List.range (m - l)).map fun j => D (l + j)) : DataW H).weights Try.prog t, n ≤ reachBytes) :
    m * Try.prog.bytesOf e ≤ reachBytes ∧ ∀ i, i < l → ∀ n ∈ (D i).weights Try.prog e, n ≤ reachBytes := by
  rw [DataW.weights, hu] at hw
  simp only at hw
  refine ⟨?_, fun i hi n hn => hw n ?_⟩
  · have := hw _ (List.mem_cons_self ..)
    simp only [List.length_map, List.length_range] at this
    rw [show l + (m - l) = m by omega] at this
    exact this
  · refine List.mem_cons_of_mem _ (List.mem_append.2 (.inl (weights_all (List.mem_map.2 ⟨i, List.mem_range.2 hi, rfl⟩) n hn)))
set_option maxRecDepth 100000 in
theorem open_ars {fuel : Nat} {cs : List Value} {x : DataW H × List MemPlace} (hf : DataW.trod enc Try.prog W 0 (fun _ => true) true fuel 35 cs = some x) (hw : ∀ n ∈ x.1.weights Try.prog 35, n ≤ reachBytes) :
    ∃ (es : List Ar) (v : Value), cs = [v] ∧ SlA es v W := by
  rcases open_slice Try.underlying35 hf with ⟨hcs, _⟩ | ⟨a, l, c, m, n, D, Pl, hcs, _, hl, hmx, hmm, hx, hel⟩
  · exact ⟨[], _, hcs, SlA.nil W⟩
  · have hm : m = c := by simpa using hmm
    subst hm
    rw [hx] at hw
    have hb := (weigh_slice Try.underlying35 hl hw).1
    rw [bytesArc] at hb
    unfold reachBytes at hb
    have each : ∀ i, i < l → ∃ q : Ar, W.cell? (a.add (i * 3)) = some (.int .i64 q.lo) ∧ W.cell? (a.add (i * 3 + 1)) = some (.int .i64 q.hi) ∧ W.cell? (a.add (i * 3 + 2)) = some (.int .i64 q.tg) ∧ i64B q.lo ∧ i64B q.hi ∧ i64B q.tg := by
      intro i hi
      obtain ⟨cs', h1, h2⟩ := hel i (by omega)
      rw [cellsArc] at h1
      obtain ⟨_, hlen', hcell⟩ := World.cells?_some h1
      obtain ⟨y0, y1, y2, k, hy, _, g0, g1, g2⟩ := trod_struct3 Try.underlying39 h2
      obtain ⟨v0, v1, v2, rfl⟩ := three_of hlen'
      simp [cellsInt] at g0 g1 g2
      obtain ⟨x0, e0, _, w0⟩ := DataW.trod_int Try.underlying3 g0
      obtain ⟨x1, e1, _, w1⟩ := DataW.trod_int Try.underlying3 g1
      obtain ⟨x2, e2, _, w2⟩ := DataW.trod_int Try.underlying3 g2
      simp at e0 e1 e2
      subst e0 e1 e2
      have q0 := hcell 0 (by omega)
      have q1 := hcell 1 (by omega)
      have q2 := hcell 2 (by omega)
      rw [add_add] at q0 q1 q2
      exact ⟨⟨x0, x1, x2⟩, by simpa using q0, by simpa using q1, by simpa using q2, i64_of w0, i64_of w1, i64_of w2⟩
    haveI : Inhabited Ar := ⟨⟨0, 0, 0⟩⟩
    obtain ⟨q, hq⟩ := choose_lt each
    refine ⟨(List.range l).map q, _, hcs, some a, m, by simp, fun i r hr => ?_, (fun h => by cases h), by simpa using hl, by simp; omega⟩
    obtain ⟨hi, rfl⟩ := getR rfl hr
    obtain ⟨c0, c1, c2, c3⟩ := hq i hi
    have hc' : W.cell? a = some (.int .i64 (q 0).lo) := by simpa [Addr.add] using (hq 0 (by omega)).1
    obtain ⟨b, off, rfl⟩ := cell_plain hc'
    rw [add_plain] at c0 c1 c2
    exact ⟨b, off, rfl, World.block_lt_of_cell? W _ hc', c0, c1, c2, c3⟩
set_option maxRecDepth 100000 in
theorem open_dss {fuel : Nat} {cs : List Value} {x : DataW H × List MemPlace} (hf : DataW.trod enc Try.prog W 0 (fun _ => true) true fuel 22 cs = some x) (hw : ∀ n ∈ x.1.weights Try.prog 22, n ≤ reachBytes) :
    ∃ (es : List Ds) (v : Value), cs = [v] ∧ SlD es v W := by
  rcases open_slice Try.underlying22 hf with ⟨hcs, _⟩ | ⟨a, l, c, m, n, D, Pl, hcs, _, hl, hmx, hmm, hx, hel⟩
  · exact ⟨[], _, hcs, SlD.nil W⟩
  · have hm : m = c := by simpa using hmm
    subst hm
    rw [hx] at hw
    have hwt := weigh_slice Try.underlying22 hl hw
    rw [bytesDs] at hwt
    have hb := hwt.1
    unfold reachBytes at hb
    have each : ∀ i, i < l → ∃ q : Ds × Value, W.cell? (a.add (i * 2)) = some q.2 ∧ W.cell? (a.add (i * 2 + 1)) = some (.int .i64 q.1.acc) ∧ SlA q.1.arcs q.2 W ∧ i64B q.1.acc := by
      intro i hi
      obtain ⟨cs', h1, h2⟩ := hel i (by omega)
      rw [cellsDs] at h1
      obtain ⟨_, hlen', hcell⟩ := World.cells?_some h1
      obtain ⟨y0, y1, k, hy, _, g0, g1⟩ := trod_struct2 Try.underlying37 h2
      have hwi := hwt.2 i hi
      have hy1 : D i = .agg [y0.1, y1.1] := by have := congrArg Prod.fst hy; exact this
      rw [hy1, DataW.weights, Try.underlying37] at hwi
      obtain ⟨v0, v1, rfl⟩ := two_of hlen'
      simp [cellsInt, cellsArcs] at g0 g1
      obtain ⟨its, vv, e0, hT⟩ := open_ars g0 (fun n hn => hwi n (by simp [DataW.weightsEach, hn]))
      obtain ⟨x1, e1, _, w1⟩ := DataW.trod_int Try.underlying3 g1
      simp at e0 e1
      subst e0 e1
      have q0 := hcell 0 (by omega)
      have q1 := hcell 1 (by omega)
      rw [add_add] at q0 q1
      exact ⟨(⟨its, x1⟩, v0), by simpa using q0, by simpa using q1, hT, i64_of w1⟩
    haveI : Inhabited (Ds × Value) := ⟨(⟨[], 0⟩, .bool false)⟩
    obtain ⟨q, hq⟩ := choose_lt each
    refine ⟨(List.range l).map fun i => (q i).1, _, hcs, some a, m, by simp, fun i r hr => ?_, (fun h => by cases h), by simpa using hl, by simp; omega⟩
    obtain ⟨hi, rfl⟩ := getR rfl hr
    obtain ⟨c0, c1, c3⟩ := hq i hi
    have hc' : W.cell? a = some (q 0).2 := by simpa [Addr.add] using (hq 0 (by omega)).1
    obtain ⟨b, off, rfl⟩ := cell_plain hc'
    rw [add_plain] at c0 c1
    exact ⟨b, off, _, rfl, World.block_lt_of_cell? W _ hc', c0, c1, c3⟩
set_option maxRecDepth 100000 in
theorem open_dfa {r : Reach} {b0 : Nat} {v : Value} {d : DataW H} {p : List MemPlace} (hv : Value.okWide Try.prog W r b0 24 v) (h : DataW.Trod enc Try.prog W 0 (fun _ => true) true 24 v d p) (hw : ∀ n ∈ d.weights Try.prog 24, n ≤ reachBytes) :
    ∃ (l : List Ds) (u : Value), v = .agg #[u] ∧ SlD l u W := by
  obtain ⟨cs, rfl, hsz⟩ := okWide_struct Try.underlying24 hv
  rw [cellsDfa] at hsz
  obtain ⟨c0, rfl⟩ : ∃ c0, cs = #[c0] := by
    obtain ⟨l⟩ := cs
    match l, hsz with
    | [c0], _ => exact ⟨c0, rfl⟩
  obtain ⟨fuel, hf⟩ := h
  obtain ⟨y0, n, hx, _, g0⟩ := trod_struct1 Try.underlying24 hf
  simp only [Prod.mk.injEq] at hx
  rw [hx.1, DataW.weights, Try.underlying24] at hw
  simp [Value.cells, cellsDss] at g0
  obtain ⟨l, u, e0, hl⟩ := open_dss g0 (fun n hn => hw n (by simp [DataW.weightsEach, hn]))
  simp at e0
  subst e0
  exact ⟨l, _, rfl, hl⟩
end Go.Proofs.Ytdalomibilicfaa
