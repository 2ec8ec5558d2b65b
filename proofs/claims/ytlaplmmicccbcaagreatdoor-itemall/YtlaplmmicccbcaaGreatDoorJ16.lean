/- A plain grammar, items, a production, and numbers among the arguments, opened: what they hold as cells. -/
import Derived.Test.YtlaplmmicccbcaaGreatDoorRows
import Derived.Test.YtlaplmmicccbcaaGreatDoorTie
import Derived.Test.YtlaplmmicccbcaaGreatDoorCards
import Derived.Test.YtlaplmmicccbcaaGreatDoorJ01
import Derived.Test.YtlaplmmicccbcaaGreatDoorJ07
import Derived.ProofKit
import Derived.OpenShut
import Derived.SizedLaws
import Derived.Lib.SmallJoins
import Derived.Deep.Slices
import Derived.Deep.Strs
import Derived.LaidMore
import Derived.LaidHandle
import Derived.Stop.Joined
import Derived.Stop.LaidErr
import Derived.Lib.LaidTab
import Derived.SevenTiedAt
namespace Go.Proofs.YtlaplmmicccbcaaGreatDoor
open Go.ChangeShapes Go.WideShapes Go.ChangeAt Go.RowKit Go.Joins Go.Deep

theorem own : ownKnob Tryz.prog.godebug = none := by kernel_rfl
theorem cellsItem : Tryz.prog.cellsOf 56 = 3 := by kernel_rfl
theorem cellsProd : Tryz.prog.cellsOf 54 = 3 := by kernel_rfl
theorem cellsFlat : Tryz.prog.cellsOf 25 = 3 := by kernel_rfl
theorem cellsInt : Tryz.prog.cellsOf 3 = 1 := by kernel_rfl
theorem cellsStr : Tryz.prog.cellsOf 9 = 1 := by kernel_rfl
theorem cellsItems : Tryz.prog.cellsOf 52 = 1 := by kernel_rfl
theorem cellsStrs : Tryz.prog.cellsOf 22 = 1 := by kernel_rfl
theorem cellsProds : Tryz.prog.cellsOf 23 = 1 := by kernel_rfl
theorem laidOut : laidOutB Tryz.prog = true := by kernel_rfl
theorem cell_plain {W : World} {a : Addr} {v : Value} (h : W.cell? a = some v) : ∃ b off, a = ⟨b, off, none⟩ := by
  obtain ⟨b, off, spot⟩ := a
  have hs : spot = none := by simpa using World.cell?_spot h
  subst hs
  exact ⟨b, off, rfl⟩
theorem i64_of {a : Int} (w : (Lit.int .i64 a).wf = true) : i64B a := by
  have := bounds_i64 w
  exact ⟨this.1, this.2⟩
theorem three_of : ∀ {l : List Value}, l.length = 3 → ∃ a b c, l = [a, b, c]
  | [a, b, c], _ => ⟨a, b, c, rfl⟩
theorem getR {α : Type} {l n : Nat} {q : Nat → α} (hl : l = n) {i : Nat} {x : α} (h : ((List.range l).map q)[i]? = some x) : i < n ∧ x = q i := by
  have hi : i < l := by
    have := (List.getElem?_eq_some_iff.1 h).1
    simpa using this
  rw [List.getElem?_map, List.getElem?_range hi] at h
  exact ⟨by omega, (Option.some.inj h).symm⟩

variable {H : Type} {enc : TypeId × Value → H} {W : World}

theorem weights_all {P : Program} {e : TypeId} : ∀ {l : List (DataW H)} {x : DataW H}, x ∈ l → ∀ n ∈ x.weights P e, n ∈ DataW.weightsAll P e l
  | d :: r, x, h, n, hn => by
    rw [DataW.weightsAll, List.mem_append]
    rcases List.mem_cons.1 h with rfl | h
    · exact .inl hn
    · exact .inr (weights_all h n hn)
/-- A slice's own weight, and those of its elements, out of what it weighs. -/
theorem weigh_slice {t e : TypeId} {l m : Nat} {D : Nat → DataW H} (hu : Tryz.prog.underlying t = some (.slice e)) (hlm : l ≤ m)
    (hw : ∀ n ∈ (DataW.slice ((List.range l).map D) ((List.range (m - l)).map fun j => D (l + j)) : DataW H).weights Tryz.prog t, n ≤ reachBytes) :
    m * Tryz.prog.bytesOf e ≤ reachBytes ∧ ∀ i, i < l → ∀ n ∈ (D i).weights Tryz.prog e, n ≤ reachBytes := by
  rw [DataW.weights, hu] at hw
  simp only at hw
  refine ⟨?_, fun i hi n hn => hw n ?_⟩
  · have := hw _ (List.mem_cons_self ..)
    simp only [List.length_map, List.length_range] at this
    rw [show l + (m - l) = m by omega] at this
    exact this
  · refine List.mem_cons_of_mem _ (List.mem_append.2 (.inl (weights_all (List.mem_map.2 ⟨i, List.mem_range.2 hi, rfl⟩) n hn)))
theorem bytesItem : Tryz.prog.bytesOf 56 = 40 := by kernel_rfl
theorem bytesProd : Tryz.prog.bytesOf 54 = 40 := by kernel_rfl
theorem bytesStr : Tryz.prog.bytesOf 9 = 16 := by kernel_rfl

theorem open_nums {fuel : Nat} {sp : Nat → Bool} {cs : List Value} {x : DataW H × List MemPlace} (hf : DataW.trod enc Tryz.prog W 0 sp true fuel 47 cs = some x) :
    ∃ (es : List Int) (v : Value), cs = [v] ∧ SlI es v W := by
  rcases open_slice Tryz.underlying47 hf with ⟨hcs, _⟩ | ⟨a, l, c, m, n, D, Pl, hcs, _, hl, hmx, hmm, hx, hel⟩
  · exact ⟨[], _, hcs, none, 0, rfl, RowAt.nil _ _ _, fun _ => rfl, Nat.le_refl _, by simp⟩
  · have hlm : l ≤ m := by rw [hmm]; split <;> omega
    have each : ∀ i, i < l → ∃ q : Int, W.cell? (a.add i) = some (.int .i64 q) ∧ i64B q := by
      intro i hi
      obtain ⟨cs', h1, h2⟩ := hel i (by omega)
      rw [cellsInt] at h1
      obtain ⟨_, hlen', hcell⟩ := World.cells?_some h1
      obtain ⟨x0, e0, _, w0⟩ := DataW.trod_int Tryz.underlying3 h2
      subst e0
      have q0 := hcell 0 (by omega)
      rw [add_add] at q0
      exact ⟨x0, by simpa using q0, i64_of w0⟩
    obtain ⟨q, hq⟩ := choose_lt each
    refine ⟨(List.range l).map q, _, hcs, some a, c, by simp, fun i r hr => ?_, (fun h => by cases h), by simpa using hl, fun y hy => ?_⟩
    · obtain ⟨hi, rfl⟩ := getR rfl hr
      have c0 := (hq i hi).1
      have hc' : W.cell? a = some (.int .i64 (q 0)) := by simpa [Addr.add] using (hq 0 (by omega)).1
      obtain ⟨b, off, rfl⟩ := cell_plain hc'
      rw [add_plain] at c0
      exact ⟨b, off, rfl, World.block_lt_of_cell? W _ hc', c0⟩
    · obtain ⟨i, hi, rfl⟩ := List.mem_map.1 hy
      exact (hq i (List.mem_range.1 hi)).2

theorem open_texts {fuel : Nat} {cs : List Value} {x : DataW H × List MemPlace} (hf : DataW.trod enc Tryz.prog W 0 (fun _ => true) true fuel 22 cs = some x) (hw : ∀ n ∈ x.1.weights Tryz.prog 22, n ≤ reachBytes) :
    ∃ (es : List ByteArray) (ao : Option Addr) (cap : Nat), cs = [.slice ao es.length cap] ∧ RowAt Value.string es ao W ∧ es.length ≤ 140737488351232 := by
  rcases open_slice Tryz.underlying22 hf with ⟨hcs, _⟩ | ⟨a, l, c, m, n, D, Pl, hcs, _, hl, hmx, hmm, hx, hel⟩
  · exact ⟨[], none, 0, hcs, RowAt.nil _ _ _, by simp⟩
  · have hlm : l ≤ m := by rw [hmm]; split <;> omega
    rw [hx] at hw
    have hwt := weigh_slice Tryz.underlying22 hlm hw
    rw [bytesStr] at hwt
    unfold reachBytes at hwt
    have each : ∀ i, i < l → ∃ q : ByteArray, W.cell? (a.add i) = some (.string q) := by
      intro i hi
      obtain ⟨cs', h1, h2⟩ := hel i (by omega)
      rw [cellsStr] at h1
      obtain ⟨_, hlen', hcell⟩ := World.cells?_some h1
      obtain ⟨s, e0, _⟩ := DataW.trod_string Tryz.underlying9 h2
      subst e0
      have q0 := hcell 0 (by omega)
      rw [add_add] at q0
      exact ⟨s, by simpa using q0⟩
    obtain ⟨q, hq⟩ := choose_lt each
    refine ⟨(List.range l).map q, some a, c, by simpa using hcs, fun i r hr => ?_, by simp; omega⟩
    obtain ⟨hi, rfl⟩ := getR rfl hr
    have c0 := hq i hi
    have hc' : W.cell? a = some (.string (q 0)) := by simpa [Addr.add] using hq 0 (by omega)
    obtain ⟨b, off, rfl⟩ := cell_plain hc'
    rw [add_plain] at c0
    exact ⟨b, off, rfl, World.block_lt_of_cell? W _ hc', c0⟩

theorem open_items {fuel : Nat} {cs : List Value} {x : DataW H × List MemPlace} (hf : DataW.trod enc Tryz.prog W 0 (fun _ => true) true fuel 52 cs = some x) (hw : ∀ n ∈ x.1.weights Tryz.prog 52, n ≤ reachBytes) :
    ∃ (es : List It) (v : Value), cs = [v] ∧ SlT es v W := by
  rcases open_slice Tryz.underlying52 hf with ⟨hcs, _⟩ | ⟨a, l, c, m, n, D, Pl, hcs, _, hl, hmx, hmm, hx, hel⟩
  · exact ⟨[], _, hcs, none, 0, rfl, fun i x hi => by simp at hi, fun _ => rfl, Nat.le_refl _, by omega⟩
  · have hm : m = c := by simpa using hmm
    subst hm
    rw [hx] at hw
    have hwt := weigh_slice Tryz.underlying52 hl hw
    rw [bytesItem] at hwt
    unfold reachBytes at hwt
    have each : ∀ i, i < l → ∃ q : It, W.cell? (a.add (i * 3)) = some (.int .i64 q.sym) ∧ W.cell? (a.add (i * 3 + 1)) = some (.string q.fld) ∧ W.cell? (a.add (i * 3 + 2)) = some (.string q.als) ∧ i64B q.sym ∧ q.fld.size ≤ 9223372036854775807 ∧ q.als.size ≤ 9223372036854775807 := by
      intro i hi
      obtain ⟨cs', h1, h2⟩ := hel i (by omega)
      rw [cellsItem] at h1
      obtain ⟨_, hlen', hcell⟩ := World.cells?_some h1
      obtain ⟨y0, y1, y2, k, hy, _, g0, g1, g2⟩ := trod_struct3 Tryz.underlying56 h2
      obtain ⟨v0, v1, v2, rfl⟩ := three_of hlen'
      simp [cellsInt, cellsStr] at g0 g1 g2
      obtain ⟨x0, e0, _, w0⟩ := DataW.trod_int Tryz.underlying3 g0
      obtain ⟨s1, e1, _, w1⟩ := DataW.trod_string Tryz.underlying9 g1
      obtain ⟨s2, e2, _, w2⟩ := DataW.trod_string Tryz.underlying9 g2
      simp at e0 e1 e2
      subst e0 e1 e2
      have q0 := hcell 0 (by omega)
      have q1 := hcell 1 (by omega)
      have q2 := hcell 2 (by omega)
      rw [add_add] at q0 q1 q2
      unfold maxLen at w1 w2
      exact ⟨⟨x0, s1, s2⟩, by simpa using q0, by simpa using q1, by simpa using q2, i64_of w0, w1, w2⟩
    haveI : Inhabited It := ⟨⟨0, ByteArray.empty, ByteArray.empty⟩⟩
    obtain ⟨q, hq⟩ := choose_lt each
    refine ⟨(List.range l).map q, _, hcs, some a, m, by simp, fun i r hr => ?_, (fun h => by cases h), by simpa using hl, by omega⟩
    obtain ⟨hi, rfl⟩ := getR rfl hr
    obtain ⟨c0, c1, c2, c3⟩ := hq i hi
    have hc' : W.cell? a = some (.int .i64 (q 0).sym) := by simpa [Addr.add] using (hq 0 (by omega)).1
    obtain ⟨b, off, rfl⟩ := cell_plain hc'
    rw [add_plain] at c0 c1 c2
    exact ⟨b, off, rfl, World.block_lt_of_cell? W _ hc', c0, c1, c2, c3⟩

set_option maxRecDepth 100000 in
theorem open_prods {fuel : Nat} {cs : List Value} {x : DataW H × List MemPlace} (hf : DataW.trod enc Tryz.prog W 0 (fun _ => true) true fuel 23 cs = some x) (hw : ∀ n ∈ x.1.weights Tryz.prog 23, n ≤ reachBytes) :
    ∃ (es : List Pr) (ao : Option Addr) (cap : Nat), cs = [.slice ao es.length cap] ∧ PrsAt es ao W ∧ es.length ≤ 140737488351232 ∧ es.length ≤ cap ∧ (ao = none → cap = 0) := by
  rcases open_slice Tryz.underlying23 hf with ⟨hcs, _⟩ | ⟨a, l, c, m, n, D, Pl, hcs, _, hl, hmx, hmm, hx, hel⟩
  · exact ⟨[], none, 0, hcs, fun i x hi => by simp at hi, by simp, by simp, fun _ => rfl⟩
  · have hm : m = c := by simpa using hmm
    subst hm
    rw [hx] at hw
    have hwt := weigh_slice Tryz.underlying23 hl hw
    rw [bytesProd] at hwt
    have hb := hwt.1
    unfold reachBytes at hb
    have each : ∀ i, i < l → ∃ q : Pr × Value, W.cell? (a.add (i * 3)) = some (.int .i64 q.1.left) ∧ W.cell? (a.add (i * 3 + 1)) = some q.2 ∧ W.cell? (a.add (i * 3 + 2)) = some (.int .i64 q.1.prec) ∧ SlT q.1.right q.2 W ∧ i64B q.1.left ∧ i64B q.1.prec := by
      intro i hi
      obtain ⟨cs', h1, h2⟩ := hel i (by omega)
      rw [cellsProd] at h1
      obtain ⟨_, hlen', hcell⟩ := World.cells?_some h1
      obtain ⟨y0, y1, y2, k, hy, _, g0, g1, g2⟩ := trod_struct3 Tryz.underlying54 h2
      have hwi := hwt.2 i hi
      have hy1 : D i = .agg [y0.1, y1.1, y2.1] := by have := congrArg Prod.fst hy; exact this
      rw [hy1, DataW.weights, Tryz.underlying54] at hwi
      obtain ⟨v0, v1, v2, rfl⟩ := three_of hlen'
      simp [cellsInt, cellsItems] at g0 g1 g2
      obtain ⟨x0, e0, _, w0⟩ := DataW.trod_int Tryz.underlying3 g0
      obtain ⟨x2, e2, _, w2⟩ := DataW.trod_int Tryz.underlying3 g2
      obtain ⟨its, vv, e1, hT⟩ := open_items g1 (fun n hn => hwi n (by simp [DataW.weightsEach, hn]))
      simp at e0 e1 e2
      subst e0 e1 e2
      have q0 := hcell 0 (by omega)
      have q1 := hcell 1 (by omega)
      have q2 := hcell 2 (by omega)
      rw [add_add] at q0 q1 q2
      exact ⟨(⟨x0, its, x2⟩, v1), by simpa using q0, by simpa using q1, by simpa using q2, hT, i64_of w0, i64_of w2⟩
    haveI : Inhabited (Pr × Value) := ⟨(⟨0, [], 0⟩, .bool false)⟩
    obtain ⟨q, hq⟩ := choose_lt each
    refine ⟨(List.range l).map fun i => (q i).1, some a, m, by simpa using hcs, fun i r hr => ?_, by simp; omega, by simpa using hl, (fun h => by cases h)⟩
    obtain ⟨hi, rfl⟩ := getR rfl hr
    obtain ⟨c0, c1, c2, c3⟩ := hq i hi
    have hc' : W.cell? a = some (.int .i64 (q 0).1.left) := by simpa [Addr.add] using (hq 0 (by omega)).1
    obtain ⟨b, off, rfl⟩ := cell_plain hc'
    rw [add_plain] at c0 c1 c2
    exact ⟨b, off, _, rfl, World.block_lt_of_cell? W _ hc', c0, c1, c2, c3⟩

set_option maxRecDepth 100000 in
theorem open_flat {r : Reach} {b0 : Nat} {v : Value} {d : DataW H} {p : List MemPlace} (hv : Value.okWide Tryz.prog W r b0 25 v) (h : DataW.Trod enc Tryz.prog W 0 (fun _ => true) true 25 v d p) (hw : ∀ n ∈ d.weights Tryz.prog 25, n ≤ reachBytes) :
    ∃ f a, v = FlA.val a f ∧ FlAt f a W := by
  obtain ⟨v0, v1, v2, y0, y1, y2, n, rfl, rfl, _, g0, g1, g2⟩ := open_agg3 Tryz.underlying25 (by kernel_rfl) cellsFlat hv h
  rw [DataW.weights, Tryz.underlying25] at hw
  obtain ⟨ts, ta, tc, e0, hT, lt⟩ := open_texts g0 (fun n hn => hw n (by simp [DataW.weightsEach, hn]))
  obtain ⟨ns, na, nc, e1, hN, ln⟩ := open_texts g1 (fun n hn => hw n (by simp [DataW.weightsEach, hn]))
  obtain ⟨ps, pa, pc, e2, hP, lp, lc, ln0⟩ := open_prods g2 (fun n hn => hw n (by simp [DataW.weightsEach, hn]))
  simp at e0 e1 e2
  subst e0 e1 e2
  exact ⟨⟨ts, ns, ps⟩, ⟨ta, tc, na, nc, pa, pc⟩, rfl, hT, hN, hP, lt, ln, lp, lc, ln0⟩
set_option maxRecDepth 100000 in
theorem open_prod {r : Reach} {b0 : Nat} {v : Value} {d : DataW H} {p : List MemPlace} (hv : Value.okWide Tryz.prog W r b0 54 v) (h : DataW.Trod enc Tryz.prog W 0 (fun _ => true) true 54 v d p) (hw : ∀ n ∈ d.weights Tryz.prog 54, n ≤ reachBytes) :
    ∃ (q : Pr) (u : Value), v = .agg #[.int .i64 q.left, u, .int .i64 q.prec] ∧ SlT q.right u W ∧ i64B q.left ∧ i64B q.prec := by
  obtain ⟨v0, v1, v2, y0, y1, y2, n, rfl, rfl, _, g0, g1, g2⟩ := open_agg3 Tryz.underlying54 (by kernel_rfl) cellsProd hv h
  rw [DataW.weights, Tryz.underlying54] at hw
  obtain ⟨x0, e0, _, w0⟩ := DataW.trod_int Tryz.underlying3 g0
  obtain ⟨x2, e2, _, w2⟩ := DataW.trod_int Tryz.underlying3 g2
  obtain ⟨its, vv, e1, hT⟩ := open_items g1 (fun n hn => hw n (by simp [DataW.weightsEach, hn]))
  simp at e0 e1 e2
  subst e0 e1 e2
  exact ⟨⟨x0, its, x2⟩, v1, rfl, hT, i64_of w0, i64_of w2⟩
end Go.Proofs.YtlaplmmicccbcaaGreatDoor
/- The listed variable (the table of the trailing zeros), as the cards tie it. -/
namespace Go.Proofs.YtlaplmmicccbcaaGreatDoor
open Go.ChangeShapes Go.WideShapes Go.ChangeAt Go.RowKit Go.Joins Go.Deep

abbrev laidL : List (String × DataW Unit) := [("math/bits.deBruijn64tab", Rows.laid_math_bits_deBruijn64tab)]
theorem Tryz.gTab : Tryz.prog.globalNamed "math/bits.deBruijn64tab" = some 0 := by kernel_rfl
theorem tTab : (Tryz.prog.globals[0]?).map (·.type) = some 154 := by kernel_rfl
theorem tb_of_laid {W : World} (h : laidMetH Tryz.prog laidL W) : Tb W := by
  rw [MakeChecks.laidMetH_plain _ _ _ (by kernel_rfl)] at h
  have htab := Lib.tabIs_of_head (k := .u8) (zs := Lib.deBruijn64tab.map (fun n : Nat => (n : Int))) Tryz.gTab tTab Tryz.underlying154 Tryz.underlying5 (by kernel_rfl) (by kernel_rfl) h
  unfold Lib.TabIs at htab
  have key : TabAt 0 Lib.deBruijn64tab W := fun j hj => by
    have := World.var?_cell Tryz.gTab htab j
    rw [this]
    simp [hj]
  exact ⟨key, World.block_lt_of_cell? W _ (key 0 (by decide))⟩
theorem door_met (os : Os) (args : Array Value) : laidMetH Tryz.prog laidL ((World.doorLaid Tryz.prog 200 os).forCall (fun _ _ => 0) ⟨#[], args, []⟩).memory :=
  laidMetH_of_parts3 (fuel := 8) (laidMet_of_run' 8 (by kernel_rfl) (by kernel_rfl)) (by kernel_rfl) (by kernel_rfl)
end Go.Proofs.YtlaplmmicccbcaaGreatDoor
