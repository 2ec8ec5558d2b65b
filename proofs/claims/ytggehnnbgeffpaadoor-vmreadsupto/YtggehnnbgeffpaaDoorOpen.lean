/- What the laws' rows share: the listed variables, as they lie; a slice of operations among the arguments, opened. -/
import Derived.Test.YtggehnnbgeffpaaDoorRows
import Derived.Test.YtggehnnbgeffpaaDoorAwake
import Derived.ProofKit
import Derived.OpenShut
import Derived.SizedLaws
import Derived.LaidMore
import Derived.LaidHandle
import Derived.Stop.Joined
import Derived.Stop.LaidErr
import Derived.Lib.SmallJoins
import Derived.Lib.LaidTab
import Derived.Deep.Slices
import Derived.Deep.Strs
namespace Go.Proofs.YtggehnnbgeffpaaDoor
open Go.ChangeShapes Go.WideShapes Go.ChangeAt Go.RowKit Go.Joins Go.Deep
open Go.ChangeMaps (open_string shut_string)

theorem own : ownKnob Tryd.prog.godebug = none := by kernel_rfl
theorem laidOut : laidOutB Tryd.prog = true := by kernel_rfl
theorem cells39 : Tryd.prog.cellsOf 39 = 4 := by kernel_rfl
theorem cells73 : Tryd.prog.cellsOf 73 = 4 := by kernel_rfl
theorem cells9 : Tryd.prog.cellsOf 9 = 1 := by kernel_rfl
theorem cellsB4 : Tryd.prog.cellsOf 4 = 1 := by kernel_rfl
theorem cellsI3 : Tryd.prog.cellsOf 3 = 1 := by kernel_rfl
theorem t0 : (Tryd.prog.globals[0]?).map (·.type) = some 74 := by kernel_rfl
theorem t2 : (Tryd.prog.globals[2]?).map (·.type) = some 124 := by kernel_rfl
theorem t3 : (Tryd.prog.globals[3]?).map (·.type) = some 84 := by kernel_rfl
theorem t4 : (Tryd.prog.globals[4]?).map (·.type) = some 84 := by kernel_rfl

abbrev laidL : List (String × DataW Unit) := [("math/bits.deBruijn32tab", Rows.laid_math_bits_deBruijn32tab), ("math/bits.deBruijn64tab", Rows.laid_math_bits_deBruijn64tab), ("internal/strconv.uint64pow10", Rows.laid_internal_strconv_uint64pow10), ("strconv.ErrRange", Rows.laid_strconv_ErrRange), ("strconv.ErrSyntax", Rows.laid_strconv_ErrSyntax), ("bramble/vm.forms", Rows.laid_bramble_vm_forms)]

theorem trod_struct4 {H : Type} {enc : TypeId × Value → H} {P : Program} {w : World} {base : Nat} {spare : Nat → Bool} {held : Bool} {t : TypeId} {f0 f1 f2 f3 : Field} {fuel : Nat} {cs : List Value} {x : DataW H × List MemPlace} (ht : P.underlying t = some (.struct #[f0, f1, f2, f3])) (h : DataW.trod enc P w base spare held fuel t cs = some x) :
    ∃ y0 y1 y2 y3 n, x = (.agg [y0.1, y1.1, y2.1, y3.1], y0.2 ++ (y1.2 ++ (y2.2 ++ y3.2))) ∧ cs.length = P.cellsOf t ∧ DataW.trod enc P w base spare held n f0.type ((cs.drop f0.offset).take (P.cellsOf f0.type)) = some y0 ∧
      DataW.trod enc P w base spare held n f1.type ((cs.drop f1.offset).take (P.cellsOf f1.type)) = some y1 ∧ DataW.trod enc P w base spare held n f2.type ((cs.drop f2.offset).take (P.cellsOf f2.type)) = some y2 ∧ DataW.trod enc P w base spare held n f3.type ((cs.drop f3.offset).take (P.cellsOf f3.type)) = some y3 := by
  obtain ⟨xs, n, _, rfl, hl, hlen, hf⟩ := DataW.trod_struct ht h
  match xs, hlen with
  | [y0, y1, y2, y3], _ => exact ⟨y0, y1, y2, y3, n, by simp, hl, by simpa using hf 0 f0 rfl, by simpa using hf 1 f1 rfl, by simpa using hf 2 f2 rfl, by simpa using hf 3 f3 rfl⟩

/-- The datum of the forms, row by row. -/
def formD (k : Nat) : DataW Unit := .agg [.lit (.string (wordL k)), .lit (.bool (useX k)), .lit (.bool (useY k)), .lit (.bool (useZ k))]
theorem forms_datum : (Rows.laid_bramble_vm_forms : DataW Unit) = .agg ((List.range 8).map formD) := rfl

theorem forms_of {W : World} {cs : Array Value} {enc : TypeId × Value → Unit} {base : Nat} {sp : Nat → Bool} {held : Bool} {fuel : Nat} {p : List MemPlace} (hv : W.var? Tryd.prog "bramble/vm.forms" = some cs)
    (h : DataW.trod enc Tryd.prog W base sp held fuel 74 cs.toList = some (Rows.laid_bramble_vm_forms, p)) (hlt : 0 < W.heap.size) : FormsAt W := by
  refine ⟨hlt, fun i hi => ?_⟩
  rw [forms_datum] at h
  obtain ⟨xs, m, _, hx, hl, hn, hel⟩ := DataW.trod_array Tryd.underlying74 h
  simp only [Prod.mk.injEq, DataW.agg.injEq] at hx
  have hxi : (xs[i]?).map (·.1) = some (formD i) := by
    rw [← List.getElem?_map, ← hx.1]
    simp [hi]
  have h1 := hel i hi
  rw [cells73] at h1
  cases hq : xs[i]? with
  | none => rw [hq] at hxi; cases hxi
  | some y =>
    rw [hq] at h1 hxi
    obtain ⟨y0, y1, y2, y3, k, hy, hlen, g0, g1, g2, g3⟩ := trod_struct4 Tryd.underlying73 h1
    have hyd : y.1 = formD i := by simpa using hxi
    rw [hy] at hyd
    simp only [formD, DataW.agg.injEq, List.cons.injEq, and_true] at hyd
    obtain ⟨d0, d1, d2, d3⟩ := hyd
    have cell : ∀ j v, j < 4 → ((((cs.toList.drop (i * 4)).take 4).drop j).take 1) = [v] → W.cell? ⟨0, i * 4 + j, none⟩ = some v := fun j v hj e => by
      rw [World.var?_cell Tryd.gForms hv (i * 4 + j)]
      have := congrArg (·[0]?) e
      simpa [List.getElem?_take, List.getElem?_drop, hj] using this
    simp only [cells9, cellsB4] at g0 g1 g2 g3
    obtain ⟨b0, e0, r0, _⟩ := DataW.trod_string Tryd.underlying9 g0
    obtain ⟨b1, e1, r1⟩ := DataW.trod_bool Tryd.underlying4 g1
    obtain ⟨b2, e2, r2⟩ := DataW.trod_bool Tryd.underlying4 g2
    obtain ⟨b3, e3, r3⟩ := DataW.trod_bool Tryd.underlying4 g3
    rw [r0] at d0
    rw [r1] at d1
    rw [r2] at d2
    rw [r3] at d3
    simp only [DataW.lit.injEq, Lit.string.injEq, Lit.bool.injEq] at d0 d1 d2 d3
    have eb : b0 = ⟨(wordL i).toArray⟩ := ba_ext (by simpa using d0)
    refine ⟨?_, ?_, ?_, ?_⟩
    · rw [← eb]; exact cell 0 _ (by omega) e0
    · rw [← d1]; exact cell 1 _ (by omega) e1
    · rw [← d2]; exact cell 2 _ (by omega) e2
    · rw [← d3]; exact cell 3 _ (by omega) e3

theorem vars_of_laid {W : World} (h : laidMetH Tryd.prog laidL W) : Vars W := by
  rw [MakeChecks.laidMetH_plain _ _ _ (by kernel_rfl)] at h
  have h2 := h.tail.tail
  have h3 := h2.tail
  have h4 := h3.tail
  have h5 := h4.tail
  have htab := Lib.tabIs_of_head (k := .u64) (zs := Lib.pow10Tab) Tryd.gPow t2 Tryd.underlying124 Tryd.underlying37 (by kernel_rfl) (by kernel_rfl) h2
  have err : ∀ {n : String} {nm : String} {d : DataW Unit} {r : List (String × DataW Unit)} {g : Nat}, laidMet Tryd.prog ((n, .iface nm d) :: r) W → Tryd.prog.globalNamed n = some g → (Tryd.prog.globals[g]?).map (·.type) = some 84 → ∃ te pe, W.cell? ⟨g, 0, none⟩ = some (.iface te pe) := fun {n nm d r g} hh hg ht => by
    obtain ⟨ps, ⟨g', t', cs, fuel, p, q, hg', ht', hv, hd, _, _⟩, _⟩ := hh
    obtain rfl := Option.some.inj (hg.symm.trans hg')
    obtain rfl := Option.some.inj (ht.symm.trans ht')
    obtain ⟨_, u, v, hcs, _, _⟩ := iface_of_trod Tryd.underlying84 hd
    refine ⟨u, v, ?_⟩
    have := World.var?_cell hg hv 0
    rw [this]
    obtain ⟨l⟩ := cs
    simp at hcs
    subst hcs
    rfl
  obtain ⟨te, pe, hran⟩ := err h3 Tryd.gRan t4
  have hsyn := err h4 Tryd.gSyn t3
  have hlt4 : 4 < W.heap.size := World.block_lt_of_cell? W ⟨4, 0, none⟩ hran
  refine ⟨?_, htab, hsyn, ⟨te, pe, hran⟩, hlt4⟩
  obtain ⟨ps, ⟨g', t', cs, fuel, p, q, hg', ht', hv, hd, _, _⟩, _⟩ := h5
  obtain rfl := Option.some.inj (Tryd.gForms.symm.trans hg')
  obtain rfl := Option.some.inj (t0.symm.trans ht')
  exact forms_of hv hd (by omega)

theorem cell_plain {W : World} {a : Addr} {v : Value} (h : W.cell? a = some v) : ∃ b off, a = ⟨b, off, none⟩ := by
  obtain ⟨b, off, spot⟩ := a
  have hs : spot = none := by simpa using World.cell?_spot h
  subst hs
  exact ⟨b, off, rfl⟩
theorem add_plain (b o j : Nat) : (⟨b, o, none⟩ : Addr).add j = ⟨b, o + j, none⟩ := by unfold Addr.add; split <;> simp_all
theorem i64_of {a : Int} (w : (Lit.int .i64 a).wf = true) : -9223372036854775808 ≤ a ∧ a ≤ 9223372036854775807 := by
  have := bounds_i64 w
  exact ⟨this.1, this.2⟩
theorem sized_text {H : Type} {ts : List TypeId} {ds : List (DataW H)} (h : (DataW.weightsEach Tryd.prog ts ds).all (· ≤ reachBytes) = true) {j : Nat} {t : TypeId} {s : ByteArray} (ht : ts[j]? = some t) (hd : ds[j]? = some (.lit (.string s.data.toList))) : s.size ≤ 140737488351232 := by
  have := sized_string h ht hd
  simpa [reachBytes] using this

set_option maxRecDepth 100000 in
theorem open_ins {H : Type} {enc : TypeId × Value → H} {W : World} {v : Value} {d : DataW H} {p : List MemPlace} {len cap : Nat} {ao : Option Addr} (hv : v = .slice ao len cap)
    (h : DataW.Trod enc Tryd.prog W 0 (fun _ => true) true 22 v d p) :
    ∃ es : List Ins, es.length = len ∧ (∀ r ∈ es, InsOk r) ∧ InsAt es ao W ∧ es.length ≤ 9223372036854775807 := by
  subst hv
  obtain ⟨fuel, hf⟩ := h
  rcases open_slice Tryd.underlying22 hf with ⟨hcs, _⟩ | ⟨a, l, c, m, n, D, Pl, hcs, _, hl, hcm, hmm, hx, hel⟩
  · simp [Value.cells] at hcs
    obtain ⟨_, rfl, _⟩ := hcs
    exact ⟨[], rfl, by simp, InsAt.nil _ _, by simp⟩
  · simp [Value.cells] at hcs
    obtain ⟨rfl, rfl, rfl⟩ := hcs
    have hlm2 : len ≤ 9223372036854775807 := by unfold maxLen at hcm; omega
    have hlm : len ≤ m := by rw [hmm]; simpa using hl
    have each : ∀ i, i < len → ∃ q : Ins, InsOk q ∧ W.cell? (a.add (i * 4)) = some (.int .i64 q.op) ∧ W.cell? (a.add (i * 4 + 1)) = some (.int .i64 q.x) ∧ W.cell? (a.add (i * 4 + 2)) = some (.int .i64 q.y) ∧ W.cell? (a.add (i * 4 + 3)) = some (.int .i64 q.z) := by
      intro i hi
      obtain ⟨cs', h1, h2⟩ := hel i (by omega)
      rw [cells39] at h1
      obtain ⟨_, hlen', hcell⟩ := World.cells?_some h1
      obtain ⟨y0, y1, y2, y3, k, hy, _, g0, g1, g2, g3⟩ := trod_struct4 Tryd.underlying39 h2
      match cs', hlen' with
      | [v0, v1, v2, v3], _ =>
        simp [cellsI3] at g0 g1 g2 g3
        obtain ⟨x0, e0, rfl, w0⟩ := DataW.trod_int Tryd.underlying3 g0
        obtain ⟨x1, e1, rfl, w1⟩ := DataW.trod_int Tryd.underlying3 g1
        obtain ⟨x2, e2, rfl, w2⟩ := DataW.trod_int Tryd.underlying3 g2
        obtain ⟨x3, e3, rfl, w3⟩ := DataW.trod_int Tryd.underlying3 g3
        simp at e0 e1 e2 e3
        subst e0 e1 e2 e3
        have q0 := hcell 0 (by omega)
        have q1 := hcell 1 (by omega)
        have q2 := hcell 2 (by omega)
        have q3 := hcell 3 (by omega)
        rw [add_add] at q0 q1 q2 q3
        exact ⟨⟨x0, x1, x2, x3⟩, ⟨i64_of w0, i64_of w1, i64_of w2, i64_of w3⟩, by simpa using q0, by simpa using q1, by simpa using q2, by simpa using q3⟩
    obtain ⟨q, hq⟩ := choose_lt each
    refine ⟨(List.range len).map q, by simp, ?_, fun i r hr => ?_, by simpa using hlm2⟩
    · intro r hr
      obtain ⟨i, hi, rfl⟩ := List.mem_map.1 hr
      exact (hq i (List.mem_range.1 hi)).1
    · have hi : i < len := by
        have := (List.getElem?_eq_some_iff.1 hr).1
        simpa using this
      obtain rfl : r = q i := by
        rw [List.getElem?_map, List.getElem?_range hi] at hr
        exact (Option.some.inj hr).symm
      obtain ⟨_, c0, c1, c2, c3⟩ := hq i hi
      have hc' : W.cell? a = some (.int .i64 (q 0).op) := by simpa [Addr.add] using (hq 0 (by omega)).2.1
      obtain ⟨b, off, rfl⟩ := cell_plain hc'
      rw [add_plain] at c0 c1 c2 c3
      rw [← Nat.add_assoc] at c1 c2 c3
      exact ⟨b, off, rfl, World.block_lt_of_cell? W _ hc', c0, c1, c2, c3⟩
end Go.Proofs.YtggehnnbgeffpaaDoor
