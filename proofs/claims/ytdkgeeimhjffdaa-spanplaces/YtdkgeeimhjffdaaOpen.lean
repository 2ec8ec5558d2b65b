/- What the laws' rows share: a slice of ranges, and a range, among the arguments, opened: what they hold as cells. -/
import Derived.Test.YtdkgeeimhjffdaaRows
import Derived.Test.YtdkgeeimhjffdaaAwake
import Derived.ProofKit
import Derived.OpenShut
import Derived.SizedLaws
import Derived.Lib.SmallJoins
import Derived.Deep.Slices
import Derived.Deep.Strs
namespace Go.Proofs.Ytdkgeeimhjffdaa
open Go.ChangeShapes Go.WideShapes Go.ChangeAt Go.RowKit Go.Joins Go.Deep
open Go.ChangeMaps (open_string shut_string)

theorem own : ownKnob Try.prog.godebug = none := by kernel_rfl
theorem cells29 : Try.prog.cellsOf 29 = 2 := by kernel_rfl
theorem laidOut : laidOutB Try.prog = true := by kernel_rfl

theorem cell_plain {W : World} {a : Addr} {v : Value} (h : W.cell? a = some v) : ∃ b off, a = ⟨b, off, none⟩ := by
  obtain ⟨b, off, spot⟩ := a
  have hs : spot = none := by simpa using World.cell?_spot h
  subst hs
  exact ⟨b, off, rfl⟩
theorem i64_of {a : Int} (w : (Lit.int .i64 a).wf = true) : -9223372036854775808 ≤ a ∧ a ≤ 9223372036854775807 := by
  have := bounds_i64 w
  exact ⟨this.1, this.2⟩

theorem range_reads {H : Type} {enc : TypeId × Value → H} (W : World) (sp : Nat → Bool) {a o : Int} (wa : (Lit.int .i64 a).wf = true) (wo : (Lit.int .i64 o).wf = true) :
    DataW.Trod enc Try.prog W 0 sp true 29 (.agg #[.int .i64 a, .int .i64 o]) (.agg [.lit (.int .i64 a), .lit (.int .i64 o)]) [] :=
  shut_agg2 (y0 := (.lit (.int .i64 a), [])) (y1 := (.lit (.int .i64 o), [])) Try.underlying29 (by kernel_rfl) cells29
    ⟨1, by simp [DataW.trod, Try.underlying3, wa]⟩ ⟨1, by simp [DataW.trod, Try.underlying3, wo]⟩

theorem sized_text {H : Type} {ts : List TypeId} {ds : List (DataW H)} (h : (DataW.weightsEach Try.prog ts ds).all (· ≤ reachBytes) = true) {j : Nat} {t : TypeId} {s : ByteArray} (ht : ts[j]? = some t) (hd : ds[j]? = some (.lit (.string s.data.toList))) : s.size ≤ 140737488351232 := by
  have := sized_string h ht hd
  simpa [reachBytes] using this

theorem open_ranges {H : Type} {enc : TypeId × Value → H} {W : World} {v : Value} {d : DataW H} {p : List MemPlace} {len cap : Nat} {ao : Option Addr} (hv : v = .slice ao len cap)
    (h : DataW.Trod enc Try.prog W 0 (fun _ => true) true 22 v d p) :
    ∃ es : List Rg, es.length = len ∧ (∀ r ∈ es, RgOk r) ∧ RgAt es ao W := by
  subst hv
  obtain ⟨fuel, hf⟩ := h
  rcases open_slice Try.underlying22 hf with ⟨hcs, _⟩ | ⟨a, l, c, m, n, D, Pl, hcs, _, hl, _, hmm, hx, hel⟩
  · simp [Value.cells] at hcs
    obtain ⟨_, rfl, _⟩ := hcs
    exact ⟨[], rfl, by simp, RgAt.nil _ _⟩
  · simp [Value.cells] at hcs
    obtain ⟨rfl, rfl, rfl⟩ := hcs
    have hlm : len ≤ m := by rw [hmm]; simpa using hl
    have each : ∀ i, i < len → ∃ q : Int × Int, RgOk q ∧ W.cell? (a.add (i * 2)) = some (.int .i64 q.1) ∧ W.cell? (a.add (i * 2 + 1)) = some (.int .i64 q.2) := by
      intro i hi
      obtain ⟨cs', h1, h2⟩ := hel i (by omega)
      rw [cells29] at h1
      obtain ⟨_, hlen', hcell⟩ := World.cells?_some h1
      obtain ⟨y0, y1, k, hy, _, g0, g1⟩ := trod_struct2 Try.underlying29 h2
      match cs', hlen' with
      | [v0, v1], _ =>
        have k3 : Try.prog.cellsOf 3 = 1 := by kernel_rfl
        simp [k3] at g0 g1
        obtain ⟨x0, e0, rfl, w0⟩ := DataW.trod_int Try.underlying3 g0
        obtain ⟨x1, e1, rfl, w1⟩ := DataW.trod_int Try.underlying3 g1
        simp at e0 e1
        subst e0 e1
        have q0 := hcell 0 (by omega)
        have q1 := hcell 1 (by omega)
        rw [add_add] at q0 q1
        exact ⟨(x0, x1), ⟨(i64_of w0).1, (i64_of w0).2, (i64_of w1).1, (i64_of w1).2⟩, by simpa using q0, by simpa using q1⟩
    obtain ⟨q, hq⟩ := choose_lt each
    refine ⟨(List.range len).map q, by simp, ?_, fun i r hr => ?_⟩
    · intro r hr
      obtain ⟨i, hi, rfl⟩ := List.mem_map.1 hr
      exact (hq i (List.mem_range.1 hi)).1
    · have hi : i < len := by
        have := (List.getElem?_eq_some_iff.1 hr).1
        simpa using this
      obtain rfl : r = q i := by
        rw [List.getElem?_map, List.getElem?_range hi] at hr
        exact (Option.some.inj hr).symm
      obtain ⟨_, c0, c1⟩ := hq i hi
      have hc' : W.cell? a = some (.int .i64 (q 0).1) := by simpa [Addr.add] using (hq 0 (by omega)).2.1
      obtain ⟨b, off, rfl⟩ := cell_plain hc'
      rw [add_plain] at c0 c1
      exact ⟨b, off, rfl, World.block_lt_of_cell? W _ hc', c0, c1⟩
end Go.Proofs.Ytdkgeeimhjffdaa
