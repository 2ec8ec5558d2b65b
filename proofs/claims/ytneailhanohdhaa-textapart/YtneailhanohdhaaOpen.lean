/- What the laws' rows share: an edit and a point as data; the sizes that the reach gives. -/
import Derived.Test.YtneailhanohdhaaRows
import Derived.Test.YtneailhanohdhaaBoxes
import Derived.ProofKit
import Derived.OpenShut
import Derived.SizedLaws
import Derived.Lib.SmallJoins
namespace Go.Proofs.Ytneailhanohdhaa
open Go.ChangeShapes Go.WideShapes Go.ChangeAt Go.RowKit Go.Joins
open Go.ChangeMaps (open_string shut_string)

theorem own : ownKnob Try.prog.godebug = none := by kernel_rfl
theorem cells36 : Try.prog.cellsOf 36 = 3 := by kernel_rfl
theorem cells23 : Try.prog.cellsOf 23 = 2 := by kernel_rfl

theorem i64_of {a : Int} (w : (Lit.int .i64 a).wf = true) : I64 a := by
  have := bounds_i64 w
  exact ⟨this.1, this.2⟩

theorem edit_reads {H : Type} {enc : TypeId × Value → H} (W : World) (sp : Nat → Bool) {a o : Int} {t : ByteArray} (wa : (Lit.int .i64 a).wf = true) (wo : (Lit.int .i64 o).wf = true) (ht : t.size ≤ maxLen) :
    DataW.Trod enc Try.prog W 0 sp true 36 (.agg #[.int .i64 a, .int .i64 o, .string t]) (.agg [.lit (.int .i64 a), .lit (.int .i64 o), .lit (.string t.data.toList)]) [] :=
  shut_agg3 (y0 := (.lit (.int .i64 a), [])) (y1 := (.lit (.int .i64 o), [])) (y2 := (.lit (.string t.data.toList), [])) Try.underlying36 (by kernel_rfl) cells36
    ⟨1, by simp [DataW.trod, Try.underlying3, wa]⟩ ⟨1, by simp [DataW.trod, Try.underlying3, wo]⟩ ⟨1, by simp [DataW.trod, Try.underlying9, ht]⟩

theorem point_reads {H : Type} {enc : TypeId × Value → H} (W : World) (sp : Nat → Bool) {a o : Int} (wa : (Lit.int .i64 a).wf = true) (wo : (Lit.int .i64 o).wf = true) :
    DataW.Trod enc Try.prog W 0 sp true 23 (.agg #[.int .i64 a, .int .i64 o]) (.agg [.lit (.int .i64 a), .lit (.int .i64 o)]) [] :=
  shut_agg2 (y0 := (.lit (.int .i64 a), [])) (y1 := (.lit (.int .i64 o), [])) Try.underlying23 (by kernel_rfl) cells23
    ⟨1, by simp [DataW.trod, Try.underlying3, wa]⟩ ⟨1, by simp [DataW.trod, Try.underlying3, wo]⟩

/-- The text of an edit among the arguments is of at most so many bytes. -/
theorem sized_edit {H : Type} {ts : List TypeId} {ds : List (DataW H)} (h : (DataW.weightsEach Try.prog ts ds).all (· ≤ reachBytes) = true) {j : Nat} {x y : DataW H} {t : ByteArray} (ht : ts[j]? = some 36) (hd : ds[j]? = some (.agg [x, y, .lit (.string t.data.toList)])) : t.size ≤ 140737488351232 := by
  have := List.all_eq_true.1 h _ (DataW.weights_mem_each ht hd t.data.toList.length (by simp [DataW.weights, Try.underlying36, DataW.weightsEach]))
  have h2 : t.data.toList.length ≤ reachBytes := of_decide_eq_true this
  simpa [reachBytes] using h2
theorem sized_text {H : Type} {ts : List TypeId} {ds : List (DataW H)} (h : (DataW.weightsEach Try.prog ts ds).all (· ≤ reachBytes) = true) {j : Nat} {t : TypeId} {s : ByteArray} (ht : ts[j]? = some t) (hd : ds[j]? = some (.lit (.string s.data.toList))) : s.size ≤ 140737488351232 := by
  have := sized_string h ht hd
  simpa [reachBytes] using this
end Go.Proofs.Ytneailhanohdhaa
