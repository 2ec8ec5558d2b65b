/- For every text, every edit and every number the law TextEdits returns true: Fit, Apply, Undo and Map of the program are the document's. Its conditions: none but the form's own reach (each string of at most 140737488351232 bytes). -/
import Derived.Test.YtneailhanohdhaaOpen
import Derived.Test.YtneailhanohdhaaEditsWalk
namespace Go.Proofs.Ytneailhanohdhaa.textEdits
open Go.ChangeShapes Go.WideShapes Go.ChangeAt Go.RowKit Go.Joins
open Go.ChangeMaps (open_string shut_string)

theorem walk (s t : ByteArray) (a o x : Int) (w : World) (hs : s.size ≤ 140737488351232) (ht : t.size ≤ 140737488351232) (ha : I64 a) (ho : I64 o) (hx : I64 x) :
    Calls Try.prog 4 #[.string s, .agg #[.int .i64 a, .int .i64 o, .string t], .int .i64 x] w fun e w' => e = .returned (.bool true) ∧ Below w.heap.size w w' := by
  obtain ⟨u0, u1, ub, hu⟩ := undo_form s t a o
  refine edits_walk s t a o x (fitN s.size a o t.size) (mapN a o t.size x).1 (appB s t a o) ub u0 u1 (mapN a o t.size x).2 w ⟨?_, ?_, ?_, ?_, ?_, ?_, ?_, ?_⟩
  · exact fun w => apply_any s t a o w hs ht ha ho
  · exact fun w => rapply_any s t a o w hs ht ha ho
  · rw [← hu]; exact fun w => undo_any s t a o w hs ht ha ho
  · rw [← hu]; exact fun w => rundo_any s t a o w hs ht ha ho
  · exact fun w => map_any t a o x w ht ha ho hx
  · exact fun w => rmap_any t a o x w ht ha ho hx
  · exact fun w => fit_any s t a o w hs ht ha ho
  · exact fun w => rfit_any s t a o w hs ht ha ho

set_option maxRecDepth 100000 in
theorem lifted (os : Os) (started : os.Started) (H : Type) (enc : TypeId × Value → H) :
    ReturnsInHanded {} Try.checked os 4 .any (Rows.textEditsSpec.pre6 enc Try.prog Try.f4 Rows.textEditsRow.domain false) (Rows.textEditsSpec.post enc Try.prog Try.f4 false true false false) := by
  refine returnsInHanded_of_change_sized (C := Try.checked) own started (by kernel_rfl) Try.func4
    (ChangeSpec.witness6 (enc := enc) (C := Try.checked) false ⟨#[], #[.string ByteArray.empty, .agg #[.int .i64 0, .int .i64 0, .string ByteArray.empty], .int .i64 0], []⟩ 8 (by kernel_rfl) (by kernel_rfl) (by kernel_rfl) (by kernel_rfl)) ?_
  intro W base args ds gs before hval0 hW _ hsz0 _
  have hval : ∀ (j : Nat) t v, Try.f4.params[j]? = some t → args[j]? = some v → Value.okWide Try.prog W .any base t v := hval0
  have hsz : (DataW.weightsEach Try.prog (Try.f4.params.toList ++ Rows.textEditsSpec.plain.varTypes Try.prog) (ds ++ gs)).all (· ≤ reachBytes) = true := hsz0
  have hW' := hW
  obtain ⟨p, q, hA0, hV, rfl, hfz, hnd⟩ := hW
  have hA : DataW.TrodAll enc Try.prog W 0 (fun _ => true) true Try.f4.params.toList args.toList ds p := hA0
  rw [Try.params4] at hA hval hsz
  obtain ⟨v0, v1, v2, d0, d1, d2, p0, p1, p2, rfl, rfl, rfl, h0, h1, h2⟩ := trodAll_three hA
  obtain ⟨rfl, rfl⟩ := trodVars_none hV
  obtain ⟨s, rfl, rfl, rfl, hs0⟩ := open_string Try.underlying9 (hval 0 9 v0 rfl rfl) h0
  obtain ⟨c0, c1, c2, y0, y1, y2, m, rfl, rfl, rfl, hy0, hy1, hy2⟩ := open_agg3 Try.underlying36 (by kernel_rfl) cells36 (hval 1 36 v1 rfl rfl) h1
  obtain ⟨a, e0, rfl, wa⟩ := DataW.trod_int Try.underlying3 hy0
  obtain ⟨o, e1, rfl, wo⟩ := DataW.trod_int Try.underlying3 hy1
  obtain ⟨t, e2, rfl, ht0⟩ := DataW.trod_string Try.underlying9 hy2
  obtain ⟨x, rfl, rfl, rfl, wx⟩ := open_int Try.underlying3 (hval 2 3 v2 rfl rfl) h2
  simp at e0 e1 e2
  subst e0 e1 e2
  clear hA0 hval0 hsz0
  have hs := sized_text hsz (j := 0) (t := 9) rfl rfl
  have ht := sized_edit hsz (j := 1) rfl rfl
  simp only [List.append_nil] at hW'
  refine (walk s t a o x W hs ht (i64_of wa) (i64_of wo) (i64_of wx)).mono fun e W' ⟨he, bel⟩ => ?_
  subst he
  exact ⟨_, rfl, _, _, _, [], [], [], hW', trodAll_mk1 (shut_bool Try.underlying4 _), trodAll_mk3 (shut_string Try.underlying9 hs0) (edit_reads W' _ wa wo ht0) (shut_int Try.underlying3 wx), rfl, bel.frame _, fun h => by cases h⟩

theorem over : Rows.textEditsRow.holds Try.pinned (OpenSpec.ofChange Rows.textEditsSpec) :=
  OpenClaim.holds_of_wide 4 Try.f4 rfl rfl rfl rfl rfl rfl rfl ⟨rfl, rfl, rfl, rfl, rfl⟩ rfl rfl rfl rfl rfl (by kernel_rfl) Try.func4 (by kernel_rfl)
    (of_decide_eq_true (by kernel_rfl)) (by unfold Func.isWrapper; first | (rw [if_pos (by decide +kernel)]; kernel_rfl) | (rw [if_neg (by decide +kernel)]; exact ⟨rfl, rfl⟩))
    (fun os started H enc _ => lifted os started H enc)
end Go.Proofs.Ytneailhanohdhaa.textEdits
namespace Go.Proofs.Ytneailhanohdhaa
theorem textEdits_holds : Rows.TextEditsSaid := textEdits.over
#print axioms textEdits_holds
end Go.Proofs.Ytneailhanohdhaa
