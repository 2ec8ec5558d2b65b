/- For every three stacks the law GssMerges returns true: what is merged does not hang on the order, nor on what is merged twice, and it is fit; each argument reads as before. Its conditions: none but the form's own reach. -/
import Derived.Test.YtjpbfckdiojghaaOpenG
import Derived.Test.YtjpbfckdiojghaaLMerges
namespace Go.Proofs.Ytjpbfckdiojghaa.gssMerges
open Go.ChangeShapes Go.WideShapes Go.ChangeAt Go.RowKit Go.Joins Go.Deep

set_option maxRecDepth 100000 in
theorem lifted (os : Os) (started : os.Started) (H : Type) (enc : TypeId × Value → H) :
    ReturnsInHanded {} Try.checked os 4 .any (Rows.gssMergesSpec.pre6 enc Try.prog Try.f4 Rows.gssMergesRow.domain false) (Rows.gssMergesSpec.post enc Try.prog Try.f4 false true false false) := by
  refine returnsInHanded_of_change_sized (C := Try.checked) own started (by kernel_rfl) Try.func4
    (ChangeSpec.witness6 (enc := enc) (C := Try.checked) false ⟨#[], #[.agg #[.slice none 0 0], .agg #[.slice none 0 0], .agg #[.slice none 0 0]], []⟩ 8 (by kernel_rfl) (by kernel_rfl) (by kernel_rfl) (by kernel_rfl)) ?_
  intro W base args ds gs before hval0 hW _ hsz0 _
  have hval : ∀ (j : Nat) t v, Try.f4.params[j]? = some t → args[j]? = some v → Value.okWide Try.prog W .any base t v := hval0
  have hW' := hW
  obtain ⟨p, q, hA0, hV, rfl, hfz, hnd⟩ := hW
  have hA : DataW.TrodAll enc Try.prog W 0 (fun _ => true) true Try.f4.params.toList args.toList ds p := hA0
  rw [Try.params4] at hA hval
  obtain ⟨v0, v1, v2, d0, d1, d2, p0, p1, p2, rfl, rfl, rfl, h0, h1, h2⟩ := trodAll_three hA
  obtain ⟨rfl, rfl⟩ := trodVars_none hV
  have h' : (DataW.weightsEach Try.prog (Try.f4.params.toList ++ Rows.gssMergesSpec.plain.varTypes Try.prog) ([d0, d1, d2] ++ [])).all (· ≤ reachBytes) = true := hsz0
  rw [Try.params4] at h'
  have hsz : ∀ d ∈ [d0, d1, d2], ∀ n ∈ d.weights Try.prog 24, n ≤ reachBytes := fun d hd n hn => by
    have := List.all_eq_true.1 h' n (by
      simp at hd
      rcases hd with rfl | rfl | rfl <;> simp [DataW.weightsEach, hn])
    simpa using this
  obtain ⟨l0, u0, rfl, hl0⟩ := open_gss (hval 0 24 v0 rfl rfl) h0 (hsz d0 (by simp))
  obtain ⟨l1, u1, rfl, hl1⟩ := open_gss (hval 1 24 v1 rfl rfl) h1 (hsz d1 (by simp))
  obtain ⟨l2, u2, rfl, hl2⟩ := open_gss (hval 2 24 v2 rfl rfl) h2 (hsz d2 (by simp))
  clear hA0 hval0
  have lt0 : ∀ x ∈ p0, x.block < W.heap.size := by obtain ⟨m, hm⟩ := h0; exact DataW.trod_lt m _ _ _ hm
  have lt1 : ∀ x ∈ p1, x.block < W.heap.size := by obtain ⟨m, hm⟩ := h1; exact DataW.trod_lt m _ _ _ hm
  have lt2 : ∀ x ∈ p2, x.block < W.heap.size := by obtain ⟨m, hm⟩ := h2; exact DataW.trod_lt m _ _ _ hm
  simp only [List.append_nil] at hW'
  refine (gmerges_any l0 l1 l2 u0 u1 u2 W hl0 hl1 hl2).mono fun e W' ⟨he, bel⟩ => ?_
  subst he
  exact ⟨_, rfl, _, _, _, _, _, [], hW', trodAll_mk1 (shut_bool Try.underlying4 _), trodAll_cons_mk (Below.trod laidOut (by kernel_rfl) (of_decide_eq_true (by kernel_rfl)) h0 bel lt0) (trodAll_cons_mk (Below.trod laidOut (by kernel_rfl) (of_decide_eq_true (by kernel_rfl)) h1 bel lt1) (trodAll_cons_mk (Below.trod laidOut (by kernel_rfl) (of_decide_eq_true (by kernel_rfl)) h2 bel lt2) trodAll_mk0)), rfl, bel.frame _, fun h => by cases h⟩

theorem over : Rows.gssMergesRow.holds Try.pinned (OpenSpec.ofChange Rows.gssMergesSpec) :=
  OpenClaim.holds_of_wide 4 Try.f4 rfl rfl rfl rfl rfl rfl rfl ⟨rfl, rfl, rfl, rfl, rfl⟩ rfl rfl rfl rfl rfl (by kernel_rfl) Try.func4 (by kernel_rfl)
    (of_decide_eq_true (by kernel_rfl)) (by unfold Func.isWrapper; first | (rw [if_pos (by decide +kernel)]; kernel_rfl) | (rw [if_neg (by decide +kernel)]; exact ⟨rfl, rfl⟩))
    (fun os started H enc _ => lifted os started H enc)
end Go.Proofs.Ytjpbfckdiojghaa.gssMerges
namespace Go.Proofs.Ytjpbfckdiojghaa
theorem gssMerges_holds : Rows.GssMergesSaid := gssMerges.over
#print axioms gssMerges_holds
end Go.Proofs.Ytjpbfckdiojghaa
