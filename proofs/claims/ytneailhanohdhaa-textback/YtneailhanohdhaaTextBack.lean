/- For every two texts and every edit the law TextBack returns true: what an edit has done the edit that takes it back undoes, and the least edit between two texts makes one the other. Its conditions: none but the form's own reach (each string of at most 140737488351232 bytes). -/
import Derived.Test.YtneailhanohdhaaOpen
import Derived.Test.YtneailhanohdhaaBackWalk
namespace Go.Proofs.Ytneailhanohdhaa.textBack
open Go.ChangeShapes Go.WideShapes Go.ChangeAt Go.RowKit Go.Joins
open Go.ChangeMaps (open_string shut_string)

theorem i64_nat {n : Nat} (h : n ≤ 140737488351232) : I64 (n : Nat) := ⟨by omega, by omega⟩

theorem walk (s t b : ByteArray) (a o : Int) (w : World) (hs : s.size ≤ 140737488351232) (ht : t.size ≤ 140737488351232) (hb : b.size ≤ 140737488351232) (ha : I64 a) (ho : I64 o) :
    Calls Try.prog 6 #[.string s, .agg #[.int .i64 a, .int .i64 o, .string t], .string b] w fun e w' => e = .returned (.bool true) ∧ Below w.heap.size w w' := by
  by_cases hl : 65536 < s.size ∨ 65536 < b.size
  · exact back_long s t b a o w hl
  have hs2 : ¬ 65536 < s.size := by omega
  have hb2 : ¬ 65536 < b.size := by omega
  have h1 := dI_le s b
  have h2 := dK_le s b
  have hbe : (b.extract (dI s b) (b.size - dK s b)).size ≤ 140737488351232 := by simp; omega
  have c24 : ∀ w, Calls Try.prog 24 #[.string s, .string b] w fun e w' => e = .returned (.agg #[.int .i64 (dI s b : Nat), .int .i64 ((s.size - dI s b - dK s b : Nat) : Int), .string (b.extract (dI s b) (b.size - dK s b))]) ∧ Below w.heap.size w w' := fun w => diff_any s b w hs hb
  have cd : ∀ w, Calls Try.prog 14 #[.string s, .agg #[.int .i64 (dI s b : Nat), .int .i64 ((s.size - dI s b - dK s b : Nat) : Int), .string (b.extract (dI s b) (b.size - dK s b))]] w fun e w' => e = .returned (.tuple #[.string b, .int .i64 0]) ∧ Below w.heap.size w w' := fun w => by
    have := apply_any s (b.extract (dI s b) (b.size - dK s b)) (dI s b : Nat) ((s.size - dI s b - dK s b : Nat) : Int) w hs hbe (i64_nat (by omega)) (i64_nat (by omega))
    rw [diff_fit s b (by omega), diff_app s b (by omega)] at this
    exact this
  by_cases hf : fitN s.size a o t.size = 0
  · have hz := fit_zero hf
    have hsz := appB_size hf
    have hue : (s.extract a.toNat (a + o).toNat).size ≤ 140737488351232 := by simp; omega
    refine back_walk s t b a o (fitN s.size a o t.size) (appB s t a o) (s.extract a.toNat (a + o).toNat) a t.size _ _ _ w ⟨fun w => apply_any s t a o w hs ht ha ho, ?_, ?_, c24, cd⟩ hs2 hb2
    · intro w
      have := undo_any s t a o w hs ht ha ho
      unfold undoV at this
      rw [if_pos hf] at this
      exact this
    · intro _ w
      have := apply_any (appB s t a o) (s.extract a.toNat (a + o).toNat) a t.size w (by omega) hue ha (i64_nat ht)
      rw [back_fit hf (by omega), back_app hf (by omega)] at this
      exact this
  · refine back_walk s t b a o (fitN s.size a o t.size) (appB s t a o) ByteArray.empty 0 0 _ _ _ w ⟨fun w => apply_any s t a o w hs ht ha ho, ?_, fun e => absurd e hf, c24, cd⟩ hs2 hb2
    intro w
    have := undo_any s t a o w hs ht ha ho
    unfold undoV at this
    rw [if_neg hf] at this
    exact this

set_option maxRecDepth 100000 in
theorem lifted (os : Os) (started : os.Started) (H : Type) (enc : TypeId × Value → H) :
    ReturnsInHanded {} Try.checked os 6 .any (Rows.textBackSpec.pre6 enc Try.prog Try.f6 Rows.textBackRow.domain false) (Rows.textBackSpec.post enc Try.prog Try.f6 false true false false) := by
  refine returnsInHanded_of_change_sized (C := Try.checked) own started (by kernel_rfl) Try.func6
    (ChangeSpec.witness6 (enc := enc) (C := Try.checked) false ⟨#[], #[.string ByteArray.empty, .agg #[.int .i64 0, .int .i64 0, .string ByteArray.empty], .string ByteArray.empty], []⟩ 8 (by kernel_rfl) (by kernel_rfl) (by kernel_rfl) (by kernel_rfl)) ?_
  intro W base args ds gs before hval0 hW _ hsz0 _
  have hval : ∀ (j : Nat) t v, Try.f6.params[j]? = some t → args[j]? = some v → Value.okWide Try.prog W .any base t v := hval0
  have hsz : (DataW.weightsEach Try.prog (Try.f6.params.toList ++ Rows.textBackSpec.plain.varTypes Try.prog) (ds ++ gs)).all (· ≤ reachBytes) = true := hsz0
  have hW' := hW
  obtain ⟨p, q, hA0, hV, rfl, hfz, hnd⟩ := hW
  have hA : DataW.TrodAll enc Try.prog W 0 (fun _ => true) true Try.f6.params.toList args.toList ds p := hA0
  rw [Try.params6] at hA hval hsz
  obtain ⟨v0, v1, v2, d0, d1, d2, p0, p1, p2, rfl, rfl, rfl, h0, h1, h2⟩ := trodAll_three hA
  obtain ⟨rfl, rfl⟩ := trodVars_none hV
  obtain ⟨s, rfl, rfl, rfl, hs0⟩ := open_string Try.underlying9 (hval 0 9 v0 rfl rfl) h0
  obtain ⟨c0, c1, c2, y0, y1, y2, m, rfl, rfl, rfl, hy0, hy1, hy2⟩ := open_agg3 Try.underlying36 (by kernel_rfl) cells36 (hval 1 36 v1 rfl rfl) h1
  obtain ⟨a, e0, rfl, wa⟩ := DataW.trod_int Try.underlying3 hy0
  obtain ⟨o, e1, rfl, wo⟩ := DataW.trod_int Try.underlying3 hy1
  obtain ⟨t, e2, rfl, ht0⟩ := DataW.trod_string Try.underlying9 hy2
  obtain ⟨b, rfl, rfl, rfl, hb0⟩ := open_string Try.underlying9 (hval 2 9 v2 rfl rfl) h2
  simp at e0 e1 e2
  subst e0 e1 e2
  clear hA0 hval0 hsz0
  have hs := sized_text hsz (j := 0) (t := 9) rfl rfl
  have ht := sized_edit hsz (j := 1) rfl rfl
  have hb := sized_text hsz (j := 2) (t := 9) rfl rfl
  simp only [List.append_nil] at hW'
  refine (walk s t b a o W hs ht hb (i64_of wa) (i64_of wo)).mono fun e W' ⟨he, bel⟩ => ?_
  subst he
  exact ⟨_, rfl, _, _, _, [], [], [], hW', trodAll_mk1 (shut_bool Try.underlying4 _), trodAll_mk3 (shut_string Try.underlying9 hs0) (edit_reads W' _ wa wo ht0) (shut_string Try.underlying9 hb0), rfl, bel.frame _, fun h => by cases h⟩

theorem over : Rows.textBackRow.holds Try.pinned (OpenSpec.ofChange Rows.textBackSpec) :=
  OpenClaim.holds_of_wide 6 Try.f6 rfl rfl rfl rfl rfl rfl rfl ⟨rfl, rfl, rfl, rfl, rfl⟩ rfl rfl rfl rfl rfl (by kernel_rfl) Try.func6 (by kernel_rfl)
    (of_decide_eq_true (by kernel_rfl)) (by unfold Func.isWrapper; first | (rw [if_pos (by decide +kernel)]; kernel_rfl) | (rw [if_neg (by decide +kernel)]; exact ⟨rfl, rfl⟩))
    (fun os started H enc _ => lifted os started H enc)
end Go.Proofs.Ytneailhanohdhaa.textBack
namespace Go.Proofs.Ytneailhanohdhaa
theorem textBack_holds : Rows.TextBackSaid := textBack.over
#print axioms textBack_holds
end Go.Proofs.Ytneailhanohdhaa
