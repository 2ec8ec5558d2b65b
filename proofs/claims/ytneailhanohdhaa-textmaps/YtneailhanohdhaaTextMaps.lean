/- For every text and every edit the law TextMaps returns true: a byte that is not taken out is, behind an edit, the byte it was, and such bytes stay in order. Its conditions: none but the form's own reach (each string of at most 140737488351232 bytes). -/
import Derived.Test.YtneailhanohdhaaOpen
import Derived.Test.YtneailhanohdhaaMapsWalk
namespace Go.Proofs.Ytneailhanohdhaa.textMaps
open Go.ChangeShapes Go.WideShapes Go.ChangeAt Go.RowKit Go.Joins
open Go.ChangeMaps (open_string shut_string)

theorem i64_nat {n : Nat} (h : n ≤ 140737488351232) : I64 (n : Nat) := ⟨by omega, by omega⟩

theorem walk (s t : ByteArray) (a o : Int) (w : World) (hs : s.size ≤ 140737488351232) (ht : t.size ≤ 140737488351232) (ha : I64 a) (ho : I64 o) :
    Calls Try.prog 7 #[.string s, .agg #[.int .i64 a, .int .i64 o, .string t]] w fun e w' => e = .returned (.bool true) ∧ Below w.heap.size w w' := by
  by_cases hf : fitN s.size a o t.size = 0
  · have hz := fit_zero hf
    refine maps_yes s t (appB s t a o) a o w hs ht hz.1 hz.2.1 (by omega) ?_ ?_
    · intro w
      have := apply_any s t a o w hs ht ha ho
      rwa [hf] at this
    · intro i hi
      have hc : ∀ w, Calls Try.prog 18 #[.agg #[.int .i64 a, .int .i64 o, .string t], .int .i64 i] w fun e w' => e = .returned (.tuple #[.int .i64 (mapN a o t.size i).1, .bool (mapN a o t.size i).2]) ∧ Below w.heap.size w w' := fun w => map_any t a o i w ht ha ho (i64_nat (by omega))
      by_cases h1 : (i : Int) < a
      · obtain ⟨k1, k2, k3⟩ := keep1 hf h1
        rw [k3] at hc
        have st := step1 (tl := t.size) hz.2.1 h1
        exact .inl ⟨i, k1, hi, st.1, byte_of hi k1 k2, st.2.1, st.2.2, hc⟩
      · by_cases h2 : (i : Int) - a < o
        · rw [keep2 hf h1 h2] at hc
          have st := step2 (tl := t.size) h1 h2
          exact .inr ⟨st.1, st.2, hc⟩
        · obtain ⟨k1, k2, k3⟩ := keep3 hf h1 h2 hi hs ht
          rw [k3] at hc
          have st := step3 (tl := t.size) hz.2.1 (by omega) h1 h2
          have e : ((i - o.toNat + t.size : Nat) : Int) = i - o + t.size := by omega
          exact .inl ⟨i - o.toNat + t.size, k1, hi, by rw [e]; exact st.1, byte_of hi k1 k2, by rw [e]; exact st.2.1, st.2.2, hc⟩
  · exact maps_no s t (appB s t a o) a o (fitN s.size a o t.size) w (fun w => apply_any s t a o w hs ht ha ho) (by simpa using hf)

set_option maxRecDepth 100000 in
theorem lifted (os : Os) (started : os.Started) (H : Type) (enc : TypeId × Value → H) :
    ReturnsInHanded {} Try.checked os 7 .any (Rows.textMapsSpec.pre6 enc Try.prog Try.f7 Rows.textMapsRow.domain false) (Rows.textMapsSpec.post enc Try.prog Try.f7 false true false false) := by
  refine returnsInHanded_of_change_sized (C := Try.checked) own started (by kernel_rfl) Try.func7
    (ChangeSpec.witness6 (enc := enc) (C := Try.checked) false ⟨#[], #[.string ByteArray.empty, .agg #[.int .i64 0, .int .i64 0, .string ByteArray.empty]], []⟩ 8 (by kernel_rfl) (by kernel_rfl) (by kernel_rfl) (by kernel_rfl)) ?_
  intro W base args ds gs before hval0 hW _ hsz0 _
  have hval : ∀ (j : Nat) t v, Try.f7.params[j]? = some t → args[j]? = some v → Value.okWide Try.prog W .any base t v := hval0
  have hsz : (DataW.weightsEach Try.prog (Try.f7.params.toList ++ Rows.textMapsSpec.plain.varTypes Try.prog) (ds ++ gs)).all (· ≤ reachBytes) = true := hsz0
  have hW' := hW
  obtain ⟨p, q, hA0, hV, rfl, hfz, hnd⟩ := hW
  have hA : DataW.TrodAll enc Try.prog W 0 (fun _ => true) true Try.f7.params.toList args.toList ds p := hA0
  rw [Try.params7] at hA hval hsz
  obtain ⟨v0, v1, d0, d1, p0, p1, rfl, rfl, rfl, h0, h1⟩ := trodAll_two hA
  obtain ⟨rfl, rfl⟩ := trodVars_none hV
  obtain ⟨s, rfl, rfl, rfl, hs0⟩ := open_string Try.underlying9 (hval 0 9 v0 rfl rfl) h0
  obtain ⟨c0, c1, c2, y0, y1, y2, m, rfl, rfl, rfl, hy0, hy1, hy2⟩ := open_agg3 Try.underlying36 (by kernel_rfl) cells36 (hval 1 36 v1 rfl rfl) h1
  obtain ⟨a, e0, rfl, wa⟩ := DataW.trod_int Try.underlying3 hy0
  obtain ⟨o, e1, rfl, wo⟩ := DataW.trod_int Try.underlying3 hy1
  obtain ⟨t, e2, rfl, ht0⟩ := DataW.trod_string Try.underlying9 hy2
  simp at e0 e1 e2
  subst e0 e1 e2
  clear hA0 hval0 hsz0
  have hs := sized_text hsz (j := 0) (t := 9) rfl rfl
  have ht := sized_edit hsz (j := 1) rfl rfl
  simp only [List.append_nil] at hW'
  refine (walk s t a o W hs ht (i64_of wa) (i64_of wo)).mono fun e W' ⟨he, bel⟩ => ?_
  subst he
  exact ⟨_, rfl, _, _, _, [], [], [], hW', trodAll_mk1 (shut_bool Try.underlying4 _), trodAll_mk2 (shut_string Try.underlying9 hs0) (edit_reads W' _ wa wo ht0), rfl, bel.frame _, fun h => by cases h⟩

theorem over : Rows.textMapsRow.holds Try.pinned (OpenSpec.ofChange Rows.textMapsSpec) :=
  OpenClaim.holds_of_wide 7 Try.f7 rfl rfl rfl rfl rfl rfl rfl ⟨rfl, rfl, rfl, rfl, rfl⟩ rfl rfl rfl rfl rfl (by kernel_rfl) Try.func7 (by kernel_rfl)
    (of_decide_eq_true (by kernel_rfl)) (by unfold Func.isWrapper; first | (rw [if_pos (by decide +kernel)]; kernel_rfl) | (rw [if_neg (by decide +kernel)]; exact ⟨rfl, rfl⟩))
    (fun os started H enc _ => lifted os started H enc)
end Go.Proofs.Ytneailhanohdhaa.textMaps
namespace Go.Proofs.Ytneailhanohdhaa
theorem textMaps_holds : Rows.TextMapsSaid := textMaps.over
#print axioms textMaps_holds
end Go.Proofs.Ytneailhanohdhaa
