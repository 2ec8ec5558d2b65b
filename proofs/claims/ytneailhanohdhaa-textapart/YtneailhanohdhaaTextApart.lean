/- For every text and every two edits the law TextApart returns true: two edits that do not touch do the same in either order, the second one moved by the first. Its conditions: none but the form's own reach (each string of at most 140737488351232 bytes). -/
import Derived.Test.YtneailhanohdhaaOpen
import Derived.Test.YtneailhanohdhaaApartWalk
namespace Go.Proofs.Ytneailhanohdhaa.textApart
open Go.ChangeShapes Go.WideShapes Go.ChangeAt Go.RowKit Go.Joins
open Go.ChangeMaps (open_string shut_string)

theorem two_ok {e1 e2 : Ed} (h1 : e1.Ok) (h2 : e2.Ok) : ∀ e ∈ [e1, e2], e.Ok := by
  intro e he
  simp at he
  rcases he with rfl | rfl
  · exact h1
  · exact h2

theorem walk (s ta tb : ByteArray) (a o b q : Int) (w : World) (hs : s.size ≤ 140737488351232) (hta : ta.size ≤ 140737488351232) (htb : tb.size ≤ 140737488351232) (ha : I64 a) (ho : I64 o) (hb : I64 b) (hq : I64 q) :
    Calls Try.prog 8 #[.string s, .agg #[.int .i64 a, .int .i64 o, .string ta], .agg #[.int .i64 b, .int .i64 q, .string tb]] w fun e w' => e = .returned (.bool true) ∧ Below w.heap.size w w' := by
  by_cases hf : fitN s.size a o ta.size = 0
  · have za := fit_zero hf
    by_cases hg : fitN s.size b q tb.size = 0
    · have zb := fit_zero hg
      by_cases hlt : b < a + o
      · exact apart_walk_no s ta tb a o b q _ _ w (fun w => rfit_any s ta a o w hs hta ha ho) (fun w => rfit_any s tb b q w hs htb hb hq) (.inr (.inr ⟨by rw [hf]; rfl, by rw [hg]; rfl, za.1, za.2.1, by omega, hlt⟩))
      · have hmap : mapN a o ta.size b = (b - o + ta.size, true) := by
          unfold mapN; rw [if_neg (by omega), if_neg (by omega), if_neg (by omega), IntWalk.wrap64_in _ (by omega)]
        have hk : I64 (b - o + ta.size) := ⟨by omega, by omega⟩
        have c1 := fun w => rfit_any s ta a o w hs hta ha ho
        have c2 := fun w => rfit_any s tb b q w hs htb hb hq
        have c3 := fun w => map_any ta a o b w hta ha ho hb
        rw [hf] at c1
        rw [hg] at c2
        rw [hmap] at c3
        refine apart_walk_yes s ta tb a o b q (b - o + ta.size) _ _ _ _ w za.1 za.2.1 (by omega) hlt c1 c2 c3
          (fun w B hc => all_any s [⟨a, o, ta⟩, ⟨b - o + ta.size, q, tb⟩] B 0 2 w hs (two_ok ⟨ha, ho, hta⟩ ⟨hk, hq, htb⟩) hc (by simp))
          (fun w B hc => all_any s [⟨b, q, tb⟩, ⟨a, o, ta⟩] B 0 2 w hs (two_ok ⟨hb, hq, htb⟩ ⟨ha, ho, hta⟩) hc (by simp)) ?_
        intro e1 e2
        rw [allN_two] at e1 e2
        rw [allN_two, allN_two]
        simp only [hf, hg, if_true] at e1 e2 ⊢
        by_cases h1 : fitN (appB s ta a o).size (b - o + ta.size) q tb.size = 0
        · by_cases h2 : fitN (appB s tb b q).size a o ta.size = 0
          · rw [if_pos h1, if_pos h2]
            exact apart_eq hf hg (by omega) h1 h2
          · rw [if_neg h2] at e2
            exact absurd e2 h2
        · rw [if_neg h1] at e1
          exact absurd e1 h1
    · exact apart_walk_no s ta tb a o b q _ _ w (fun w => rfit_any s ta a o w hs hta ha ho) (fun w => rfit_any s tb b q w hs htb hb hq) (.inr (.inl ⟨by rw [hf]; rfl, by simpa using hg⟩))
  · exact apart_walk_no s ta tb a o b q _ _ w (fun w => rfit_any s ta a o w hs hta ha ho) (fun w => rfit_any s tb b q w hs htb hb hq) (.inl (by simpa using hf))

set_option maxRecDepth 100000 in
theorem lifted (os : Os) (started : os.Started) (H : Type) (enc : TypeId × Value → H) :
    ReturnsInHanded {} Try.checked os 8 .any (Rows.textApartSpec.pre6 enc Try.prog Try.f8 Rows.textApartRow.domain false) (Rows.textApartSpec.post enc Try.prog Try.f8 false true false false) := by
  refine returnsInHanded_of_change_sized (C := Try.checked) own started (by kernel_rfl) Try.func8
    (ChangeSpec.witness6 (enc := enc) (C := Try.checked) false ⟨#[], #[.string ByteArray.empty, .agg #[.int .i64 0, .int .i64 0, .string ByteArray.empty], .agg #[.int .i64 0, .int .i64 0, .string ByteArray.empty]], []⟩ 8 (by kernel_rfl) (by kernel_rfl) (by kernel_rfl) (by kernel_rfl)) ?_
  intro W base args ds gs before hval0 hW _ hsz0 _
  have hval : ∀ (j : Nat) t v, Try.f8.params[j]? = some t → args[j]? = some v → Value.okWide Try.prog W .any base t v := hval0
  have hsz : (DataW.weightsEach Try.prog (Try.f8.params.toList ++ Rows.textApartSpec.plain.varTypes Try.prog) (ds ++ gs)).all (· ≤ reachBytes) = true := hsz0
  have hW' := hW
  obtain ⟨p, q, hA0, hV, rfl, hfz, hnd⟩ := hW
  have hA : DataW.TrodAll enc Try.prog W 0 (fun _ => true) true Try.f8.params.toList args.toList ds p := hA0
  rw [Try.params8] at hA hval hsz
  obtain ⟨v0, v1, v2, d0, d1, d2, p0, p1, p2, rfl, rfl, rfl, h0, h1, h2⟩ := trodAll_three hA
  obtain ⟨rfl, rfl⟩ := trodVars_none hV
  obtain ⟨s, rfl, rfl, rfl, hs0⟩ := open_string Try.underlying9 (hval 0 9 v0 rfl rfl) h0
  obtain ⟨c0, c1, c2, y0, y1, y2, m, rfl, rfl, rfl, hy0, hy1, hy2⟩ := open_agg3 Try.underlying36 (by kernel_rfl) cells36 (hval 1 36 v1 rfl rfl) h1
  obtain ⟨a, e0, rfl, wa⟩ := DataW.trod_int Try.underlying3 hy0
  obtain ⟨o, e1, rfl, wo⟩ := DataW.trod_int Try.underlying3 hy1
  obtain ⟨ta, e2, rfl, ht0⟩ := DataW.trod_string Try.underlying9 hy2
  simp at e0 e1 e2
  subst e0 e1 e2
  obtain ⟨c0, c1, c2, z0, z1, z2, m', rfl, rfl, rfl, hz0, hz1, hz2⟩ := open_agg3 Try.underlying36 (by kernel_rfl) cells36 (hval 2 36 v2 rfl rfl) h2
  obtain ⟨b, e0, rfl, wb⟩ := DataW.trod_int Try.underlying3 hz0
  obtain ⟨k, e1, rfl, wk⟩ := DataW.trod_int Try.underlying3 hz1
  obtain ⟨tb, e2, rfl, hu0⟩ := DataW.trod_string Try.underlying9 hz2
  simp at e0 e1 e2
  subst e0 e1 e2
  clear hA0 hval0 hsz0
  have hs := sized_text hsz (j := 0) (t := 9) rfl rfl
  have hta := sized_edit hsz (j := 1) rfl rfl
  have htb := sized_edit hsz (j := 2) rfl rfl
  simp only [List.append_nil] at hW'
  refine (walk s ta tb a o b k W hs hta htb (i64_of wa) (i64_of wo) (i64_of wb) (i64_of wk)).mono fun e W' ⟨he, bel⟩ => ?_
  subst he
  exact ⟨_, rfl, _, _, _, [], [], [], hW', trodAll_mk1 (shut_bool Try.underlying4 _), trodAll_mk3 (shut_string Try.underlying9 hs0) (edit_reads W' _ wa wo ht0) (edit_reads W' _ wb wk hu0), rfl, bel.frame _, fun h => by cases h⟩

theorem over : Rows.textApartRow.holds Try.pinned (OpenSpec.ofChange Rows.textApartSpec) :=
  OpenClaim.holds_of_wide 8 Try.f8 rfl rfl rfl rfl rfl rfl rfl ⟨rfl, rfl, rfl, rfl, rfl⟩ rfl rfl rfl rfl rfl (by kernel_rfl) Try.func8 (by kernel_rfl)
    (of_decide_eq_true (by kernel_rfl)) (by unfold Func.isWrapper; first | (rw [if_pos (by decide +kernel)]; kernel_rfl) | (rw [if_neg (by decide +kernel)]; exact ⟨rfl, rfl⟩))
    (fun os started H enc _ => lifted os started H enc)
end Go.Proofs.Ytneailhanohdhaa.textApart
namespace Go.Proofs.Ytneailhanohdhaa
theorem textApart_holds : Rows.TextApartSaid := textApart.over
#print axioms textApart_holds
end Go.Proofs.Ytneailhanohdhaa
