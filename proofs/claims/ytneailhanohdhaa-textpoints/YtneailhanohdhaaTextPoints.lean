/- For every text, every number and every point the law TextPoints returns true: the point of a byte and the byte of a point are the document's, and lead back to one another. Its conditions: none but the form's own reach (each string of at most 140737488351232 bytes). -/
import Derived.Test.YtneailhanohdhaaOpen
import Derived.Test.YtneailhanohdhaaRefPoint
import Derived.Test.YtneailhanohdhaaOffset
import Derived.Test.YtneailhanohdhaaRefOffset
namespace Go.Proofs.Ytneailhanohdhaa.textPoints
open Go.ChangeShapes Go.WideShapes Go.ChangeAt Go.RowKit Go.Joins
open Go.ChangeMaps (open_string shut_string)

/-- What the calls of the law hand back, in every world. -/
structure Said3 (s : ByteArray) (x r c a b f g h : Int) : Prop where
  c9 : ∀ w, Calls Try.prog 9 #[.string s, .int .i64 x] w fun e w' => e = .returned (.tuple #[.agg #[.int .i64 a, .int .i64 b], .int .i64 f]) ∧ Below w.heap.size w w'
  c10 : ∀ w, Calls Try.prog 10 #[.string s, .int .i64 x] w fun e w' => e = .returned (.tuple #[.agg #[.int .i64 a, .int .i64 b], .int .i64 f]) ∧ Below w.heap.size w w'
  c11 : ∀ w, Calls Try.prog 11 #[.string s, .agg #[.int .i64 r, .int .i64 c]] w fun e w' => e = .returned (.tuple #[.int .i64 g, .int .i64 h]) ∧ Below w.heap.size w w'
  c12 : ∀ w, Calls Try.prog 12 #[.string s, .agg #[.int .i64 r, .int .i64 c]] w fun e w' => e = .returned (.tuple #[.int .i64 g, .int .i64 h]) ∧ Below w.heap.size w w'
  cb : h = 0 → ∀ w, Calls Try.prog 9 #[.string s, .int .i64 g] w fun e w' => e = .returned (.tuple #[.agg #[.int .i64 r, .int .i64 c], .int .i64 0]) ∧ Below w.heap.size w w'

set_option maxHeartbeats 1000000 in
theorem points_walk (s : ByteArray) (x r c a b f g h : Int) (w : World) (H : Said3 s x r c a b f g h) :
    Calls Try.prog 3 #[.string s, .int .i64 x, .agg #[.int .i64 r, .int .i64 c]] w fun e w' => e = .returned (.bool true) ∧ Below w.heap.size w w' := by
  have hcase : (h = 0 ∧ (h == 0) = true) ∨ (¬ h = 0 ∧ (h == 0) = false) := by
    by_cases e : h = 0
    · exact .inl ⟨e, by simpa using e⟩
    · exact .inr ⟨e, by simpa using e⟩
  go_enter Try.func3, Try.ntmps3
  go_wp2_with fail
  refine (H.c9 _).mono ?_
  rintro e w1 ⟨rfl, hb⟩
  have k1 : Has2 w.heap.size (.int .i64 r) (.int .i64 c) w1 := (Has2.new w _ _ _).next hb
  have B1 : Below w.heap.size w w1 := below_then ((Below.refl w.heap.size w).alloc (Nat.le_refl _) _) hb (by simp)
  clear hb
  obtain ⟨l1, a0, a1⟩ := id k1
  go_wp2_with fail
  refine (H.c10 _).mono ?_
  rintro e w2 ⟨rfl, hb⟩
  replace k1 := (k1.alloc _).next hb
  have k2 := (Has2.new w1 (.int .i64 a) (.int .i64 b) 23).next hb
  replace B1 := below_then (B1.alloc B1.size _) hb (by simp; omega)
  clear hb l1 a0 a1
  obtain ⟨l1, a0, a1⟩ := id k1
  go_wp2_with fail
  refine (H.c11 _).mono ?_
  rintro e w3 ⟨rfl, hb⟩
  replace k1 := (k1.alloc _).next hb
  replace k2 := (k2.alloc _).next hb
  have k3 := (Has2.new w2 (.int .i64 a) (.int .i64 b) 23).next hb
  replace B1 := below_then (B1.alloc B1.size _) hb (by simp; omega)
  clear hb l1 a0 a1
  obtain ⟨l1, a0, a1⟩ := id k1
  go_wp2_with fail
  refine (H.c12 _).mono ?_
  rintro e w4 ⟨rfl, hb⟩
  replace k1 := k1.next hb
  replace k2 := k2.next hb
  replace k3 := k3.next hb
  replace B1 := below_then B1 hb B1.size
  clear hb l1 a0 a1
  obtain ⟨l1, a0, a1⟩ := id k1
  obtain ⟨l2, b0, b1⟩ := id k2
  obtain ⟨l3, c0, c1⟩ := id k3
  rcases hcase with ⟨rfl, hh⟩ | ⟨hn, hh⟩
  · go_wp2_with fail
    refine (H.cb rfl _).mono ?_
    rintro e w5 ⟨rfl, hb⟩
    replace k1 := k1.next hb
    replace B1 := below_then B1 hb B1.size
    clear hb l1 a0 a1 l2 b0 b1 l3 c0 c1 k2 k3
    obtain ⟨l1, a0, a1⟩ := id k1
    go_wp2_with fail
    refine (awake_any _).mono ?_
    rintro e w6 ⟨rfl, hb⟩
    replace B1 := below_then (B1.alloc B1.size _) hb (by simp; omega)
    go_wp2
    go_ret
    exact ⟨rfl, B1⟩
  · go_wp2_with fail
    refine (awake_any _).mono ?_
    rintro e w6 ⟨rfl, hb⟩
    replace B1 := below_then B1 hb B1.size
    go_wp2
    go_ret
    exact ⟨rfl, B1⟩

theorem walk (s : ByteArray) (x r c : Int) (w : World) (hs : s.size ≤ 140737488351232) (hr : I64 r) (hc : I64 c) :
    Calls Try.prog 3 #[.string s, .int .i64 x, .agg #[.int .i64 r, .int .i64 c]] w fun e w' => e = .returned (.bool true) ∧ Below w.heap.size w w' := by
  refine points_walk s x r c _ _ _ _ _ w ⟨fun w => point_any s x w hs, fun w => rpoint_any s x w hs, fun w => off_any s r c w hs, fun w => roff_any s r c w hs hr hc, ?_⟩
  intro h w
  have := point_any s (offN s.data.toList r c).1 w hs
  rw [there_back s.data.toList r c h] at this
  exact this

set_option maxRecDepth 100000 in
theorem lifted (os : Os) (started : os.Started) (H : Type) (enc : TypeId × Value → H) :
    ReturnsInHanded {} Try.checked os 3 .any (Rows.textPointsSpec.pre6 enc Try.prog Try.f3 Rows.textPointsRow.domain false) (Rows.textPointsSpec.post enc Try.prog Try.f3 false true false false) := by
  refine returnsInHanded_of_change_sized (C := Try.checked) own started (by kernel_rfl) Try.func3
    (ChangeSpec.witness6 (enc := enc) (C := Try.checked) false ⟨#[], #[.string ByteArray.empty, .int .i64 0, .agg #[.int .i64 0, .int .i64 0]], []⟩ 8 (by kernel_rfl) (by kernel_rfl) (by kernel_rfl) (by kernel_rfl)) ?_
  intro W base args ds gs before hval0 hW _ hsz0 _
  have hval : ∀ (j : Nat) t v, Try.f3.params[j]? = some t → args[j]? = some v → Value.okWide Try.prog W .any base t v := hval0
  have hsz : (DataW.weightsEach Try.prog (Try.f3.params.toList ++ Rows.textPointsSpec.plain.varTypes Try.prog) (ds ++ gs)).all (· ≤ reachBytes) = true := hsz0
  have hW' := hW
  obtain ⟨p, q, hA0, hV, rfl, hfz, hnd⟩ := hW
  have hA : DataW.TrodAll enc Try.prog W 0 (fun _ => true) true Try.f3.params.toList args.toList ds p := hA0
  rw [Try.params3] at hA hval hsz
  obtain ⟨v0, v1, v2, d0, d1, d2, p0, p1, p2, rfl, rfl, rfl, h0, h1, h2⟩ := trodAll_three hA
  obtain ⟨rfl, rfl⟩ := trodVars_none hV
  obtain ⟨s, rfl, rfl, rfl, hs0⟩ := open_string Try.underlying9 (hval 0 9 v0 rfl rfl) h0
  obtain ⟨x, rfl, rfl, rfl, wx⟩ := open_int Try.underlying3 (hval 1 3 v1 rfl rfl) h1
  obtain ⟨c0, c1, y0, y1, m, rfl, rfl, rfl, hy0, hy1⟩ := open_agg2 Try.underlying23 (by kernel_rfl) cells23 (hval 2 23 v2 rfl rfl) h2
  obtain ⟨r, e0, rfl, wr⟩ := DataW.trod_int Try.underlying3 hy0
  obtain ⟨c, e1, rfl, wc⟩ := DataW.trod_int Try.underlying3 hy1
  simp at e0 e1
  subst e0 e1
  clear hA0 hval0 hsz0
  have hs := sized_text hsz (j := 0) (t := 9) rfl rfl
  simp only [List.append_nil] at hW'
  refine (walk s x r c W hs (i64_of wr) (i64_of wc)).mono fun e W' ⟨he, bel⟩ => ?_
  subst he
  exact ⟨_, rfl, _, _, _, [], [], [], hW', trodAll_mk1 (shut_bool Try.underlying4 _), trodAll_mk3 (shut_string Try.underlying9 hs0) (shut_int Try.underlying3 wx) (point_reads W' _ wr wc), rfl, bel.frame _, fun h => by cases h⟩

theorem over : Rows.textPointsRow.holds Try.pinned (OpenSpec.ofChange Rows.textPointsSpec) :=
  OpenClaim.holds_of_wide 3 Try.f3 rfl rfl rfl rfl rfl rfl rfl ⟨rfl, rfl, rfl, rfl, rfl⟩ rfl rfl rfl rfl rfl (by kernel_rfl) Try.func3 (by kernel_rfl)
    (of_decide_eq_true (by kernel_rfl)) (by unfold Func.isWrapper; first | (rw [if_pos (by decide +kernel)]; kernel_rfl) | (rw [if_neg (by decide +kernel)]; exact ⟨rfl, rfl⟩))
    (fun os started H enc _ => lifted os started H enc)
end Go.Proofs.Ytneailhanohdhaa.textPoints
namespace Go.Proofs.Ytneailhanohdhaa
theorem textPoints_holds : Rows.TextPointsSaid := textPoints.over
#print axioms textPoints_holds
end Go.Proofs.Ytneailhanohdhaa
