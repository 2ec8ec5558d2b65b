/- For every text, every row of edits and every two texts the law TextDiffs returns true: edits one after another, and the least edit between two texts, are the document's. Its conditions: none but the form's own reach (each string, and each slice, of at most 140737488351232 bytes). -/
import Derived.Test.YtneailhanohdhaaOpenEdits
namespace Go.Proofs.Ytneailhanohdhaa.textDiffs
open Go.ChangeShapes Go.WideShapes Go.ChangeAt Go.RowKit Go.Joins
open Go.ChangeMaps (open_string shut_string)

theorem laidOut : laidOutB Try.prog = true := by kernel_rfl

/-- What the calls of the law hand back, in every world in which nothing of what lay in w has turned. -/
structure Said5 (w : World) (s : ByteArray) (v : Value) (a b : ByteArray) (r : ByteArray) (f d0 d1 : Int) (db : ByteArray) : Prop where
  c22 : ∀ W, Below w.heap.size w W → Calls Try.prog 22 #[.string s, v] W fun e w' => e = .returned (.tuple #[.string r, .int .i64 f]) ∧ Below W.heap.size W w'
  c23 : ∀ W, Below w.heap.size w W → Calls Try.prog 23 #[.string s, v] W fun e w' => e = .returned (.tuple #[.string r, .int .i64 f]) ∧ Below W.heap.size W w'
  c24 : ∀ W, Calls Try.prog 24 #[.string a, .string b] W fun e w' => e = .returned (.agg #[.int .i64 d0, .int .i64 d1, .string db]) ∧ Below W.heap.size W w'
  c25 : ∀ W, Calls Try.prog 25 #[.string a, .string b] W fun e w' => e = .returned (.agg #[.int .i64 d0, .int .i64 d1, .string db]) ∧ Below W.heap.size W w'

set_option maxHeartbeats 1000000 in
theorem diffs_walk (w : World) (s : ByteArray) (ao : Option Addr) (n cap : Nat) (a b : ByteArray) (r : ByteArray) (f d0 d1 : Int) (db : ByteArray) (h : Said5 w s (.slice ao n cap) a b r f d0 d1 db) :
    Calls Try.prog 5 #[.string s, .slice ao n cap, .string a, .string b] w fun e w' => e = .returned (.bool true) ∧ Below w.heap.size w w' := by
  go_enter Try.func5, Try.ntmps5
  go_wp2_with fail
  refine (h.c22 _ (Below.refl _ _)).mono ?_
  rintro e w1 ⟨rfl, B1⟩
  go_wp2_with fail
  refine (h.c23 _ B1).mono ?_
  rintro e w2 ⟨rfl, hb⟩
  replace B1 := below_then B1 hb B1.size
  clear hb
  go_wp2_with fail
  refine (h.c24 _).mono ?_
  rintro e w3 ⟨rfl, hb⟩
  replace B1 := below_then B1 hb B1.size
  clear hb
  go_wp2_with fail
  refine (h.c25 _).mono ?_
  rintro e w4 ⟨rfl, hb⟩
  replace B1 := below_then B1 hb B1.size
  clear hb
  go_wp2_with fail
  refine (awake_any _).mono ?_
  rintro e w5 ⟨rfl, hb⟩
  replace B1 := below_then B1 hb B1.size
  clear hb
  go_wp2
  go_ret
  exact ⟨rfl, B1⟩

theorem edCells_next {b off : Nat} {es : List Ed} {w W : World} (h : EdCells b off es w) (hb : Below w.heap.size w W) : EdCells b off es W := fun i e he => by
  obtain ⟨h0, h1, h2, h3⟩ := h i e he
  exact ⟨Nat.lt_of_lt_of_le h0 hb.size, (hb.cell (p := ⟨b, off + i * 3, none⟩) h0).trans h1, (hb.cell (p := ⟨b, off + i * 3 + 1, none⟩) h0).trans h2, (hb.cell (p := ⟨b, off + i * 3 + 1 + 1, none⟩) h0).trans h3⟩

theorem walk (s a b : ByteArray) (es : List Ed) (ao : Option Addr) (cap : Nat) (w : World) (hs : s.size ≤ 140737488351232) (ha : a.size ≤ 140737488351232) (hb : b.size ≤ 140737488351232)
    (hes : ∀ e ∈ es, e.Ok) (hl : es.length ≤ 140737488351232) (hc : es = [] ∨ ∃ b off, ao = some ⟨b, off, none⟩ ∧ EdCells b off es w) :
    Calls Try.prog 5 #[.string s, .slice ao es.length cap, .string a, .string b] w fun e w' => e = .returned (.bool true) ∧ Below w.heap.size w w' := by
  refine diffs_walk w s ao es.length cap a b (allN s s es).1 (allN s s es).2 _ _ _ ⟨?_, ?_, fun W => diff_any a b W ha hb, fun W => rdiff_any a b W ha hb⟩
  · intro W hW
    rcases hc with rfl | ⟨bb, off, rfl, hc⟩
    · exact all_nil s ao cap W
    · exact all_any s es bb off cap W hs hes (edCells_next hc hW) hl
  · intro W hW
    rcases hc with rfl | ⟨bb, off, rfl, hc⟩
    · exact rall_nil s ao cap W
    · exact rall_any s es bb off cap W hs hes (edCells_next hc hW) hl

set_option maxRecDepth 100000 in
theorem lifted (os : Os) (started : os.Started) (H : Type) (enc : TypeId × Value → H) :
    ReturnsInHanded {} Try.checked os 5 .any (Rows.textDiffsSpec.pre6 enc Try.prog Try.f5 Rows.textDiffsRow.domain false) (Rows.textDiffsSpec.post enc Try.prog Try.f5 false true false false) := by
  refine returnsInHanded_of_change_sized (C := Try.checked) own started (by kernel_rfl) Try.func5
    (ChangeSpec.witness6 (enc := enc) (C := Try.checked) false ⟨#[], #[.string ByteArray.empty, .slice none 0 0, .string ByteArray.empty, .string ByteArray.empty], []⟩ 8 (by kernel_rfl) (by kernel_rfl) (by kernel_rfl) (by kernel_rfl)) ?_
  intro W base args ds gs before hval0 hW _ hsz0 _
  have hval : ∀ (j : Nat) t v, Try.f5.params[j]? = some t → args[j]? = some v → Value.okWide Try.prog W .any base t v := hval0
  have hsz : (DataW.weightsEach Try.prog (Try.f5.params.toList ++ Rows.textDiffsSpec.plain.varTypes Try.prog) (ds ++ gs)).all (· ≤ reachBytes) = true := hsz0
  have hW' := hW
  obtain ⟨p, q, hA0, hV, rfl, hfz, hnd⟩ := hW
  have hA : DataW.TrodAll enc Try.prog W 0 (fun _ => true) true Try.f5.params.toList args.toList ds p := hA0
  rw [Try.params5] at hA hval hsz
  obtain ⟨v0, v1, v2, v3, d0, d1, d2, d3, p0, p1, p2, p3, rfl, rfl, rfl, h0, h1, h2, h3⟩ := trodAll_four hA
  obtain ⟨rfl, rfl⟩ := trodVars_none hV
  obtain ⟨s, rfl, rfl, rfl, hs0⟩ := open_string Try.underlying9 (hval 0 9 v0 rfl rfl) h0
  obtain ⟨ao, len, cap, rfl⟩ := okWide_slice Try.underlying50 (hval 1 50 v1 rfl rfl)
  obtain ⟨a, rfl, rfl, rfl, ha0⟩ := open_string Try.underlying9 (hval 2 9 v2 rfl rfl) h2
  obtain ⟨b, rfl, rfl, rfl, hb0⟩ := open_string Try.underlying9 (hval 3 9 v3 rfl rfl) h3
  clear hA0 hval0 hsz0
  have hs := sized_text hsz (j := 0) (t := 9) rfl rfl
  have ha := sized_text hsz (j := 2) (t := 9) rfl rfl
  have hb := sized_text hsz (j := 3) (t := 9) rfl rfl
  obtain ⟨es, rfl, hes, hl, hc⟩ := open_edits hsz (j := 1) rfl rfl rfl h1
  have lt1 : ∀ x ∈ p1, x.block < W.heap.size := by obtain ⟨m, hm⟩ := h1; exact DataW.trod_lt m _ _ _ hm
  simp only [List.append_nil] at hW'
  refine (walk s a b es ao cap W hs ha hb hes hl hc).mono fun e W' ⟨he, bel⟩ => ?_
  subst he
  exact ⟨_, rfl, _, _, _, [], _, [], hW', trodAll_mk1 (shut_bool Try.underlying4 _), trodAll_cons_mk (shut_string Try.underlying9 hs0) (trodAll_cons_mk (Below.trod laidOut (by kernel_rfl) (of_decide_eq_true (by kernel_rfl)) h1 bel lt1) (trodAll_cons_mk (shut_string Try.underlying9 ha0) (trodAll_cons_mk (shut_string Try.underlying9 hb0) trodAll_mk0))), rfl, bel.frame _, fun h => by cases h⟩

theorem over : Rows.textDiffsRow.holds Try.pinned (OpenSpec.ofChange Rows.textDiffsSpec) :=
  OpenClaim.holds_of_wide 5 Try.f5 rfl rfl rfl rfl rfl rfl rfl ⟨rfl, rfl, rfl, rfl, rfl⟩ rfl rfl rfl rfl rfl (by kernel_rfl) Try.func5 (by kernel_rfl)
    (of_decide_eq_true (by kernel_rfl)) (by unfold Func.isWrapper; first | (rw [if_pos (by decide +kernel)]; kernel_rfl) | (rw [if_neg (by decide +kernel)]; exact ⟨rfl, rfl⟩))
    (fun os started H enc _ => lifted os started H enc)
end Go.Proofs.Ytneailhanohdhaa.textDiffs
namespace Go.Proofs.Ytneailhanohdhaa
theorem textDiffs_holds : Rows.TextDiffsSaid := textDiffs.over
#print axioms textDiffs_holds
end Go.Proofs.Ytneailhanohdhaa
