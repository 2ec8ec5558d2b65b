/- awake: chapter 2's examples hold, in whatever world. -/
import Derived.Test.YtdkgeeimhjffdaaOuter
import Derived.Test.YtdkgeeimhjffdaaText
namespace Go.Proofs.Ytdkgeeimhjffdaa
open Go.RowKit Go.Shelf

theorem awake_set {rs : List Rg} (hf : Fit rs) (hh : ∀ x, hasL rs x = hasL [(5, 7), (1, 3), (3, 4)] x) : rs = [(1, 4), (5, 7)] := by
  refine fit_unique hf ⟨?_, ?_⟩ fun x => ?_
  · intro r hr
    simp at hr
    rcases hr with rfl | rfl <;> decide
  · simp
  · rw [hh x, Bool.eq_iff_iff, hasL_iff, hasL_iff]
    simp
    omega

theorem at3 (W : World) (t : TypeId) : RgAt [(5, 7), (1, 3), (3, 4)] (some ⟨W.heap.size, 0, none⟩) (W.alloc (.cells #[.int .i64 5, .int .i64 7, .int .i64 1, .int .i64 3, .int .i64 3, .int .i64 4] t)) := by
  intro i r hr
  refine ⟨W.heap.size, 0, rfl, by simp, ?_⟩
  match i, hr with
  | 0, hr => simp at hr; subst hr; simp
  | 1, hr => simp at hr; subst hr; simp
  | 2, hr => simp at hr; subst hr; simp
theorem at2 (W : World) (t : TypeId) : RgAt [(1, 4), (5, 7)] (some ⟨W.heap.size, 0, none⟩) (W.alloc (.cells #[.int .i64 1, .int .i64 4, .int .i64 5, .int .i64 7] t)) := by
  intro i r hr
  refine ⟨W.heap.size, 0, rfl, by simp, ?_⟩
  match i, hr with
  | 0, hr => simp at hr; subst hr; simp
  | 1, hr => simp at hr; subst hr; simp

set_option maxHeartbeats 1000000 in
theorem awake_any (w : World) : Calls Try.prog 9 #[] w fun e w' => e = .returned (.bool true) ∧ Below w.heap.size w w' := by
  have hn := norm_any [(5, 7), (1, 3), (3, 4)] (some ⟨w.heap.size, 0, none⟩) 3 _ (by intro r hr; simp at hr; rcases hr with rfl | rfl | rfl <;> (unfold RgOk; decide)) (by decide) (at3 w 29)
  have b0 : Below w.heap.size w (w.alloc (.cells #[.int .i64 5, .int .i64 7, .int .i64 1, .int .i64 3, .int .i64 3, .int .i64 4] 29)) := (Below.refl _ _).alloc (Nat.le_refl _) _
  go_enter Try.func9, Try.ntmps9
  go_wp2_with fail
  refine hn.mono ?_
  rintro e w1 ⟨_, ro, rc, rs, rfl, hr, hb1, hf, ho, hh, _⟩
  obtain rfl := awake_set hf hh
  have B1 := below_then b0 hb1 b0.size
  have hou := outer_any _ ro rc 3 w1 hr hf ho (by decide) (by decide)
  have htx := fun W (h : RgAt [(1, 4), (5, 7)] ro W) => text_any ⟨#[97, 98, 99, 100, 101, 102, 103, 104]⟩ _ ro rc W (by decide) h hf (by decide)
  have hsi := fun W (h : RgAt [(1, 4), (5, 7)] ro W) => size_any _ ro rc W h hf ho (by decide)
  have e1 : outN 3 [(1, 4), (5, 7)] = (5, true) := by decide
  have e2 : (⟨(textN (⟨#[97, 98, 99, 100, 101, 102, 103, 104]⟩ : ByteArray).data.toList [(1, 4), (5, 7)]).toArray⟩ : ByteArray) = ⟨#[98, 99, 100, 102, 103]⟩ := by decide
  have e3 : sizeN [(1, 4), (5, 7)] = 5 := by decide
  rw [e1] at hou
  rw [e2] at htx
  rw [e3] at hsi
  simp only [List.length_cons, List.length_nil] at *
  clear hn hb1 b0 hh ho hf e1 e2 e3
  go_wp2_with fail
  refine hou.mono ?_
  rintro e w2 ⟨rfl, hb2⟩
  have hr2 := hr.next hb2
  replace B1 := below_then B1 hb2 B1.size
  have b3 : Below w2.heap.size w2 (w2.alloc (.cells #[.int .i64 1, .int .i64 4, .int .i64 5, .int .i64 7] 29)) := (Below.refl _ _).alloc (Nat.le_refl _) _
  have hsa := same_any [(1, 4), (5, 7)] [(1, 4), (5, 7)] ro (some ⟨w2.heap.size, 0, none⟩) rc 2 _ (hr2.next b3) (at2 w2 29) (by decide) (by decide)
  have e4 : decide (([(1, 4), (5, 7)] : List Rg) = [(1, 4), (5, 7)]) = true := by decide
  rw [e4] at hsa
  clear hou hb2 e4
  go_wp2_with fail
  refine hsa.mono ?_
  rintro e w3 ⟨rfl, hb3⟩
  have hr3 := (hr2.next b3).next hb3
  replace B1 := below_then (below_then B1 b3 B1.size) hb3 (by have := B1.size; simp; omega)
  have htx3 := htx _ hr3
  clear hsa hb3 b3 htx hr hr2
  go_wp2_with fail
  refine htx3.mono ?_
  rintro e w4 ⟨rfl, hb4⟩
  have hsi4 := hsi _ (hr3.next hb4)
  replace B1 := below_then B1 hb4 B1.size
  clear hr3 hb4 hsi htx3
  go_wp2_with fail
  refine hsi4.mono ?_
  rintro e w5 ⟨rfl, hb5⟩
  replace B1 := below_then B1 hb5 B1.size
  go_wp2
  go_ret
  exact ⟨rfl, B1⟩
end Go.Proofs.Ytdkgeeimhjffdaa
