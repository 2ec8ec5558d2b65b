/- The sets that Split, of the program and of the document, makes. -/
import Derived.Test.YtdkgeeimhjffdaaOuter
namespace Go.Proofs.Ytdkgeeimhjffdaa
open Go.RowKit Go.Shelf

/-- The part of a range that a range within has. -/
def cutP (x : Rg) (y : Pt) : List Rg := if max x.1 y.1 < min x.2 (y.1 + (y.2.2 - y.2.1)) then [(y.2.1 + (max x.1 y.1 - y.1), y.2.1 + (min x.2 (y.1 + (y.2.2 - y.2.1)) - y.1))] else []
/-- The same, in int's arithmetic. -/
def cutW (x : Rg) (y : Pt) : List Rg := if max x.1 y.1 < min x.2 (wrap64 (y.1 + wrap64 (y.2.2 - y.2.1))) then [(wrap64 (y.2.1 + wrap64 (max x.1 y.1 - y.1)), wrap64 (y.2.1 + wrap64 (min x.2 (wrap64 (y.1 + wrap64 (y.2.2 - y.2.1))) - y.1)))] else []
def cutB (x : Rg) (y : Pt) : Int := if x.2 ≤ y.1 then 0 else if x.2 - y.1 < y.2.2 - y.2.1 then x.2 - y.1 else y.2.2 - y.2.1
def cutV (x : Rg) (y : Pt) : Rg := (y.2.1 + min (max (max x.1 0 - y.1) 0) (y.2.2 - y.2.1), y.2.1 + max (cutB x y) 0)
def splitP (x : Rg) (es : List Rg) : List Rg := (partsL 0 es).flatMap (cutP x)
def splitR (x : Rg) (es : List Rg) : List Rg := (partsL 0 es).map (cutV x)

theorem cutW_eq {es : List Rg} (hf : Fit es) (ho : ∀ r ∈ es, RgOk r) {x : Rg} (hx : RgOk x) {y : Pt} (hy : y ∈ partsL 0 es) : cutW x y = cutP x y := by
  obtain ⟨k1, k2, k3⟩ := partsL_ok (M := 9223372036854775807) hf (Int.le_refl _) (by have := sizeN_max hf ho; omega) y hy
  have h0 := hf.1 _ k3
  have h1 := ho _ k3
  unfold RgOk at h1 hx
  have e1 : wrap64 (y.2.2 - y.2.1) = y.2.2 - y.2.1 := IntWalk.wrap64_in _ (by omega)
  have e2 : wrap64 (y.1 + (y.2.2 - y.2.1)) = y.1 + (y.2.2 - y.2.1) := IntWalk.wrap64_in _ (by omega)
  unfold cutW cutP
  rw [e1, e2]
  split
  · rename_i h
    rw [IntWalk.wrap64_in (max x.1 y.1 - y.1) (by omega), IntWalk.wrap64_in (min x.2 (y.1 + (y.2.2 - y.2.1)) - y.1) (by omega), IntWalk.wrap64_in _ (by omega), IntWalk.wrap64_in _ (by omega)]
  · rfl

theorem cutP_in {x : Rg} {y : Pt} {r : Rg} (h : r ∈ cutP x y) : y.2.1 ≤ r.1 ∧ r.1 < r.2 ∧ r.2 ≤ y.2.2 := by
  unfold cutP at h
  split at h
  · simp at h
    subst h
    simp only
    omega
  · simp at h

theorem split_sub {x : Rg} : ∀ {es : List Rg} {T : Int} {r : Rg}, r ∈ (partsL T es).flatMap (cutP x) → ∃ s ∈ es, s.1 ≤ r.1 ∧ r.1 < r.2 ∧ r.2 ≤ s.2
  | [], T, r, h => by simp [partsL] at h
  | s :: t, T, r, h => by
    simp only [partsL, List.flatMap_cons, List.mem_append] at h
    rcases h with h | h
    · exact ⟨s, by simp, cutP_in h⟩
    · obtain ⟨s', h1, h2⟩ := split_sub h
      exact ⟨s', by simp [h1], h2⟩

theorem split_fit {x : Rg} : ∀ {es : List Rg} {T : Int}, Fit es → Fit ((partsL T es).flatMap (cutP x))
  | [], T, _ => by simpa [partsL] using Fit.nil
  | s :: t, T, hf => by
    have ih := split_fit (x := x) (T := T + (s.2 - s.1)) hf.tail
    simp only [partsL, List.flatMap_cons]
    have h0 := hf.1 s (by simp)
    refine ⟨fun r hr => ?_, List.pairwise_append.2 ⟨?_, ih.2, ?_⟩⟩
    · rcases List.mem_append.1 hr with h | h
      · have := cutP_in h
        simp only at this
        omega
      · exact ih.1 r h
    · unfold cutP
      split <;> simp
    · intro r hr q hq
      obtain ⟨s', h1, h2⟩ := split_sub hq
      have h3 := hf.head s' h1
      have h4 := cutP_in hr
      simp only at h4
      omega

theorem cut_has {x : Rg} {y : Pt} (h0 : 0 ≤ y.1) (h1 : y.2.1 < y.2.2) (z : Int) : hasL (cutP x y) z = hasL [cutV x y] z := by
  rw [Bool.eq_iff_iff, hasL_iff, hasL_iff]
  unfold cutP cutV cutB
  constructor
  · rintro ⟨r, hr, k0, k1, k2⟩
    refine ⟨_, List.mem_singleton.2 rfl, k0, ?_⟩
    split at hr
    · simp at hr
      subst hr
      simp only at k1 k2 ⊢
      split <;> (try split) <;> omega
    · simp at hr
  · rintro ⟨r, hr, k0, k1, k2⟩
    simp at hr
    subst hr
    simp only at k1 k2
    have hlt : max x.1 y.1 < min x.2 (y.1 + (y.2.2 - y.2.1)) := by
      split at k2 <;> (try split at k2) <;> omega
    rw [if_pos hlt]
    refine ⟨_, List.mem_singleton.2 rfl, k0, ?_⟩
    simp only
    split at k2 <;> (try split at k2) <;> omega

theorem split_has {x : Rg} : ∀ {es : List Rg} {T : Int}, Fit es → 0 ≤ T → ∀ z, hasL ((partsL T es).flatMap (cutP x)) z = hasL ((partsL T es).map (cutV x)) z
  | [], T, _, _, z => by simp [partsL]
  | s :: t, T, hf, hT, z => by
    have h0 := hf.1 s (by simp)
    have ih := split_has (x := x) (T := T + (s.2 - s.1)) hf.tail (by omega) z
    simp only [partsL, List.flatMap_cons, List.map_cons]
    rw [hasL_append, ih, cut_has (by exact hT) (by exact h0.2), ← hasL_append]
    rfl

theorem cutV_ok {es : List Rg} (hf : Fit es) (ho : ∀ r ∈ es, RgOk r) {x : Rg} {y : Pt} (hy : y ∈ partsL 0 es) : RgOk (cutV x y) := by
  obtain ⟨k1, k2, k3⟩ := partsL_ok (M := 9223372036854775807) hf (Int.le_refl _) (by have := sizeN_max hf ho; omega) y hy
  have h0 := hf.1 _ k3
  have h1 := ho _ k3
  unfold RgOk at h1 ⊢
  unfold cutV cutB
  simp only
  split <;> (try split) <;> omega
theorem partsL_len : ∀ (es : List Rg) (T : Int), (partsL T es).length = es.length
  | [], _ => rfl
  | _ :: t, T => by simp [partsL, partsL_len t]
theorem cutW_len (x : Rg) (y : Pt) : (cutW x y).length ≤ 1 := by unfold cutW; split <;> simp
theorem flatW_len (x : Rg) : ∀ (ys : List Pt), (ys.flatMap (cutW x)).length ≤ ys.length
  | [] => by simp
  | y :: t => by
    have := cutW_len x y
    have := flatW_len x t
    simp only [List.flatMap_cons, List.length_append, List.length_cons]
    omega
theorem flatW_eq {es : List Rg} (hf : Fit es) (ho : ∀ r ∈ es, RgOk r) {x : Rg} (hx : RgOk x) : (partsL 0 es).flatMap (cutW x) = splitP x es := by
  unfold splitP
  have : ∀ l : List Pt, (∀ y ∈ l, y ∈ partsL 0 es) → l.flatMap (cutW x) = l.flatMap (cutP x) := by
    intro l
    induction l with
    | nil => intro _; rfl
    | cons y t ih =>
      intro h
      simp only [List.flatMap_cons]
      rw [cutW_eq hf ho hx (h y (by simp)), ih (fun z hz => h z (by simp [hz]))]
  exact this _ (fun _ h => h)
end Go.Proofs.Ytdkgeeimhjffdaa
