/- Chapter 10's example: its sets. -/
import Derived.Test.YtckbfiigbckmeaaDoorTellsWalk
namespace Go.Proofs.YtckbfiigbckmeaaDoor
open Go.RowKit

def gA : Gr := [(2, [3, 0]), (3, []), (3, [1])]
theorem der_mem {base : Nat → Prop} {l : Nat} {r : List Nat} (hm : (l, r) ∈ gA) (h : ∀ x, x ∈ r → Der base gA x) : Der base gA l := .prod hm h
theorem emp3 : Der NoP gA 3 := der_mem (r := []) (by simp [gA]) (by simp)
theorem aE : GivesB NoP gA 4 [false, false, false, true] := by
  refine ⟨rfl, fun s hs => ⟨fun h => ?_, fun h => ?_⟩⟩
  · have : s = 3 := by
      unfold OnB at h
      match s, hs with
      | 0, _ => simp at h
      | 1, _ => simp at h
      | 2, _ => simp at h
      | 3, _ => rfl
    subst this
    exact emp3
  · refine complete_B (base := NoP) (g := gA) (fun s h => h.elim) (fun p hp => ?_) h
    simp only [gA, List.mem_cons, List.not_mem_nil, or_false] at hp
    rcases hp with rfl | rfl | rfl <;> intro hx
    · exact absurd (hx 0 (by simp)) (by simp [OnB])
    · simp [OnB]
    · exact absurd (hx 1 (by simp)) (by simp [OnB])
theorem emp_iff {s : Nat} (hs : s < 4) : Der NoP gA s ↔ s = 3 := by
  rw [← aE.2 s hs]
  unfold OnB
  match s, hs with
  | 0, _ => simp
  | 1, _ => simp
  | 2, _ => simp
  | 3, _ => simp
theorem aU : GivesB (fun s => s < 2) gA 4 [true, true, true, true] := by
  refine ⟨rfl, fun s hs => ⟨fun _ => ?_, fun h => ?_⟩⟩
  · have h0 : Der (fun s => s < 2) gA 0 := .base (by omega)
    have h3 : Der (fun s => s < 2) gA 3 := der_mem (r := []) (by simp [gA]) (by simp)
    match s, hs with
    | 0, _ => exact h0
    | 1, _ => exact .base (by omega)
    | 2, _ => exact der_mem (r := [3, 0]) (by simp [gA]) (by intro x hx; simp at hx; rcases hx with rfl | rfl; exact h3; exact h0)
    | 3, _ => exact h3
  · unfold OnB
    match s, hs with
    | 0, _ => rfl
    | 1, _ => rfl
    | 2, _ => rfl
    | 3, _ => rfl
def rowsF : List (List Int) := [[0], [1], [0, 1], [1]]
theorem fst3 : Fst (Der NoP gA) 2 gA 3 1 := .prod (pre := []) (x := 1) (post := []) (by simp [gA]) (by simp) (.term (t := 1) (by omega))
theorem fst20 : Fst (Der NoP gA) 2 gA 2 0 := .prod (pre := [3]) (x := 0) (post := []) (by simp [gA]) (by intro y hy; simp at hy; subst hy; exact emp3) (.term (t := 0) (by omega))
theorem fst21 : Fst (Der NoP gA) 2 gA 2 1 := .prod (pre := []) (x := 3) (post := [0]) (by simp [gA]) (by simp) fst3
theorem closedF_of {emp : Nat → Prop} {R : List (List Int)} {l : Nat} {sy : List Nat} (h : ∀ k, (hk : k < sy.length) → (∀ i, (hi : i < k) → emp sy[i]) → ∀ t, InR R sy[k] t → InR R l t) : ClosedF emp R (l, sy) := by
  intro pre x post hp he t ht
  simp only at hp
  subst hp
  have := h pre.length (by simp) (fun i hi => by rw [List.getElem_append_left hi]; exact he _ (List.getElem_mem hi)) t
  simp at this
  exact this ht
theorem aF : GivesR (Fst (Der NoP gA) 2 gA) 4 rowsF := by
  refine ⟨rfl, ?_, fun s hs t => ⟨fun h => ?_, fun h => ?_⟩⟩
  · intro l hl
    simp [rowsF] at hl
    rcases hl with rfl | rfl | rfl | rfl <;> simp [Rising]
  · obtain ⟨l, h1, h2⟩ := h
    match s, hs with
    | 0, _ => simp [rowsF] at h1; subst h1; simp at h2; subst h2; exact .term (t := 0) (by omega)
    | 1, _ => simp [rowsF] at h1; subst h1; simp at h2; subst h2; exact .term (t := 1) (by omega)
    | 2, _ =>
      simp [rowsF] at h1
      subst h1
      simp at h2
      rcases h2 with rfl | rfl
      · exact fst20
      · exact fst21
    | 3, _ => simp [rowsF] at h1; subst h1; simp at h2; subst h2; exact fst3
  · refine complete_F (emp := Der NoP gA) (terms := 2) (g := gA) (fun t ht => ?_) (fun p hp => ?_) h
    · match t, ht with
      | 0, _ => exact ⟨[0], rfl, by simp⟩
      | 1, _ => exact ⟨[1], rfl, by simp⟩
    · simp only [gA, List.mem_cons, List.not_mem_nil, or_false] at hp
      rcases hp with rfl | rfl | rfl
      · refine closedF_of (fun k hk _ t ht => ?_)
        obtain ⟨l, h1, h2⟩ := ht
        match k, hk with
        | 0, _ => simp [rowsF] at h1; subst h1; simp at h2; subst h2; exact ⟨[0, 1], rfl, by simp⟩
        | 1, _ => simp [rowsF] at h1; subst h1; simp at h2; subst h2; exact ⟨[0, 1], rfl, by simp⟩
      · exact closedF_of (fun k hk => by simp at hk)
      · refine closedF_of (fun k hk _ t ht => ?_)
        obtain ⟨l, h1, h2⟩ := ht
        match k, hk with
        | 0, _ => simp [rowsF] at h1; subst h1; simp at h2; subst h2; exact ⟨[1], rfl, by simp⟩
def rowsO : List (List Int) := [[], [], [2], [0]]
theorem fst_iff {s : Nat} (hs : s < 4) {t : Int} : Fst (Der NoP gA) 2 gA s t ↔ t ∈ rowAt rowsF s := by
  rw [← inR_row (by simpa [rowsF] using hs)]
  exact (aF.2.2 s hs t).symm
theorem aO : GivesR (Fol (Der NoP gA) (Fst (Der NoP gA) 2 gA) 2 gA) 4 rowsO := by
  refine ⟨rfl, ?_, fun s hs t => ⟨fun h => ?_, fun h => ?_⟩⟩
  · intro l hl
    simp [rowsO] at hl
    rcases hl with rfl | rfl | rfl <;> simp [Rising]
  · obtain ⟨l, h1, h2⟩ := h
    match s, hs with
    | 0, _ => simp [rowsO] at h1; subst h1; simp at h2
    | 1, _ => simp [rowsO] at h1; subst h1; simp at h2
    | 2, _ => simp [rowsO] at h1; subst h1; simp at h2; subst h2; exact .last
    | 3, _ => simp [rowsO] at h1; subst h1; simp at h2; subst h2; exact .first (l := 2) (pre := []) (x := 3) (post := [0]) (by simp [gA]) (by omega) (.here (.term (t := 0) (by omega)))
  · refine complete_O (emp := Der NoP gA) (fst := Fst (Der NoP gA) 2 gA) (terms := 2) (g := gA) ⟨[2], rfl, by simp⟩ (fun p hp => ?_) h
    simp only [gA, List.mem_cons, List.not_mem_nil, or_false] at hp
    rcases hp with rfl | rfl | rfl
    · intro pre x post hp hx t ht
      simp only at hp ht
      match pre, hp with
      | [], hp =>
        simp at hp
        obtain ⟨rfl, rfl⟩ := hp
        cases ht with
        | here ht =>
          have := (fst_iff (s := 0) (by omega)).1 ht
          simp [rowsF, rowAt] at this
          subst this
          exact ⟨[0], rfl, by simp⟩
        | next he _ => exact absurd ((emp_iff (by omega)).1 he) (by omega)
      | [y], hp =>
        simp at hp
        obtain ⟨_, rfl, rfl⟩ := hp
        omega
      | y :: z :: pre, hp => simp at hp
    · intro pre x post hp
      simp at hp
    · intro pre x post hp hx
      simp only at hp
      match pre, hp with
      | [], hp => simp at hp; obtain ⟨rfl, rfl⟩ := hp; omega
      | y :: pre, hp => simp at hp
end Go.Proofs.YtckbfiigbckmeaaDoor
