/- Texts joined: WhMath, DifVal. -/
import Derived.Test.YtdalomibilicfaaJRNext
import Derived.Test.YtdalomibilicfaaDifMath
import Derived.Test.YtdalomibilicfaaJRFit
import Derived.Test.YtdalomibilicfaaJPDiffer0
/- Machines in one state: how far by what is accepted behind each beginning. -/
namespace Go.Proofs.Ytdalomibilicfaa
open Go.RowKit Go.Shelf

def runT (f : List Int → Int) : Nat → Int × Int → List Int → Int × Int
  | _, p, [] => p
  | k, p, c :: w => runT (fun v => f (c :: v)) (k + 1) (if f [c] ≥ 0 then ((k : Int) + 1, f [c]) else p) w
theorem runT_dead : ∀ (w : List Int) (f : List Int → Int) (k : Nat) (p : Int × Int), (∀ v, f v = -1) → runT f k p w = p
  | [], _, _, _, _ => rfl
  | c :: w, f, k, p, h => by
    unfold runT
    rw [if_neg (by rw [h]; omega)]
    exact runT_dead w _ (k + 1) p (fun v => h _)
theorem runR_T (d : List Ds) : ∀ (w : List Int) (q : Int) (k : Nat) (p : Int × Int), runR d q k p w = runT (resD d q) k p w
  | [], _, _, _ => by unfold runR runT; rfl
  | c :: w, q, k, p => by
    unfold runR runT
    have e : (fun v => resD d q (c :: v)) = resD d (ledD d q c) := funext fun v => resD_cons d q c v
    rw [e]
    by_cases h : ledD d q c < 0
    · rw [if_pos h, runT_dead w _ _ _ (fun v => res_dead d v _ h), if_neg (by rw [resD_cons, res_dead d [] _ h]; omega)]
    · rw [if_neg h, runR_T d w]
      rfl
theorem runD_T {d : List Ds} (f : fitD d) (w : List Int) : runD d w = runT (resD d 0) 0 (0, resD d 0 []) w := by
  rw [runD_eq f, runR_T]
  rfl
theorem runD_same {d e : List Ds} (fd : fitD d) (fe : fitD e) (h : resD d 0 = resD e 0) (w : List Int) : runD d w = runD e w := by
  rw [runD_T fd, runD_T fe, h]
theorem res_ge {d : List Ds} (f : fitD d) : ∀ (w : List Int) (q : Int), -1 ≤ resD d q w
  | [], q => by
    show -1 ≤ accD d q
    unfold accD
    split
    · cases h : d[q.toNat]? with
      | none => simp
      | some s => exact f.acc s (List.mem_of_getElem? h)
    · omega
  | c :: w, q => by rw [resD_cons]; exact res_ge f w _
theorem runT_end : ∀ (w : List Int) (f : List Int → Int) (k : Nat) (p : Int × Int), p.1 ≤ k → w ≠ [] → (0 ≤ f w → runT f k p w = ((k : Int) + w.length, f w)) ∧ (f w < 0 → (runT f k p w).1 < (k : Int) + w.length)
  | [c], f, k, p, hp, _ => by
    refine ⟨fun h => ?_, fun h => ?_⟩
    · simp only [runT]; rw [if_pos h]; simp
    · simp only [runT]; rw [if_neg (by omega)]; simp; omega
  | c :: b :: w, f, k, p, hp, _ => by
    have hq : (if f [c] ≥ 0 then ((k : Int) + 1, f [c]) else p).1 ≤ ((k + 1 : Nat) : Int) := by
      split
      · simp
      · simp; omega
    have ih := runT_end (b :: w) (fun v => f (c :: v)) (k + 1) _ hq (by simp)
    refine ⟨fun h => ?_, fun h => ?_⟩
    · rw [runT, ih.1 h]
      simp only [List.length_cons, Prod.mk.injEq, and_true]
      omega
    · rw [runT]
      have := ih.2 h
      simp only [List.length_cons] at this ⊢
      omega
/-- What is accepted with all of a text. -/
theorem whole_res {d : List Ds} (f : fitD d) (w : List Int) : (if (runD d w).1 < w.length then -1 else (runD d w).2) = resD d 0 w := by
  rw [runD_T f]
  cases w with
  | nil => simp [runT]
  | cons c w =>
    obtain ⟨h1, h2⟩ := runT_end (c :: w) (resD d 0) 0 (0, resD d 0 []) (Int.le_refl _) (by simp)
    by_cases h : 0 ≤ resD d 0 (c :: w)
    · rw [h1 h, if_neg (by simp)]
    · have := h2 (by omega)
      rw [if_pos (by simpa using this)]
      have := res_ge f (c :: w) 0
      omega
theorem upA_rise : ∀ {l : List Ar} {a : Int}, upA l a → riseB l = true
  | [], _, _ => rfl
  | [_], _, _ => rfl
  | x :: y :: l, a, h => by
    unfold upA at h
    have h2 := h.2.2.2
    have h3 := h2
    unfold upA at h3
    unfold riseB
    rw [upA_rise h2, Bool.and_true]
    exact decide_eq_true (by omega)
theorem upA_len : ∀ {l : List Ar} {a : Int}, upA l a → a ≤ 256 → a + l.length ≤ 256
  | [], a, _, h => by simp; omega
  | x :: l, a, h, _ => by
    unfold upA at h
    have := upA_len h.2.2.2 (by omega)
    simp only [List.length_cons]
    omega
theorem nf_up {d : List Ds} (f : fitD d) : ∀ x ∈ d, upA x.arcs 0 ∧ x.arcs.length ≤ 1000000 := fun x hx => ⟨(f.arcs x hx).1, by have := upA_len (f.arcs x hx).1 (by omega); omega⟩
theorem small_bounds {d : List Ds} (h : smallD d = true) : d.length ≤ 60 ∧ ∀ s ∈ d, s.arcs.length ≤ 100000 := by
  unfold smallD at h
  simp only [Bool.and_eq_true, decide_eq_true_eq] at h
  refine ⟨h.2, fun s hs => ?_⟩
  have := smallF_len d 3000 h.1 s hs
  omega
/-- What is fit, back. -/
theorem fit_fitB {d : List Ds} (f : fitD d) (hl : d.length ≤ 600) : fitB d = true := by
  have h0 := List.length_pos_iff.2 f.some
  unfold fitB
  rw [decide_eq_true (show 1 ≤ d.length by omega), decide_eq_true hl, Bool.true_and, Bool.true_and, List.all_eq_true]
  intro s hs
  obtain ⟨h1, h2⟩ := f.arcs s hs
  unfold stOk
  rw [decide_eq_true (f.acc s hs), upA_rise h1, Bool.true_and, Bool.and_true, List.all_eq_true]
  intro x hx
  obtain ⟨z1, z2, z3⟩ := upA_ge h1 x hx
  have := h2 x hx
  unfold arcOk
  simp
  omega
end Go.Proofs.Ytdalomibilicfaa
/- What Differ tells, as a value. -/
namespace Go.Proofs.Ytdalomibilicfaa
open Go.RowKit Go.Shelf

open Classical in
noncomputable def difT (f g : List Int → Int) : ByteArray × Bool := if h : ∃ P, (∀ z ∈ P, 0 ≤ z ∧ z ≤ 255) ∧ FirstD f g P then (strB (Classical.choose h), true) else (⟨#[]⟩, false)
theorem difT_none {f g : List Int → Int} (h : f = g) : difT f g = (⟨#[]⟩, false) := by
  unfold difT
  rw [dif_neg]
  rintro ⟨P, _, hP⟩
  exact hP.1 (by rw [h])
theorem difT_some {f g : List Int → Int} {P : List Int} (hb : ∀ z ∈ P, 0 ≤ z ∧ z ≤ 255) (h : FirstD f g P) : difT f g = (strB P, true) := by
  have hex : ∃ P, (∀ z ∈ P, 0 ≤ z ∧ z ≤ 255) ∧ FirstD f g P := ⟨P, hb, h⟩
  unfold difT
  rw [dif_pos hex, (Classical.choose_spec hex).2.one h]
theorem difT_symm (f g : List Int → Int) : difT f g = difT g f := by
  by_cases h : ∃ P, (∀ z ∈ P, 0 ≤ z ∧ z ≤ 255) ∧ FirstD f g P
  · obtain ⟨P, h1, h2⟩ := h
    rw [difT_some h1 h2, difT_some h1 h2.symm]
  · unfold difT
    rw [dif_neg h, dif_neg (fun ⟨P, h1, h2⟩ => h ⟨P, h1, h2.symm⟩)]
/-- What is known of it. -/
def DifOk (f g : List Int → Int) : Prop := ((difT f g).2 = false → f = g) ∧ ((difT f g).2 = true → ∃ P, (difT f g).1 = strB P ∧ P.length ≤ 50000 ∧ (∀ z ∈ P, 0 ≤ z ∧ z ≤ 255) ∧ FirstD f g P)
theorem differ_val (a b : List Ds) (u v : Value) (w : World) (hu : SlD a u w) (hv : SlD b v w) (hfa : fitB a = true) (hfb : fitB b = true) (hsa : smallD a = true) (hsb : smallD b = true) :
    Calls Try.prog 12 #[.agg #[u], .agg #[v]] w fun e w' => e = .returned (.tuple #[.string (difT (resD a 0) (resD b 0)).1, .bool (difT (resD a 0) (resD b 0)).2]) ∧ DifOk (resD a 0) (resD b 0) ∧ Below w.heap.size w w' := by
  refine (differ_any a b u v w hu hv hfa hfb (small_bounds hsa).1 (small_bounds hsb).1 (small_bounds hsa).2 (small_bounds hsb).2).mono ?_
  rintro e w' ⟨hb, ⟨rfl, h⟩ | ⟨P, rfl, h0, h1, h2⟩⟩
  · unfold DifOk
    rw [difT_none h]
    exact ⟨rfl, ⟨fun _ => h, fun e => (by cases e)⟩, hb⟩
  · unfold DifOk
    rw [difT_some h1 h2]
    exact ⟨rfl, ⟨fun e => (by cases e), fun _ => ⟨P, rfl, h0, h1, h2⟩⟩, hb⟩
end Go.Proofs.Ytdalomibilicfaa
