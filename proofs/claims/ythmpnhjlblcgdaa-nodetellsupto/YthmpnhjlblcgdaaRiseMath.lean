/- Leaves of a fit tree rise: by the tree alone. -/
import Derived.Test.YthmpnhjlblcgdaaFitMath
namespace Go.Proofs.Ythmpnhjlblcgdaa
open Go.RowKit

def Rise : Int → List Nd → Int → Prop
  | _, [], _ => True
  | f, x :: l, t => f ≤ x.h.frm ∧ x.h.frm ≤ x.h.to ∧ x.h.to ≤ t ∧ Rise x.h.to l t
theorem Rise.mono : ∀ {l : List Nd} {f f' t t' : Int}, Rise f l t → f' ≤ f → t ≤ t' → Rise f' l t'
  | [], _, _, _, _, _, _, _ => trivial
  | _ :: _, _, _, _, _, ⟨h1, h2, h3, h4⟩, hf, ht => ⟨by omega, h2, by omega, h4.mono (by omega) ht⟩
theorem Rise.app : ∀ {a b : List Nd} {f m t : Int}, Rise f a m → Rise m b t → f ≤ m → m ≤ t → Rise f (a ++ b) t
  | [], _, _, _, _, _, h, hf, _ => h.mono hf (by omega)
  | _ :: _, _, _, _, _, ⟨h1, h2, h3, h4⟩, h, _, ht => ⟨h1, h2, by omega, h4.app h h3 ht⟩
theorem riseL {l : List Nd} {d : Int} (ih : ∀ k ∈ l, ∀ f t, fitR k f t d = true → Rise f (leavesN k) k.h.to ∧ f ≤ k.h.to ∧ k.h.to ≤ t) :
    ∀ f t, fitRL l f t d = true → Rise f (l.flatMap leavesN) t := by
  induction l with
  | nil => intro f t _; trivial
  | cons k l ihl =>
    intro f t h
    rw [fitRL, Bool.and_eq_true] at h
    obtain ⟨h1, h2, h3⟩ := ih k (by simp) f t h.1
    have h4 := ihl (fun k hk => ih k (by simp [hk])) _ _ h.2
    rw [List.flatMap_cons]
    exact h1.app h4 h2 h3
theorem riseN (x : Nd) : ∀ f t d, fitR x f t d = true → Rise f (leavesN x) x.h.to ∧ f ≤ x.h.to ∧ x.h.to ≤ t := by
  induction x using nd_ind with
  | h x ih =>
    intro f t d h
    rw [fitR_mk] at h
    simp only [Bool.and_eq_true, decide_eq_true_eq] at h
    obtain ⟨⟨⟨⟨⟨⟨⟨⟨_, b⟩, c⟩, e⟩, _⟩, _⟩, _⟩, _⟩, m⟩ := h
    refine ⟨?_, by omega, e⟩
    rw [leavesN_mk]
    split
    · exact ⟨b, c, Int.le_refl _, trivial⟩
    · exact (riseL (fun k hk f t => ih k hk f t (d + 1)) _ _ m).mono b (Int.le_refl _)
theorem rise_fit {x : Nd} {size : Int} (h : fitB x size = true) : Rise 0 (leavesN x) size := by
  rw [fitB_fitR] at h
  obtain ⟨h1, _, h3⟩ := riseN x _ _ _ h
  exact h1.mono (Int.le_refl _) h3
end Go.Proofs.Ythmpnhjlblcgdaa
