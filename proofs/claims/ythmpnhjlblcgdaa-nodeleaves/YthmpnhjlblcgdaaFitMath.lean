/- The document's fit is the program's: by the tree alone. And leaves, kid by kid. -/
import Derived.Test.YthmpnhjlblcgdaaWMath
namespace Go.Proofs.Ythmpnhjlblcgdaa
open Go.RowKit

mutual
def fitR : Nd → Int → Int → Int → Bool
  | .mk h l, f, t, d => decide (d ≤ 32) && decide (f ≤ h.frm) && decide (h.frm ≤ h.to) && decide (h.to ≤ t) && decide (0 < h.kind.size) && decide (h.kind.size ≤ 80) && decide (h.field.size ≤ 32) && badB h l.length && fitRL l h.frm h.to (d + 1)
def fitRL : List Nd → Int → Int → Int → Bool
  | [], _, _, _ => true
  | k :: l, f, t, d => fitR k f t d && fitRL l k.h.to t d
 end
theorem fitR_mk (x : Nd) (f t d : Int) : fitR x f t d = (decide (d ≤ 32) && decide (f ≤ x.h.frm) && decide (x.h.frm ≤ x.h.to) && decide (x.h.to ≤ t) && decide (0 < x.h.kind.size) && decide (x.h.kind.size ≤ 80) && decide (x.h.field.size ≤ 32) && badB x.h x.kids.length && fitRL x.kids x.h.frm x.h.to (d + 1)) := by
  cases x
  rw [fitR]
  rfl
theorem oneB_to {size : Int} {x : Nd × Int} (h : oneB size x = true) : 0 ≤ x.1.h.frm ∧ x.1.h.frm ≤ x.1.h.to ∧ x.1.h.to ≤ size := by
  unfold oneB aloneB headB at h
  simp only [Bool.and_eq_true, decide_eq_true_eq] at h
  omega
theorem fitRL_iff {size : Int} (l : List Nd) (d : Int) (ih : ∀ k ∈ l, ∀ f t, 0 ≤ f → t ≤ size → (fitR k f t d = true ↔ f ≤ k.h.frm ∧ k.h.to ≤ t ∧ ∀ x ∈ preN k d, oneB size x = true)) :
    ∀ f t, 0 ≤ f → t ≤ size → (fitRL l f t d = true ↔ kidsB l f t = true ∧ ∀ x ∈ preL l d, oneB size x = true) := by
  induction l with
  | nil => intro f t _ _; simp [fitRL, kidsB, preL]
  | cons k l ihl =>
    intro f t hf ht
    rw [fitRL, kidsB, preL]
    simp only [Bool.and_eq_true, decide_eq_true_eq, List.mem_append]
    have h1 := ih k (by simp) f t hf ht
    have hk : (∀ x ∈ preN k d, oneB size x = true) → 0 ≤ k.h.to := fun h => by
      have := oneB_to (h (k, d) (by rw [preN_mk]; simp))
      simp only at this
      omega
    constructor
    · rintro ⟨a, b⟩
      obtain ⟨a1, a2, a3⟩ := h1.1 a
      obtain ⟨b1, b2⟩ := (ihl (fun k hk => ih k (by simp [hk])) k.h.to t (hk a3) ht).1 b
      exact ⟨⟨⟨a1, a2⟩, b1⟩, fun x hx => hx.elim (a3 x) (b2 x)⟩
    · rintro ⟨⟨⟨a1, a2⟩, b1⟩, h⟩
      have a3 : ∀ x ∈ preN k d, oneB size x = true := fun x hx => h x (.inl hx)
      exact ⟨h1.2 ⟨a1, a2, a3⟩, (ihl (fun k hk => ih k (by simp [hk])) k.h.to t (hk a3) ht).2 ⟨b1, fun x hx => h x (.inr hx)⟩⟩
theorem fitR_iff (x : Nd) : ∀ (size d f t : Int), 0 ≤ f → t ≤ size → (fitR x f t d = true ↔ f ≤ x.h.frm ∧ x.h.to ≤ t ∧ ∀ y ∈ preN x d, oneB size y = true) := by
  induction x using nd_ind with
  | h x ih =>
    intro size d f t hf ht
    rw [fitR_mk, preN_mk]
    have hl := fun (h0 : 0 ≤ x.h.frm) (h1 : x.h.to ≤ size) => fitRL_iff (size := size) x.kids (d + 1) (fun k hk f t => ih k hk size (d + 1) f t) x.h.frm x.h.to h0 h1
    simp only [Bool.and_eq_true, decide_eq_true_eq, List.mem_cons, forall_eq_or_imp]
    unfold oneB aloneB headB at *
    simp only [Bool.and_eq_true, decide_eq_true_eq] at *
    constructor
    · rintro ⟨⟨⟨⟨⟨⟨⟨⟨a, b⟩, c⟩, e⟩, g⟩, i⟩, j⟩, k⟩, m⟩
      obtain ⟨m1, m2⟩ := (hl (by omega) (by omega)).1 m
      exact ⟨b, e, ⟨a, ⟨⟨⟨⟨⟨⟨by omega, c⟩, by omega⟩, g⟩, i⟩, j⟩, k⟩, m1⟩, m2⟩
    · rintro ⟨b, e, ⟨a, ⟨⟨⟨⟨⟨⟨_, c⟩, _⟩, g⟩, i⟩, j⟩, k⟩, m1⟩, m2⟩
      exact ⟨⟨⟨⟨⟨⟨⟨⟨a, b⟩, c⟩, e⟩, g⟩, i⟩, j⟩, k⟩, (hl (by omega) (by omega)).2 ⟨m1, m2⟩⟩
theorem fitB_fitR (x : Nd) (size : Int) : fitB x size = fitR x 0 size 1 := by
  rw [Bool.eq_iff_iff, fitR_iff x size 1 0 size (Int.le_refl _) (Int.le_refl _)]
  unfold fitB
  rw [List.all_eq_true]
  constructor
  · intro h
    have := oneB_to (h (x, 1) (by rw [preN_mk]; simp))
    simp only at this
    exact ⟨by omega, by omega, h⟩
  · exact fun h => h.2.2
theorem fst_up (t : Nd) (d : Int) : (preN t d).map (·.1) = (preN t 1).map (·.1) := by
  have := preN_up t 1 (d - 1)
  rw [show (1 : Int) + (d - 1) = d by omega] at this
  rw [this, List.map_map]
  rfl
theorem preL_fst (l : List Nd) (d : Int) : (preL l d).map (·.1) = l.flatMap fun k => (preN k 1).map (·.1) := by
  induction l with
  | nil => rfl
  | cons t l ih => rw [preL, List.map_append, ih, fst_up]; simp
theorem leavesN_mk (t : Nd) : leavesN t = if isLeaf t then [t] else t.kids.flatMap leavesN := by
  unfold leavesN
  rw [preN_mk, List.map_cons, preL_fst, List.filter_cons, List.filter_flatMap]
  by_cases h : isLeaf t = true
  · have : t.kids = [] := by unfold isLeaf at h; simpa using h
    simp [h, this]
  · simp [h]
end Go.Proofs.Ythmpnhjlblcgdaa
