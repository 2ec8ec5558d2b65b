/- The document's Norm, as plain mathematics: ranges laid into a row that rises, and joined where they touch. -/
import Derived.Test.YtdkgeeimhjffdaaOpen
namespace Go.Proofs.Ytdkgeeimhjffdaa
open Go.RowKit

/-- A row that rises: none empty, none from below 0. -/
def Srt (l : List Rg) : Prop := (∀ r ∈ l, 0 ≤ r.1 ∧ r.1 < r.2) ∧ l.Pairwise fun r s => r.1 ≤ s.1
/-- The row with one more laid in at place k. -/
def insR (ss : List Rg) (x : Rg) (k : Nat) : List Rg := ss.take k ++ x :: ss.drop k
theorem insR_len {ss : List Rg} {x : Rg} {k : Nat} (hk : k ≤ ss.length) : (insR ss x k).length = ss.length + 1 := by
  simp [insR]; omega
theorem insR_end (ss : List Rg) (x : Rg) : insR ss x ss.length = ss ++ [x] := by simp [insR]
theorem insR_has (ss : List Rg) (x : Rg) (k : Nat) (y : Int) : hasL (insR ss x k) y = (hasL ss y || decide (0 ≤ y ∧ x.1 ≤ y ∧ y < x.2)) := by
  have h : hasL ss y = (hasL (ss.take k) y || hasL (ss.drop k) y) := by rw [← hasL_append, List.take_append_drop]
  rw [insR, hasL_append, hasL_cons, h]
  cases hasL (ss.take k) y <;> cases hasL (ss.drop k) y <;> simp
theorem insR_srt {ss : List Rg} {x : Rg} {k : Nat} (h : Srt ss) (hx : 0 ≤ x.1 ∧ x.1 < x.2) (h1 : ∀ b ∈ ss.drop k, x.1 ≤ b.1) (h2 : ∀ b ∈ ss.take k, b.1 ≤ x.1) : Srt (insR ss x k) := by
  have hp : (ss.take k ++ ss.drop k).Pairwise fun r s => r.1 ≤ s.1 := by rw [List.take_append_drop]; exact h.2
  obtain ⟨p1, p2, p3⟩ := List.pairwise_append.1 hp
  refine ⟨fun r hr => ?_, List.pairwise_append.2 ⟨p1, List.pairwise_cons.2 ⟨h1, p2⟩, fun r hr s hs => ?_⟩⟩
  · rcases List.mem_append.1 hr with hr | hr
    · exact h.1 r (List.mem_of_mem_take hr)
    · rcases List.mem_cons.1 hr with rfl | hr
      · exact hx
      · exact h.1 r (List.mem_of_mem_drop hr)
  · rcases List.mem_cons.1 hs with rfl | hs
    · exact h2 r hr
    · exact p3 r hr s hs
theorem srt_take_le {ss : List Rg} {x : Rg} {m : Nat} (h : Srt ss) (hm : m < ss.length) (hle : ss[m].1 ≤ x.1) : ∀ b ∈ ss.take (m + 1), b.1 ≤ x.1 := by
  intro b hb
  obtain ⟨i, hi, rfl⟩ := List.getElem_of_mem hb
  simp at hi
  rw [List.getElem_take]
  rcases Nat.lt_or_ge i m with hlt | hge
  · have := List.pairwise_iff_getElem.1 h.2 i m (by omega) hm hlt
    omega
  · obtain rfl : i = m := by omega
    exact hle
/-- One step down. -/
theorem insR_swap {ss : List Rg} {x : Rg} {m : Nat} (hm : m < ss.length) : ((insR ss x (m + 1)).set (m + 1) ss[m]).set m x = insR ss x m := by
  have h1 : ss.take (m + 1) = ss.take m ++ [ss[m]] := List.take_succ_eq_append_getElem hm
  have h2 : ss.drop m = ss[m] :: ss.drop (m + 1) := List.drop_eq_getElem_cons hm
  have hl : (ss.take m).length = m := by simp; omega
  unfold insR
  rw [h1, h2]
  apply List.ext_getElem?
  intro i
  simp only [List.getElem?_set, List.length_append, List.length_cons, List.length_nil, hl, List.length_drop, List.length_set]
  by_cases e1 : m = i
  · subst e1
    rw [if_pos rfl, if_pos (by omega), List.getElem?_append_right (by omega), hl]
    simp
  · rw [if_neg e1]
    by_cases e2 : m + 1 = i
    · subst e2
      rw [if_pos rfl, if_pos (by omega), List.getElem?_append_right (by omega), hl]
      simp
    · rw [if_neg e2]
      rcases Nat.lt_or_ge i m with hlt | hge
      · rw [List.append_assoc, List.getElem?_append_left (by omega), List.getElem?_append_left (by omega)]
      · obtain ⟨q, rfl⟩ : ∃ q, i = m + 2 + q := ⟨i - m - 2, by omega⟩
        have e3 : m + 2 + q - m = q + 2 := by omega
        have L : (ss.take m ++ [ss[m]] ++ x :: ss.drop (m + 1))[m + 2 + q]? = (ss.drop (m + 1))[q]? := by
          rw [List.append_assoc, List.getElem?_append_right (by omega), hl, e3]
          rfl
        have R : (ss.take m ++ x :: ss[m] :: ss.drop (m + 1))[m + 2 + q]? = (ss.drop (m + 1))[q]? := by
          rw [List.getElem?_append_right (by omega), hl, e3]
          rfl
        rw [L, R]
theorem insR_at (ss : List Rg) (x : Rg) {k : Nat} (hk : k ≤ ss.length) : (insR ss x k)[k]? = some x := by
  rw [insR, List.getElem?_append_right (by simp; omega)]
  have : k - (ss.take k).length = 0 := by simp; omega
  rw [this]
  rfl
theorem insR_ahead (ss : List Rg) (x : Rg) {m : Nat} (hm : m < ss.length) : (insR ss x (m + 1))[m]? = some ss[m] := by
  rw [insR, List.getElem?_append_left (by simp; omega), List.getElem?_take, if_pos (by omega)]
  simp [hm]

/-! Joined where they touch -/
theorem out_push {out : List Rg} {s : Rg} (h : Fit out) (hs : 0 ≤ s.1 ∧ s.1 < s.2) (hb : ∀ r ∈ out, r.2 < s.1) : Fit (out ++ [s]) := fit_snoc h hs.1 hs.2 hb
theorem out_all {o : List Rg} {q : Rg} (h : Fit (o ++ [q])) {t : Int} (ht : q.2 < t) : ∀ r ∈ o ++ [q], r.2 < t := by
  intro r hr
  rcases List.mem_append.1 hr with hr | hr
  · have := (List.pairwise_append.1 h.2).2.2 r hr q (by simp)
    have := h.1 q (by simp)
    omega
  · simp at hr; subst hr; exact ht
theorem out_join {o : List Rg} {q s : Rg} (h : Fit (o ++ [q])) (hqs : q.1 ≤ s.1) (hsq : s.1 ≤ q.2) : Fit (o ++ [(q.1, max q.2 s.2)]) ∧ ∀ y, hasL (o ++ [(q.1, max q.2 s.2)]) y = (hasL (o ++ [q]) y || decide (0 ≤ y ∧ s.1 ≤ y ∧ y < s.2)) := by
  have hq := h.1 q (by simp)
  have ho : Fit o := ⟨fun r hr => h.1 r (by simp [hr]), (List.pairwise_append.1 h.2).1⟩
  refine ⟨fit_snoc ho hq.1 (by omega) (fun r hr => (List.pairwise_append.1 h.2).2.2 r hr q (by simp)), fun y => ?_⟩
  rw [hasL_append, hasL_append, hasL_cons, hasL_cons, hasL_nil, Bool.or_false, Bool.or_false, Bool.or_assoc]
  congr 1
  rw [Bool.eq_iff_iff, Bool.or_eq_true, decide_eq_true_eq, decide_eq_true_eq, decide_eq_true_eq]
  simp only
  omega

/-! The cells of a row, one range set anew -/
theorem flat_set : ∀ (rs : List Rg) (i : Nat) (r : Rg), i < rs.length → (((rs.flatMap encR).set (i * 2) (.int .i64 r.1)).set (i * 2 + 1) (.int .i64 r.2)) = (rs.set i r).flatMap encR
  | q :: t, 0, r, _ => by simp [encR]
  | q :: t, i + 1, r, h => by
    have := flat_set t i r (by simpa using h)
    rw [List.set_cons_succ, List.flatMap_cons, List.flatMap_cons, ← this]
    simp only [encR, List.cons_append, List.nil_append]
    have e : (i + 1) * 2 = i * 2 + 1 + 1 := by omega
    rw [e, List.set_cons_succ, List.set_cons_succ, List.set_cons_succ, List.set_cons_succ]
theorem flat_set1 : ∀ (rs : List Rg) (i : Nat) (v : Int), (h : i < rs.length) → ((rs.flatMap encR).set (i * 2 + 1) (.int .i64 v)) = (rs.set i (rs[i].1, v)).flatMap encR
  | q :: t, 0, v, _ => by simp [encR]
  | q :: t, i + 1, v, h => by
    have := flat_set1 t i v (by simpa using h)
    rw [List.set_cons_succ, List.flatMap_cons, List.flatMap_cons, List.getElem_cons_succ, ← this]
    simp only [encR, List.cons_append, List.nil_append]
    have e : (i + 1) * 2 = i * 2 + 1 + 1 := by omega
    rw [e, List.set_cons_succ, List.set_cons_succ]
theorem OwnR.set {B g c : Nat} {rs : List Rg} {W : World} (h : OwnR B rs (.slice (some ⟨g, 0, none⟩) rs.length c) W) (i : Nat) (r : Rg) (hi : i < rs.length) :
    OwnR B (rs.set i r) (.slice (some ⟨g, 0, none⟩) rs.length c) ((W.setCell ⟨g, i * 2, none⟩ (.int .i64 r.1)).setCell ⟨g, i * 2 + 1, none⟩ (.int .i64 r.2)) := by
  have h1 := (World.ownsRow.stored h (i * 2) (.int .i64 r.1)).1
  have h2 := (World.ownsRow.stored h1 (i * 2 + 1) (.int .i64 r.2)).1
  rw [flat_set rs i r hi] at h2
  unfold OwnR
  rw [List.length_set]
  exact h2
theorem OwnR.set1 {B g c : Nat} {rs : List Rg} {W : World} (h : OwnR B rs (.slice (some ⟨g, 0, none⟩) rs.length c) W) (i : Nat) (v : Int) (hi : i < rs.length) :
    OwnR B (rs.set i (rs[i].1, v)) (.slice (some ⟨g, 0, none⟩) rs.length c) (W.setCell ⟨g, i * 2 + 1, none⟩ (.int .i64 v)) := by
  have h1 := (World.ownsRow.stored h (i * 2 + 1) (.int .i64 v)).1
  rw [flat_set1 rs i v hi] at h1
  unfold OwnR
  rw [List.length_set]
  exact h1
end Go.Proofs.Ytdkgeeimhjffdaa
