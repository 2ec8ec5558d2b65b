/- Stacks: the law's few, has; the document's New. -/
import Derived.Test.YtjpbfckdiojghaaGSame
namespace Go.Proofs.Ytjpbfckdiojghaa
open Go.RowKit

def sizeG (l : List Gn) : Nat := (l.map fun x => 1 + x.links.length).sum
theorem sizeG_succ {l : List Gn} {k : Nat} (hk : k < l.length) : sizeG (l.take (k + 1)) = sizeG (l.take k) + (1 + l[k].links.length) := by
  unfold sizeG
  rw [List.take_succ_eq_append_getElem hk, List.map_append, List.sum_append]
  simp
theorem sumG_take_le (l : List Nat) (k : Nat) : (l.take k).sum ≤ l.sum := by
  conv => rhs; rw [← List.take_append_drop k l, List.sum_append]
  omega
theorem sizeG_le (l : List Gn) (k : Nat) : sizeG (l.take k) ≤ sizeG l := by
  unfold sizeG; rw [List.map_take]; exact sumG_take_le _ _
theorem sizeG_links {l : List Gn} {n : Nat} (h : sizeG l ≤ n) : ∀ x ∈ l, x.links.length ≤ n := fun x hx => by
  obtain ⟨k, hk, rfl⟩ := List.getElem_of_mem hx
  have h1 := sizeG_succ hk
  have h2 := sizeG_le l (k + 1)
  omega
def fewG (l : List Gn) : Bool := decide (sizeG l ≤ 3000 ∧ l.length ≤ 120)

set_option maxRecDepth 100000 in
set_option maxHeartbeats 1600000 in
theorem gfew_any (l : List Gn) (v : Value) (w : World) (hl : SlN l v w) :
    Calls Try.prog 5 #[.agg #[v]] w fun e w' => e = .returned (.bool (fewG l)) ∧ Below w.heap.size w w' := by
  have HL : Hid (∀ W, Below w.heap.size w W → SlN l v W) := fun W hb => hl.next hb
  obtain ⟨la, lc, rfl, _, _, _, hlb⟩ := hl
  have B0 := below_box w (.slice la l.length lc) 24
  have c0 : (w.alloc (Obj.cells #[.slice la l.length lc] 24)).cell? ⟨w.heap.size, 0, none⟩ = some (.slice la l.length lc) := by simp
  go_enter Try.func5, Try.ntmps5
  go_wp2_with fail
  generalize w.alloc (Obj.cells #[.slice la l.length lc] 24) = w0 at *
  go_loopw [3, 4] (fun lv iv wr => ∃ (i : Nat) (left : Int), lv = .int .i64 left ∧ iv = .int .i64 i ∧ i ≤ l.length ∧ -400000000000000 ≤ left ∧ left ≤ 3000 ∧ (0 ≤ left → left = 3000 - (sizeG (l.take i) : Int)) ∧ (left < 0 → 3000 < sizeG l) ∧ wr = w0) (fun _ i _ => l.length - (intOf i).toNat)
  case atStart => exact ⟨0, 3000, rfl, rfl, Nat.zero_le _, by omega, by omega, fun _ => by simp [sizeG], fun h => by omega, rfl⟩
  case round =>
  obtain ⟨i, left, rfl, rfl, hi, h1, h2, h3, h4, rfl⟩ := hrel
  have hlc : decide ((l.length : Int) ≤ 120) = decide (l.length ≤ 120) := by
    by_cases h : l.length ≤ 120
    · rw [decide_eq_true h]; exact decide_eq_true (by omega)
    · rw [decide_eq_false h]; exact decide_eq_false (by omega)
  by_cases hgo : i < l.length ∧ 0 ≤ left
  case neg =>
    have HV : Hid (fewG l = (decide (left ≥ 0) && decide (l.length ≤ 120))) := by
      show _ = _
      unfold fewG
      by_cases h : 0 ≤ left
      · have hi2 : i = l.length := by
          by_cases hlt : i < l.length
          · exact absurd ⟨hlt, h⟩ hgo
          · omega
        have e := h3 h
        rw [hi2, List.take_of_length_le (Nat.le_refl _)] at e
        have : sizeG l ≤ 3000 := by omega
        simp [this, h]
      · have := h4 (by omega)
        have h5 : ¬ sizeG l ≤ 3000 := by omega
        simp [h5]; omega
    have hcase : (decide ((i : Int) < l.length) = false ∧ ¬ ((i : Int) < l.length)) ∨ ((decide ((i : Int) < l.length) = true ∧ (i : Int) < l.length) ∧ decide (left ≥ 0) = false ∧ ¬ (left ≥ 0)) := by
      by_cases g1 : i < l.length
      · exact .inr ⟨⟨decide_eq_true (by omega), by omega⟩, decide_eq_false (by omega), by omega⟩
      · exact .inl ⟨decide_eq_false (by omega), by omega⟩
    clear h3 h4 hgo HL
    rcases hcase with ⟨g1, g2⟩ | ⟨⟨g1, g2⟩, g3, g4⟩
    · by_cases hge : left ≥ 0
      · have hgd : decide (left ≥ 0) = true := decide_eq_true hge
        rw [hgd, Bool.true_and] at HV
        by_cases h12 : l.length ≤ 120
        · have h12' : (l.length : Int) ≤ 120 := by omega
          have h12d : decide ((l.length : Int) ≤ 120) = true := decide_eq_true h12'
          rw [decide_eq_true h12] at HV
          go_wp2_with fail
          go_ret
          exact ⟨by rw [HV.out]; rfl, B0⟩
        · have h12' : ¬ (l.length : Int) ≤ 120 := by omega
          have h12d : decide ((l.length : Int) ≤ 120) = false := decide_eq_false h12'
          rw [decide_eq_false h12] at HV
          go_wp2_with fail
          go_ret
          exact ⟨by rw [HV.out]; rfl, B0⟩
      · have hgd : decide (left ≥ 0) = false := decide_eq_false hge
        rw [hgd, Bool.false_and] at HV
        go_wp2_with fail
        go_ret
        exact ⟨by rw [HV.out]; rfl, B0⟩
    · rw [g3, Bool.false_and] at HV
      go_wp2_with fail
      go_ret
      exact ⟨by rw [HV.out]; rfl, B0⟩
  obtain ⟨g1, g2⟩ := hgo
  have hsn := sizeG_succ g1
  have hle := sizeG_le l (i + 1)
  have e3 := h3 g2
  obtain ⟨_, _, e0, hal, _⟩ := HL.out _ B0
  cases e0
  obtain ⟨b, off, u, rfl, hb, q0, q1, q2, q3, _, _, q6⟩ := hal.at (Below.refl _ _) g1
  generalize l[i] = x at *
  obtain ⟨ua, uc, rfl, _⟩ := id q3
  have hw1 : IntKind.i64.wrap (left - 1) = left - 1 := by rw [IntKind.wrap_i64]; omega
  have hw2 : IntKind.i64.wrap (left - 1 - (x.links.length : Int)) = left - 1 - (x.links.length : Int) := by rw [IntKind.wrap_i64]; omega
  have hlt' : (i : Int) < l.length := by omega
  have hd1 : decide ((i : Int) < l.length) = true := decide_eq_true hlt'
  have hge : left ≥ 0 := g2
  have hd2 : decide (left ≥ 0) = true := decide_eq_true hge
  have HN : Hid ((0 ≤ left - 1 - (x.links.length : Int) → left - 1 - (x.links.length : Int) = 3000 - (sizeG (l.take (i + 1)) : Int)) ∧ (left - 1 - (x.links.length : Int) < 0 → 3000 < sizeG l)) := ⟨fun _ => by omega, fun _ => by omega⟩
  clear h3 h4 hal HL hsn hle e3
  go_wp2_with fail
  exact ⟨⟨i + 1, _, rfl, by go_num, by omega, by omega, by omega, HN.out.1, HN.out.2, trivial⟩, by simp [intOf]; omega⟩

def newG (n : Int) : List Gn := if numB n then [⟨n, 0, []⟩] else []
end Go.Proofs.Ytjpbfckdiojghaa
