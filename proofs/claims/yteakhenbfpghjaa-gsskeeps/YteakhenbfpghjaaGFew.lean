/- Stacks: the law's few, has; the document's New. -/
import Derived.Test.YteakhenbfpghjaaGSame
namespace Go.Proofs.Yteakhenbfpghjaa
open Go.RowKit

def sizeG (l : List Gn) : Nat := (l.map fun x => 1 + x.links.length).sum
theorem sizeG_succ {l : List Gn} {k : Nat} (hk : k < l.length) : sizeG (l.take (k + 1)) = sizeG (l.take k) + (1 + l[k].links.length) := by
  unfold sizeG
  rw [List.take_succ_eq_append_getElem hk, List.map_append, List.sum_append]
  simp
theorem sumG_take_le (l : List Nat) (k : Nat) : (l.take k).sum ≤ l.sum := by
  conv => rhs; rw [← List.take_append_drop k l, List.sum_append]
  omega
theorem sizeG_le (l : List Gn) (k : Nat) : sizeG (l.take k) ≤ sizeG l := by
  unfold sizeG; rw [List.map_take]; exact sumG_take_le _ _
theorem sizeG_links {l : List Gn} {n : Nat} (h : sizeG l ≤ n) : ∀ x ∈ l, x.links.length ≤ n := fun x hx => by
  obtain ⟨k, hk, rfl⟩ := List.getElem_of_mem hx
  have h1 := sizeG_succ hk
  have h2 := sizeG_le l (k + 1)
  omega
def fewG (l : List Gn) : Bool := decide (sizeG l ≤ 3000 ∧ l.length ≤ 120)

set_option maxRecDepth 100000 in
set_option maxHeartbeats 1600000 in
theorem gfew_any (l : List Gn) (v : Value) (w : World) (hl : SlN l v w) :
    Calls Try.prog 7 #[.agg #[v]] w fun e w' => e = .returned (.bool (fewG l)) ∧ Below w.heap.size w w' := by
  have HL : Hid (∀ W, Below w.heap.size w W → SlN l v W) := fun W hb => hl.next hb
  obtain ⟨la, lc, rfl, _, _, _, hlb⟩ := hl
  have B0 := below_box w (.slice la l.length lc) 24
  have c0 : (w.alloc (Obj.cells #[.slice la l.length lc] 24)).cell? ⟨w.heap.size, 0, none⟩ = some (.slice la l.length lc) := by simp
  go_enter Try.func7, Try.ntmps7
  go_wp2_with fail
  generalize w.alloc (Obj.cells #[.slice la l.length lc] 24) = w0 at *
  go_loopw [3, 4] (fun lv iv wr => ∃ (i : Nat) (left : Int), lv = .int .i64 left ∧ iv = .int .i64 i ∧ i ≤ l.length ∧ -400000000000000 ≤ left ∧ left ≤ 3000 ∧ (0 ≤ left → left = 3000 - (sizeG (l.take i) : Int)) ∧ (left < 0 → 3000 < sizeG l) ∧ wr = w0) (fun _ i _ => l.length - (intOf i).toNat)
  case atStart => exact ⟨0, 3000, rfl, rfl, Nat.zero_le _, by omega, by omega, fun _ => by simp [sizeG], fun h => by omega, rfl⟩
  case round =>
  obtain ⟨i, left, rfl, rfl, hi, h1, h2, h3, h4, rfl⟩ := hrel
  have hlc : decide ((l.length : Int) ≤ 120) = decide (l.length ≤ 120) := by
    by_cases h : l.length ≤ 120
    · rw [decide_eq_true h]; exact decide_eq_true (by omega)
    · rw [decide_eq_false h]; exact decide_eq_false (by omega)
  by_cases hgo : i < l.length ∧ 0 ≤ left
  case neg =>
    have HV : Hid (fewG l = (decide (left ≥ 0) && decide (l.length ≤ 120))) := by
      show _ = _
      unfold fewG
      by_cases h : 0 ≤ left
      · have hi2 : i = l.length := by
          by_cases hlt : i < l.length
          · exact absurd ⟨hlt, h⟩ hgo
          · omega
        have e := h3 h
        rw [hi2, List.take_of_length_le (Nat.le_refl _)] at e
        have : sizeG l ≤ 3000 := by omega
        simp [this, h]
      · have := h4 (by omega)
        have h5 : ¬ sizeG l ≤ 3000 := by omega
        simp [h5]; omega
    have hcase : (decide ((i : Int) < l.length) = false ∧ ¬ ((i : Int) < l.length)) ∨ ((decide ((i : Int) < l.length) = true ∧ (i : Int) < l.length) ∧ decide (left ≥ 0) = false ∧ ¬ (left ≥ 0)) := by
      by_cases g1 : i < l.length
      · exact .inr ⟨⟨decide_eq_true (by omega), by omega⟩, decide_eq_false (by omega), by omega⟩
      · exact .inl ⟨decide_eq_false (by omega), by omega⟩
    clear h3 h4 hgo HL
    rcases hcase with ⟨g1, g2⟩ | ⟨⟨g1, g2⟩, g3, g4⟩
    · by_cases hge : left ≥ 0
      · have hgd : decide (left ≥ 0) = true := decide_eq_true hge
        rw [hgd, Bool.true_and] at HV
        by_cases h12 : l.length ≤ 120
        · have h12' : (l.length : Int) ≤ 120 := by omega
          have h12d : decide ((l.length : Int) ≤ 120) = true := decide_eq_true h12'
          rw [decide_eq_true h12] at HV
          go_wp2_with fail
          go_ret
          exact ⟨by rw [HV.out]; rfl, B0⟩
        · have h12' : ¬ (l.length : Int) ≤ 120 := by omega
          have h12d : decide ((l.length : Int) ≤ 120) = false := decide_eq_false h12'
          rw [decide_eq_false h12] at HV
          go_wp2_with fail
          go_ret
          exact ⟨by rw [HV.out]; rfl, B0⟩
      · have hgd : decide (left ≥ 0) = false := decide_eq_false hge
        rw [hgd, Bool.false_and] at HV
        go_wp2_with fail
        go_ret
        exact ⟨by rw [HV.out]; rfl, B0⟩
    · rw [g3, Bool.false_and] at HV
      go_wp2_with fail
      go_ret
      exact ⟨by rw [HV.out]; rfl, B0⟩
  obtain ⟨g1, g2⟩ := hgo
  have hsn := sizeG_succ g1
  have hle := sizeG_le l (i + 1)
  have e3 := h3 g2
  obtain ⟨_, _, e0, hal, _⟩ := HL.out _ B0
  cases e0
  obtain ⟨b, off, u, rfl, hb, q0, q1, q2, q3, _, _, q6⟩ := hal.at (Below.refl _ _) g1
  generalize l[i] = x at *
  obtain ⟨ua, uc, rfl, _⟩ := id q3
  have hw1 : IntKind.i64.wrap (left - 1) = left - 1 := by rw [IntKind.wrap_i64]; omega
  have hw2 : IntKind.i64.wrap (left - 1 - (x.links.length : Int)) = left - 1 - (x.links.length : Int) := by rw [IntKind.wrap_i64]; omega
  have hlt' : (i : Int) < l.length := by omega
  have hd1 : decide ((i : Int) < l.length) = true := decide_eq_true hlt'
  have hge : left ≥ 0 := g2
  have hd2 : decide (left ≥ 0) = true := decide_eq_true hge
  have HN : Hid ((0 ≤ left - 1 - (x.links.length : Int) → left - 1 - (x.links.length : Int) = 3000 - (sizeG (l.take (i + 1)) : Int)) ∧ (left - 1 - (x.links.length : Int) < 0 → 3000 < sizeG l)) := ⟨fun _ => by omega, fun _ => by omega⟩
  clear h3 h4 hal HL hsn hle e3
  go_wp2_with fail
  exact ⟨⟨i + 1, _, rfl, by go_num, by omega, by omega, by omega, HN.out.1, HN.out.2, trivial⟩, by simp [intOf]; omega⟩

set_option maxRecDepth 100000 in
set_option maxHeartbeats 800000 in
theorem ghas_any (l : List Int) (v : Value) (x : Int) (w : World) (hl : SlI l v w) (hlen : l.length ≤ 1000000) :
    Calls Try.prog 29 #[v, .int .i64 x] w fun e w' => e = .returned (.bool (decide (x ∈ l))) ∧ w' = w := by
  obtain ⟨la, lc, rfl, hr, _⟩ := hl
  go_enter Try.func29, Try.ntmps29
  go_wp2_with fail
  go_loopw [9] (fun iv wr => ∃ (j : Nat), iv = .int .i64 j ∧ j ≤ l.length ∧ (x ∈ l ↔ x ∈ l.drop j) ∧ wr = w) (fun i _ => l.length - (intOf i).toNat)
  case atStart => exact ⟨0, rfl, Nat.zero_le _, by simp, rfl⟩
  case round =>
  obtain ⟨j, rfl, hj, hF, rfl⟩ := hrel
  by_cases hlt : j < l.length
  case neg =>
    obtain rfl : j = l.length := by omega
    have HV : Hid (decide (x ∈ l) = false) := by show _ = _; exact decide_eq_false (by rw [hF, List.drop_of_length_le (Nat.le_refl _)]; simp)
    clear hF hr
    go_wp2_with fail
    go_ret
    exact ⟨by rw [HV.out]; rfl, rfl⟩
  obtain ⟨b2, o2, rfl, hb2, q0⟩ := hr.at (Below.refl _ _) hlt
  unfold encI at q0
  rw [List.drop_eq_getElem_cons hlt] at hF
  generalize l[j] = y at *
  rw [List.mem_cons] at hF
  by_cases h1 : x = y
  · have d1 : (x == y) = true := by simpa using h1
    have HV : Hid (decide (x ∈ l) = true) := by show _ = _; exact decide_eq_true (hF.2 (.inl h1))
    clear hF hr h1
    go_wp2_with fail
    go_ret
    exact ⟨by rw [HV.out]; rfl, rfl⟩
  · have d1 : (x == y) = false := by simpa using h1
    have HV : Hid (x ∈ l ↔ x ∈ l.drop (j + 1)) := by show _ ↔ _; rw [hF]; simp [h1]
    clear hF hr h1
    go_wp2_with fail
    exact ⟨⟨j + 1, by go_num, by omega, HV.out, trivial⟩, by simp [intOf]; omega⟩

def newG (n : Int) : List Gn := if numB n then [⟨n, 0, []⟩] else []
set_option maxRecDepth 100000 in
set_option maxHeartbeats 800000 in
theorem gnew_any (n : Int) (w : World) (hn : i64B n) : Calls Try.prog 14 #[.int .i64 n] w fun e w' => ∃ v, e = .returned (.agg #[v]) ∧ SlN (newG n) v w' ∧ Below w.heap.size w w' := by
  have B0 := below_box w (.slice none 0 0) 24
  have b0 : (w.alloc (Obj.cells #[.slice none 0 0] 24)).heap[w.heap.size]? = some (Obj.cells #[.slice none 0 0] 24) := heap_alloc_new _ _
  have HC := gnum_any n (w.alloc (Obj.cells #[.slice none 0 0] 24))
  go_enter Try.func14, Try.ntmps14
  go_wp2_with fail
  generalize w.alloc (Obj.cells #[.slice none 0 0] 24) = w0 at *
  have c0 : w0.cell? ⟨w.heap.size, 0, none⟩ = some (.slice none 0 0) := by rw [Lib.cell_of_heap b0]; rfl
  have f0 : w0.frozen? ⟨w.heap.size, 0, none⟩ = false := Lib.frozen_of_heap b0 _
  refine HC.mono ?_
  rintro e w1 ⟨rfl, rfl⟩
  cases hb : numB n with
  | false =>
    have HV : Hid (newG n = []) := by show _ = _; unfold newG; rw [hb]; rfl
    have z : (w1.setCell ⟨w.heap.size, 0, none⟩ (.slice none 0 0)).heap[w.heap.size]? = some (Obj.cells #[.slice none 0 0] 24) := by
      have := blk_set (o := 0) b0 (.slice none 0 0)
      simpa using this
    have HB : Hid (Below w.heap.size w (w1.setCell ⟨w.heap.size, 0, none⟩ (.slice none 0 0))) := B0.setCell (by simp) _
    clear HC B0 hb
    go_wp2_with fail
    refine bodyPost_ret (results_cell1 rfl _ _ _ rfl (run_loadVar_row _ _ _ _ _ _ _ z Try.underlying24 rfl (by kernel_rfl))) rfl ?_
    exact ⟨_, rfl, by rw [HV.out]; exact SlN.nil _, HB.out⟩
  | true =>
    have HV : Hid (newG n = [⟨n, 0, []⟩]) := by show _ = _; unfold newG; rw [hb]; rfl
    have ba : Below w1.heap.size w1 (w1.alloc (Obj.cells #[.int .i64 n, .int .i64 0, .slice none 0 0] 48)) := (Below.refl _ _).alloc (Nat.le_refl _) _
    have ca : (w1.alloc (Obj.cells #[.int .i64 n, .int .i64 0, .slice none 0 0] 48)).cell? ⟨w.heap.size, 0, none⟩ = some (.slice none 0 0) := (ba.cell (p := ⟨w.heap.size, 0, none⟩) (blk_lt b0)).trans c0
    have bb := (ba.block _ (blk_lt b0)).trans b0
    have fa : (w1.alloc (Obj.cells #[.int .i64 n, .int .i64 0, .slice none 0 0] 48)).frozen? ⟨w.heap.size, 0, none⟩ = false := Lib.frozen_of_heap bb _
    have z : ((w1.alloc (Obj.cells #[.int .i64 n, .int .i64 0, .slice none 0 0] 48)).setCell ⟨w.heap.size, 0, none⟩ (.slice (some ⟨w1.heap.size, 0, none⟩) 1 1)).heap[w.heap.size]? = some (Obj.cells #[.slice (some ⟨w1.heap.size, 0, none⟩) 1 1] 24) := by
      have := blk_set (o := 0) bb (.slice (some ⟨w1.heap.size, 0, none⟩) 1 1)
      simpa using this
    have pn : ((w1.alloc (Obj.cells #[.int .i64 n, .int .i64 0, .slice none 0 0] 48)).setCell ⟨w.heap.size, 0, none⟩ (.slice (some ⟨w1.heap.size, 0, none⟩) 1 1)).heap[w1.heap.size]? = some (Obj.cells #[.int .i64 n, .int .i64 0, .slice none 0 0] 48) := set_blk (heap_alloc_new _ _) (by have := blk_lt b0; omega)
    have HB : Hid (Below w.heap.size w ((w1.alloc (Obj.cells #[.int .i64 n, .int .i64 0, .slice none 0 0] 48)).setCell ⟨w.heap.size, 0, none⟩ (.slice (some ⟨w1.heap.size, 0, none⟩) 1 1))) := (B0.trans (ba.mono B0.size)).setCell (by simp) _
    have HS : Hid (SlN [⟨n, 0, []⟩] (.slice (some ⟨w1.heap.size, 0, none⟩) 1 1) ((w1.alloc (Obj.cells #[.int .i64 n, .int .i64 0, .slice none 0 0] 48)).setCell ⟨w.heap.size, 0, none⟩ (.slice (some ⟨w1.heap.size, 0, none⟩) 1 1))) := by
      refine ⟨some ⟨w1.heap.size, 0, none⟩, 1, rfl, fun i x hx => ?_, fun e => (by cases e), Nat.le_refl _, by simp⟩
      rcases i with _ | i
      · simp at hx
        subst hx
        refine ⟨w1.heap.size, 0, .slice none 0 0, rfl, blk_lt pn, ?_, ?_, ?_, ⟨none, 0, rfl, RowAt.nil _ _ _, fun _ => rfl, Nat.le_refl _, fun _ h => (by cases h)⟩, hn, by unfold i64B; simp only; omega, by simp⟩
        · rw [Lib.cell_of_heap pn]; rfl
        · rw [Lib.cell_of_heap pn]; rfl
        · rw [Lib.cell_of_heap pn]; rfl
      · simp at hx
    clear HC B0 hb ba bb pn
    go_wp2_with fail
    refine bodyPost_ret (results_cell1 rfl _ _ _ rfl (run_loadVar_row _ _ _ _ _ _ _ z Try.underlying24 rfl (by kernel_rfl))) rfl ?_
    exact ⟨_, rfl, by rw [HV.out]; exact HS.out, HB.out⟩
end Go.Proofs.Yteakhenbfpghjaa
