/- The contracts of the functions on one edit: Fit, Apply, Undo, Map of the program, and the document's own; for every text and every edit whose strings are of at most 140737488351232 bytes. -/
import Derived.Test.YtneailhanohdhaaProg
import Derived.WalkKit
import Derived.WalkSpells
import Derived.WalkLawsBesides
import Derived.Deep.QuietTactic
import Derived.BigQuiet
namespace Go.Proofs.Ytneailhanohdhaa
open Go.RowKit

def fitN (n a o tl : Int) : Int := if a < 0 ∨ o < 0 ∨ n - a < o then 13 else if 65536 - (n - o) < tl then 12 else 0

theorem ret_int {k : IntKind} {a b : Int} (h : a = b) : Ending.returned (.int k a) = .returned (.int k b) := by rw [h]

structure I64 (a : Int) : Prop where
  lo : -9223372036854775808 ≤ a
  hi : a ≤ 9223372036854775807

set_option maxHeartbeats 400000 in
theorem fit_any (s t : ByteArray) (a o : Int) (w : World) (hs : s.size ≤ 140737488351232) (_ht : t.size ≤ 140737488351232) (ha : I64 a) (ho : I64 o) :
    Calls Try.prog 20 #[.string s, .agg #[.int .i64 a, .int .i64 o, .string t]] w fun e w' => e = .returned (.int .i64 (fitN s.size a o t.size)) ∧ Below w.heap.size w w' := by
  obtain ⟨ha1, ha2⟩ := ha
  obtain ⟨ho1, ho2⟩ := ho
  go_enter Try.func20, Try.ntmps20
  go_wp2
  all_goals go_ret
  all_goals exact ⟨ret_int (by unfold fitN; first | rw [if_pos (by omega)] | rw [if_neg (by omega), if_pos (by omega)] | rw [if_neg (by omega), if_neg (by omega)]), (Below.refl _ _).alloc (Nat.le_refl _) _⟩

set_option maxHeartbeats 400000 in
theorem rfit_any (s t : ByteArray) (a o : Int) (w : World) (hs : s.size ≤ 140737488351232) (ht : t.size ≤ 140737488351232) (ha : I64 a) (ho : I64 o) :
    Calls Try.prog 21 #[.string s, .agg #[.int .i64 a, .int .i64 o, .string t]] w fun e w' => e = .returned (.int .i64 (fitN s.size a o t.size)) ∧ Below w.heap.size w w' := by
  obtain ⟨ha1, ha2⟩ := ha
  obtain ⟨ho1, ho2⟩ := ho
  go_enter Try.func21, Try.ntmps21
  go_wp2
  all_goals go_ret
  all_goals exact ⟨ret_int (by unfold fitN; first | rw [if_pos (by omega)] | rw [if_neg (by omega), if_pos (by omega)] | rw [if_neg (by omega), if_neg (by omega)]), (Below.refl _ _).alloc (Nat.le_refl _) _⟩

def mapN (a o tl x : Int) : Int × Bool := if a < 0 ∨ o < 0 then (0, false) else if x < a then (x, true) else if x - a < o then (0, false) else (wrap64 (x - o + tl), true)

theorem ret_ib {a b : Int} {p q : Bool} (h : (a, p) = (b, q)) : Ending.returned (.tuple #[.int .i64 a, .bool p]) = .returned (.tuple #[.int .i64 b, .bool q]) := by cases h; rfl

set_option maxHeartbeats 400000 in
theorem map_any (t : ByteArray) (a o x : Int) (w : World) (_ht : t.size ≤ 140737488351232) (ha : I64 a) (ho : I64 o) (hx : I64 x) :
    Calls Try.prog 18 #[.agg #[.int .i64 a, .int .i64 o, .string t], .int .i64 x] w fun e w' => e = .returned (.tuple #[.int .i64 (mapN a o t.size x).1, .bool (mapN a o t.size x).2]) ∧ Below w.heap.size w w' := by
  obtain ⟨ha1, ha2⟩ := ha
  obtain ⟨ho1, ho2⟩ := ho
  obtain ⟨hx1, hx2⟩ := hx
  go_enter Try.func18, Try.ntmps18
  go_wp2
  all_goals go_ret2
  all_goals exact ⟨ret_ib (by unfold mapN; first | (rw [if_pos (by omega)]; done) | (rw [if_neg (by omega), if_pos (by omega)]; done) | (rw [if_neg (by omega), if_neg (by omega), if_pos (by omega)]; done) | (rw [if_neg (by omega), if_neg (by omega), if_neg (by omega)]; done)), (Below.refl _ _).alloc (Nat.le_refl _) _⟩

set_option maxHeartbeats 400000 in
theorem rmap_any (t : ByteArray) (a o x : Int) (w : World) (_ht : t.size ≤ 140737488351232) (ha : I64 a) (ho : I64 o) (hx : I64 x) :
    Calls Try.prog 19 #[.agg #[.int .i64 a, .int .i64 o, .string t], .int .i64 x] w fun e w' => e = .returned (.tuple #[.int .i64 (mapN a o t.size x).1, .bool (mapN a o t.size x).2]) ∧ Below w.heap.size w w' := by
  obtain ⟨ha1, ha2⟩ := ha
  obtain ⟨ho1, ho2⟩ := ho
  obtain ⟨hx1, hx2⟩ := hx
  go_enter Try.func19, Try.ntmps19
  go_wp2
  all_goals go_ret2
  all_goals exact ⟨ret_ib (by unfold mapN; first | (rw [if_pos (by omega)]; done) | (rw [if_neg (by omega), if_pos (by omega)]; done) | (rw [if_neg (by omega), if_neg (by omega), if_pos (by omega)]; done) | (rw [if_neg (by omega), if_neg (by omega), if_neg (by omega)]; done)), (Below.refl _ _).alloc (Nat.le_refl _) _⟩

/-- The text behind an edit that can be made; the text itself where it can't. -/
def appB (s t : ByteArray) (a o : Int) : ByteArray := if fitN s.size a o t.size = 0 then s.extract 0 a.toNat ++ t ++ s.extract (a + o).toNat s.size else s

theorem fit_zero {n a o tl : Int} (h : fitN n a o tl = 0) : 0 ≤ a ∧ 0 ≤ o ∧ o ≤ n - a ∧ tl ≤ 65536 - (n - o) := by
  unfold fitN at h
  split at h
  · omega
  · split at h <;> omega

theorem ret_si {x y : ByteArray} {a b : Int} (h : x = y) (k : a = b) : Ending.returned (.tuple #[.string x, .int .i64 a]) = .returned (.tuple #[.string y, .int .i64 b]) := by rw [h, k]

set_option maxHeartbeats 400000 in
theorem apply_any (s t : ByteArray) (a o : Int) (w : World) (hs : s.size ≤ 140737488351232) (ht : t.size ≤ 140737488351232) (ha : I64 a) (ho : I64 o) :
    Calls Try.prog 14 #[.string s, .agg #[.int .i64 a, .int .i64 o, .string t]] w fun e w' => e = .returned (.tuple #[.string (appB s t a o), .int .i64 (fitN s.size a o t.size)]) ∧ Below w.heap.size w w' := by
  by_cases h0 : fitN s.size a o t.size = 0
  · obtain ⟨hf1, hf2, hf3, hf4⟩ := fit_zero h0
    have HF : Hid (fitN s.size a o t.size = 0) := h0
    clear h0
    go_enter Try.func14, Try.ntmps14
    go_wp2_with (go_at_call 20; refine (fit_any _ _ _ _ _ hs ht ha ho).mono ?_; rw [HF.out]; rintro e w1 ⟨rfl, hb1⟩; have hz := hb1.size; simp at hz; have hc0 := hb1.cell (p := ⟨w.heap.size, 0, none⟩) (by simp <;> omega); have hc1 := hb1.cell (p := ⟨w.heap.size, 1, none⟩) (by simp <;> omega); have hc2 := hb1.cell (p := ⟨w.heap.size, 2, none⟩) (by simp); simp at hc0 hc1 hc2)
    go_quiet (fail)
    go_wp2
    go_ret2
    exact ⟨ret_si (by unfold appB; rw [if_pos HF.out]) HF.out.symm, below_drewN (((Below.refl _ _).alloc (Nat.le_refl _) _).trans (hb1.mono (by simp))) _⟩
  · generalize hg : fitN s.size a o t.size = g at h0
    have HF : Hid (fitN s.size a o t.size = g) := hg
    clear hg
    have hne : (g != 0) = true := by simpa using h0
    have HN : Hid (¬ g = 0) := h0
    clear h0
    go_enter Try.func14, Try.ntmps14
    go_wp2_with (go_at_call 20; refine (fit_any _ _ _ _ _ hs ht ha ho).mono ?_; rw [HF.out]; rintro e w1 ⟨rfl, hb1⟩; have hz := hb1.size; simp at hz)
    go_ret2
    exact ⟨ret_si (by unfold appB; rw [if_neg (by rw [HF.out]; exact HN.out)]) rfl, (((Below.refl _ _).alloc (Nat.le_refl _) _).trans (hb1.mono (by simp)))⟩


set_option maxHeartbeats 400000 in
theorem rapply_any (s t : ByteArray) (a o : Int) (w : World) (hs : s.size ≤ 140737488351232) (ht : t.size ≤ 140737488351232) (ha : I64 a) (ho : I64 o) :
    Calls Try.prog 15 #[.string s, .agg #[.int .i64 a, .int .i64 o, .string t]] w fun e w' => e = .returned (.tuple #[.string (appB s t a o), .int .i64 (fitN s.size a o t.size)]) ∧ Below w.heap.size w w' := by
  by_cases h0 : fitN s.size a o t.size = 0
  · obtain ⟨hf1, hf2, hf3, hf4⟩ := fit_zero h0
    have HF : Hid (fitN s.size a o t.size = 0) := h0
    clear h0
    go_enter Try.func15, Try.ntmps15
    go_wp2_with (go_at_call 21; refine (rfit_any _ _ _ _ _ hs ht ha ho).mono ?_; rw [HF.out]; rintro e w1 ⟨rfl, hb1⟩; have hz := hb1.size; simp at hz; have hc0 := hb1.cell (p := ⟨w.heap.size, 0, none⟩) (by simp <;> omega); have hc1 := hb1.cell (p := ⟨w.heap.size, 1, none⟩) (by simp <;> omega); have hc2 := hb1.cell (p := ⟨w.heap.size, 2, none⟩) (by simp); simp at hc0 hc1 hc2)
    go_quiet (fail)
    go_wp2
    go_ret2
    exact ⟨ret_si (by unfold appB; rw [if_pos HF.out]) HF.out.symm, below_drewN (((Below.refl _ _).alloc (Nat.le_refl _) _).trans (hb1.mono (by simp))) _⟩
  · generalize hg : fitN s.size a o t.size = g at h0
    have HF : Hid (fitN s.size a o t.size = g) := hg
    clear hg
    have hne : (g != 0) = true := by simpa using h0
    have HN : Hid (¬ g = 0) := h0
    clear h0
    go_enter Try.func15, Try.ntmps15
    go_wp2_with (go_at_call 21; refine (rfit_any _ _ _ _ _ hs ht ha ho).mono ?_; rw [HF.out]; rintro e w1 ⟨rfl, hb1⟩; have hz := hb1.size; simp at hz)
    go_ret2
    exact ⟨ret_si (by unfold appB; rw [if_neg (by rw [HF.out]; exact HN.out)]) rfl, (((Below.refl _ _).alloc (Nat.le_refl _) _).trans (hb1.mono (by simp)))⟩


def undoV (s t : ByteArray) (a o : Int) : Value := if fitN s.size a o t.size = 0 then .agg #[.int .i64 a, .int .i64 t.size, .string (s.extract a.toNat (a + o).toNat)] else .agg #[.int .i64 0, .int .i64 0, .string ByteArray.empty]

set_option maxHeartbeats 400000 in
theorem undo_any (s t : ByteArray) (a o : Int) (w : World) (hs : s.size ≤ 140737488351232) (ht : t.size ≤ 140737488351232) (ha : I64 a) (ho : I64 o) :
    Calls Try.prog 16 #[.string s, .agg #[.int .i64 a, .int .i64 o, .string t]] w fun e w' => e = .returned (.tuple #[undoV s t a o, .int .i64 (fitN s.size a o t.size)]) ∧ Below w.heap.size w w' := by
  by_cases h0 : fitN s.size a o t.size = 0
  · obtain ⟨hf1, hf2, hf3, hf4⟩ := fit_zero h0
    have HF : Hid (fitN s.size a o t.size = 0) := h0
    clear h0
    go_enter Try.func16, Try.ntmps16
    go_wp2_with (go_at_call 20; refine (fit_any _ _ _ _ _ hs ht ha ho).mono ?_; rw [HF.out]; rintro e w1 ⟨rfl, hb1⟩; have hz := hb1.size; simp at hz; have hc0 := hb1.cell (p := ⟨w.heap.size, 0, none⟩) (by simp <;> omega); have hc1 := hb1.cell (p := ⟨w.heap.size, 1, none⟩) (by simp <;> omega); have hc2 := hb1.cell (p := ⟨w.heap.size, 2, none⟩) (by simp <;> omega); have hr0 := hb1.cell (p := ⟨w.heap.size + 1, 0, none⟩) (by simp <;> omega); have hr1 := hb1.cell (p := ⟨w.heap.size + 1, 1, none⟩) (by simp <;> omega); have hr2 := hb1.cell (p := ⟨w.heap.size + 1, 2, none⟩) (by simp <;> omega); have hq0 := hb1.frozen (p := ⟨w.heap.size + 1, 0, none⟩) (by simp <;> omega); have hq1 := hb1.frozen (p := ⟨w.heap.size + 1, 1, none⟩) (by simp <;> omega); have hq2 := hb1.frozen (p := ⟨w.heap.size + 1, 2, none⟩) (by simp <;> omega); simp at hc0 hc1 hc2 hr0 hr1 hr2 hq0 hq1 hq2)
    go_region
    go_wp2
    refine bodyPost_ret (v := .tuple #[.agg #[.int .i64 a, .int .i64 t.size, .string (s.extract a.toNat (a + o).toNat)], .int .i64 0]) (by simp [results, Try.results16, go_sem, hr0, hr1, hr2]) rfl ⟨by unfold undoV; rw [if_pos HF.out, HF.out], ?_⟩
    exact (((((((Below.refl _ _).alloc (Nat.le_refl _) _).alloc (by simp) _).trans (hb1.mono (by simp <;> omega))).setCell (by simp) _).setCell (by simp) _).setCell (by simp) _).drew
  · generalize hg : fitN s.size a o t.size = g at h0
    have HF : Hid (fitN s.size a o t.size = g) := hg
    clear hg
    have hne : (g != 0) = true := by simpa using h0
    have HN : Hid (¬ g = 0) := h0
    clear h0
    go_enter Try.func16, Try.ntmps16
    go_wp2_with (go_at_call 20; refine (fit_any _ _ _ _ _ hs ht ha ho).mono ?_; rw [HF.out]; rintro e w1 ⟨rfl, hb1⟩; have hz := hb1.size; simp at hz; have hr0 := hb1.cell (p := ⟨w.heap.size + 1, 0, none⟩) (by simp <;> omega); have hr1 := hb1.cell (p := ⟨w.heap.size + 1, 1, none⟩) (by simp <;> omega); have hr2 := hb1.cell (p := ⟨w.heap.size + 1, 2, none⟩) (by simp <;> omega); have hq0 := hb1.frozen (p := ⟨w.heap.size + 1, 0, none⟩) (by simp <;> omega); have hq1 := hb1.frozen (p := ⟨w.heap.size + 1, 1, none⟩) (by simp <;> omega); have hq2 := hb1.frozen (p := ⟨w.heap.size + 1, 2, none⟩) (by simp <;> omega); simp at hr0 hr1 hr2 hq0 hq1 hq2)
    refine bodyPost_ret (v := .tuple #[.agg #[.int .i64 0, .int .i64 0, .string ByteArray.empty], .int .i64 g]) (by simp [results, Try.results16, go_sem, hr0, hr1, hr2]; rfl) rfl ⟨by unfold undoV; rw [if_neg (by rw [HF.out]; exact HN.out)], ?_⟩
    exact ((((((Below.refl _ _).alloc (Nat.le_refl _) _).alloc (by simp) _).trans (hb1.mono (by simp <;> omega))).setCell (by simp) _).setCell (by simp) _).setCell (by simp) _

set_option maxHeartbeats 400000 in
theorem rundo_any (s t : ByteArray) (a o : Int) (w : World) (hs : s.size ≤ 140737488351232) (ht : t.size ≤ 140737488351232) (ha : I64 a) (ho : I64 o) :
    Calls Try.prog 17 #[.string s, .agg #[.int .i64 a, .int .i64 o, .string t]] w fun e w' => e = .returned (.tuple #[undoV s t a o, .int .i64 (fitN s.size a o t.size)]) ∧ Below w.heap.size w w' := by
  by_cases h0 : fitN s.size a o t.size = 0
  · obtain ⟨hf1, hf2, hf3, hf4⟩ := fit_zero h0
    have HF : Hid (fitN s.size a o t.size = 0) := h0
    clear h0
    go_enter Try.func17, Try.ntmps17
    go_wp2_with (go_at_call 21; refine (rfit_any _ _ _ _ _ hs ht ha ho).mono ?_; rw [HF.out]; rintro e w1 ⟨rfl, hb1⟩; have hz := hb1.size; simp at hz; have hc0 := hb1.cell (p := ⟨w.heap.size, 0, none⟩) (by simp <;> omega); have hc1 := hb1.cell (p := ⟨w.heap.size, 1, none⟩) (by simp <;> omega); have hc2 := hb1.cell (p := ⟨w.heap.size, 2, none⟩) (by simp <;> omega); have hr0 := hb1.cell (p := ⟨w.heap.size + 1, 0, none⟩) (by simp <;> omega); have hr1 := hb1.cell (p := ⟨w.heap.size + 1, 1, none⟩) (by simp <;> omega); have hr2 := hb1.cell (p := ⟨w.heap.size + 1, 2, none⟩) (by simp <;> omega); have hq0 := hb1.frozen (p := ⟨w.heap.size + 1, 0, none⟩) (by simp <;> omega); have hq1 := hb1.frozen (p := ⟨w.heap.size + 1, 1, none⟩) (by simp <;> omega); have hq2 := hb1.frozen (p := ⟨w.heap.size + 1, 2, none⟩) (by simp <;> omega); simp at hc0 hc1 hc2 hr0 hr1 hr2 hq0 hq1 hq2)
    go_region
    go_wp2
    refine bodyPost_ret (v := .tuple #[.agg #[.int .i64 a, .int .i64 t.size, .string (s.extract a.toNat (a + o).toNat)], .int .i64 0]) (by simp [results, Try.results17, go_sem, hr0, hr1, hr2]) rfl ⟨by unfold undoV; rw [if_pos HF.out, HF.out], ?_⟩
    exact (((((((Below.refl _ _).alloc (Nat.le_refl _) _).alloc (by simp) _).trans (hb1.mono (by simp <;> omega))).setCell (by simp) _).setCell (by simp) _).setCell (by simp) _).drew
  · generalize hg : fitN s.size a o t.size = g at h0
    have HF : Hid (fitN s.size a o t.size = g) := hg
    clear hg
    have hne : (g != 0) = true := by simpa using h0
    have HN : Hid (¬ g = 0) := h0
    clear h0
    go_enter Try.func17, Try.ntmps17
    go_wp2_with (go_at_call 21; refine (rfit_any _ _ _ _ _ hs ht ha ho).mono ?_; rw [HF.out]; rintro e w1 ⟨rfl, hb1⟩; have hz := hb1.size; simp at hz; have hr0 := hb1.cell (p := ⟨w.heap.size + 1, 0, none⟩) (by simp <;> omega); have hr1 := hb1.cell (p := ⟨w.heap.size + 1, 1, none⟩) (by simp <;> omega); have hr2 := hb1.cell (p := ⟨w.heap.size + 1, 2, none⟩) (by simp <;> omega); have hq0 := hb1.frozen (p := ⟨w.heap.size + 1, 0, none⟩) (by simp <;> omega); have hq1 := hb1.frozen (p := ⟨w.heap.size + 1, 1, none⟩) (by simp <;> omega); have hq2 := hb1.frozen (p := ⟨w.heap.size + 1, 2, none⟩) (by simp <;> omega); simp at hr0 hr1 hr2 hq0 hq1 hq2)
    refine bodyPost_ret (v := .tuple #[.agg #[.int .i64 0, .int .i64 0, .string ByteArray.empty], .int .i64 g]) (by simp [results, Try.results17, go_sem, hr0, hr1, hr2]; rfl) rfl ⟨by unfold undoV; rw [if_neg (by rw [HF.out]; exact HN.out)], ?_⟩
    exact ((((((Below.refl _ _).alloc (Nat.le_refl _) _).alloc (by simp) _).trans (hb1.mono (by simp <;> omega))).setCell (by simp) _).setCell (by simp) _).setCell (by simp) _
end Go.Proofs.Ytneailhanohdhaa
