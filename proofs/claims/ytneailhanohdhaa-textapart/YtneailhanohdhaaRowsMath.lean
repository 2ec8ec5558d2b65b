/- The plain mathematics of rows and points: what the rows of a text are, and that a byte's point and a point's byte are told by them. -/
import Derived.Test.YtneailhanohdhaaDiffs
import Derived.Lib.Bytealg
namespace Go.Proofs.Ytneailhanohdhaa

/-- A row: its number, its first byte, and the place of the byte 10 that ends it (or the text's end). -/
structure Rw where
  n : Nat
  fr : Nat
  to : Nat

def rowsAux : List UInt8 → Nat → Nat → Nat → List Rw
  | [], n, fr, cur => [⟨n, fr, cur⟩]
  | b :: t, n, fr, cur => if b = 10 then ⟨n, fr, cur⟩ :: rowsAux t (n + 1) (cur + 1) (cur + 1) else rowsAux t n fr (cur + 1)

def rowsOf (l : List UInt8) : List Rw := rowsAux l 0 0 0

/-- The point behind the bytes of a row of letters, from a point on. -/
def ptFrom : List UInt8 → Nat → Nat → Nat × Nat
  | [], r, c => (r, c)
  | b :: t, r, c => if b = 10 then ptFrom t (r + 1) 0 else ptFrom t r (c + 1)

theorem rows_none : ∀ (l : List UInt8) (n fr cur : Nat), Lib.indexByte l 10 = -1 → rowsAux l n fr cur = [⟨n, fr, cur + l.length⟩]
  | [], n, fr, cur, _ => by simp [rowsAux]
  | b :: t, n, fr, cur, h => by
    unfold Lib.indexByte at h
    by_cases hb : b = 10
    · simp [hb] at h
    · have hb' : (b == 10) = false := by simpa using hb
      simp only [hb', Bool.false_eq_true, if_false] at h
      have ht : Lib.indexByte t 10 = -1 := by
        by_cases e : Lib.indexByte t 10 = -1
        · exact e
        · have := Lib.indexByte_ge t 10
          rw [if_neg (by simpa using e)] at h
          omega
      rw [rowsAux, if_neg hb, rows_none t n fr (cur + 1) ht]
      simp; omega

theorem rows_some : ∀ (l : List UInt8) (n fr cur k : Nat), Lib.indexByte l 10 = k → rowsAux l n fr cur = ⟨n, fr, cur + k⟩ :: rowsAux (l.drop (k + 1)) (n + 1) (cur + k + 1) (cur + k + 1) ∧ k < l.length
  | [], _, _, _, k, h => by simp [Lib.indexByte] at h
  | b :: t, n, fr, cur, k, h => by
    unfold Lib.indexByte at h
    by_cases hb : b = 10
    · simp [hb] at h
      obtain rfl : k = 0 := by omega
      simp [rowsAux, hb]
    · have hb' : (b == 10) = false := by simpa using hb
      simp only [hb', Bool.false_eq_true, if_false] at h
      by_cases e : Lib.indexByte t 10 = -1
      · rw [if_pos (by simpa using e)] at h; omega
      · rw [if_neg (by simpa using e)] at h
        obtain ⟨j, rfl⟩ : ∃ j, k = j + 1 := by
          have := Lib.indexByte_ge t 10
          exact ⟨k - 1, by omega⟩
        have ih := rows_some t n fr (cur + 1) j (by omega)
        refine ⟨?_, by simp; omega⟩
        rw [rowsAux, if_neg hb, ih.1]
        have e1 : cur + 1 + j = cur + (j + 1) := by omega
        simp [e1]

theorem row_fr : ∀ (l : List UInt8) (n fr cur : Nat) (r : Rw), fr ≤ cur → r ∈ rowsAux l n fr cur → fr ≤ r.fr ∧ r.fr ≤ r.to ∧ r.to ≤ cur + l.length ∧ n ≤ r.n
  | [], n, fr, cur, r, hle, h => by simp [rowsAux] at h; subst h; simp; omega
  | b :: t, n, fr, cur, r, hle, h => by
    rw [rowsAux] at h
    by_cases hb : b = 10
    · rw [if_pos hb] at h
      rcases List.mem_cons.1 h with rfl | h
      · simp; omega
      · have := row_fr t (n + 1) (cur + 1) (cur + 1) r (Nat.le_refl _) h
        simp; omega
    · rw [if_neg hb] at h
      have := row_fr t n fr (cur + 1) r (by omega) h
      simp; omega

theorem find_pt : ∀ (l : List UInt8) (n fr cur x : Nat), fr ≤ cur → fr ≤ x → x ≤ cur + l.length →
    ∃ r, (rowsAux l n fr cur).find? (fun r => decide (x ≤ r.to)) = some r ∧ r.fr ≤ x ∧ (r.n, x - r.fr) = if x ≤ cur then (n, x - fr) else ptFrom (l.take (x - cur)) n (cur - fr)
  | [], n, fr, cur, x, h1, h2, h3 => by
    simp at h3
    exact ⟨⟨n, fr, cur⟩, by simp [rowsAux, h3], h2, by simp [h3]⟩
  | b :: t, n, fr, cur, x, h1, h2, h3 => by
    simp at h3
    by_cases hb : b = 10
    · rw [rowsAux, if_pos hb]
      by_cases hx : x ≤ cur
      · exact ⟨⟨n, fr, cur⟩, by simp [hx], h2, by simp [hx]⟩
      · obtain ⟨r, hr, hf, he⟩ := find_pt t (n + 1) (cur + 1) (cur + 1) x (Nat.le_refl _) (by omega) (by omega)
        refine ⟨r, by rw [List.find?_cons]; simp only [hx, decide_false]; exact hr, hf, ?_⟩
        rw [he, if_neg hx]
        obtain ⟨j, hj⟩ : ∃ j, x - cur = j + 1 := ⟨x - cur - 1, by omega⟩
        rw [hj, List.take_succ_cons, ptFrom, if_pos hb]
        by_cases h4 : x ≤ cur + 1
        · rw [if_pos h4]
          obtain rfl : j = 0 := by omega
          have : x - (cur + 1) = 0 := by omega
          simp [ptFrom, this]
        · rw [if_neg h4]
          have : x - (cur + 1) = j := by omega
          simp [this]
    · rw [rowsAux, if_neg hb]
      obtain ⟨r, hr, hf, he⟩ := find_pt t n fr (cur + 1) x (by omega) h2 (by omega)
      refine ⟨r, hr, hf, ?_⟩
      rw [he]
      by_cases hx : x ≤ cur
      · rw [if_pos hx, if_pos (by omega)]
      · rw [if_neg hx]
        obtain ⟨j, hj⟩ : ∃ j, x - cur = j + 1 := ⟨x - cur - 1, by omega⟩
        rw [hj, List.take_succ_cons, ptFrom, if_neg hb]
        by_cases h4 : x ≤ cur + 1
        · rw [if_pos h4]
          obtain rfl : j = 0 := by omega
          simp [ptFrom]; omega
        · rw [if_neg h4]
          have e1 : x - (cur + 1) = j := by omega
          have e2 : cur + 1 - fr = cur - fr + 1 := by omega
          rw [e1, e2]

/-- The point of byte x is told by the first row that reaches to it. -/
theorem find_point (l : List UInt8) (x : Nat) (h : x ≤ l.length) : ∃ r, (rowsOf l).find? (fun r => decide (x ≤ r.to)) = some r ∧ r.fr ≤ x ∧ (r.n, x - r.fr) = ptFrom (l.take x) 0 0 := by
  obtain ⟨r, hr, hf, he⟩ := find_pt l 0 0 0 x (Nat.le_refl _) (Nat.zero_le _) (by omega)
  refine ⟨r, hr, hf, ?_⟩
  rw [he]
  by_cases hx : x ≤ 0
  · obtain rfl : x = 0 := by omega
    simp [ptFrom]
  · rw [if_neg hx]; simp

theorem find_own : ∀ (l : List UInt8) (n fr cur x : Nat) (r : Rw), fr ≤ cur → r ∈ rowsAux l n fr cur → r.fr ≤ x → x ≤ r.to → (rowsAux l n fr cur).find? (fun r => decide (x ≤ r.to)) = some r
  | [], n, fr, cur, x, r, _, h, h1, h2 => by simp [rowsAux] at h; subst h; simp [rowsAux]; exact h2
  | b :: t, n, fr, cur, x, r, hle, h, h1, h2 => by
    rw [rowsAux] at h ⊢
    by_cases hb : b = 10
    · rw [if_pos hb] at h ⊢
      rcases List.mem_cons.1 h with rfl | h
      · simp at h2 ⊢; simp [h2]
      · have := row_fr t (n + 1) (cur + 1) (cur + 1) r (Nat.le_refl _) h
        rw [List.find?_cons]
        have hx : ¬ x ≤ cur := by omega
        simp only [hx, decide_false]
        exact find_own t (n + 1) (cur + 1) (cur + 1) x r (Nat.le_refl _) h h1 h2
    · rw [if_neg hb] at h ⊢
      exact find_own t n fr (cur + 1) x r (by omega) h h1 h2

/-- There and back: the point of a row's byte is that row and how far into it the byte stands. -/
theorem back_point (l : List UInt8) (r : Rw) (c : Nat) (h : r ∈ rowsOf l) (hc : c ≤ r.to - r.fr) : ptFrom (l.take (r.fr + c)) 0 0 = (r.n, c) ∧ r.fr + c ≤ l.length := by
  have hr := row_fr l 0 0 0 r (Nat.le_refl _) h
  have hf := find_own l 0 0 0 (r.fr + c) r (Nat.le_refl _) h (by omega) (by omega)
  obtain ⟨r', h1, h2, h3⟩ := find_point l (r.fr + c) (by omega)
  rw [rowsOf] at h1
  rw [hf] at h1
  cases h1
  rw [← h3]
  refine ⟨?_, by omega⟩
  simp

theorem find_n : ∀ (l : List UInt8) (n fr cur y : Nat), n ≤ y → (rowsAux l n fr cur).find? (fun r => decide (y ≤ r.n)) = (rowsAux l n fr cur).find? (fun r => decide (r.n = y))
  | [], n, fr, cur, y, h => by
    simp only [rowsAux, List.find?_cons, List.find?_nil]
    by_cases e : n = y
    · simp [e]
    · have h2 : ¬ y ≤ n := by omega
      simp [e, h2]
  | b :: t, n, fr, cur, y, h => by
    rw [rowsAux]
    by_cases hb : b = 10
    · rw [if_pos hb, List.find?_cons, List.find?_cons]
      by_cases e : n = y
      · simp [e]
      · have h2 : ¬ y ≤ n := by omega
        simp only [h2, e, decide_false]
        exact find_n t (n + 1) (cur + 1) (cur + 1) y (by omega)
    · rw [if_neg hb]
      exact find_n t n fr (cur + 1) y h

/-- Offset's answer: the byte, and the error's number. -/
def offN (l : List UInt8) (row col : Int) : Int × Int :=
  if row < 0 ∨ col < 0 then (0, 13) else
  match (rowsOf l).find? (fun r => decide (r.n = row.toNat)) with
  | some r => if col ≤ (r.to : Int) - r.fr then ((r.fr : Int) + col, 0) else (0, 13)
  | none => (0, 13)

/-- PointAt's answer: row, column, and the error's number. -/
def ptN (l : List UInt8) (x : Int) : (Int × Int) × Int :=
  if x < 0 ∨ (l.length : Int) < x then ((0, 0), 13) else (((ptFrom (l.take x.toNat) 0 0).1, (ptFrom (l.take x.toNat) 0 0).2), 0)

theorem there_back (l : List UInt8) (row col : Int) (h : (offN l row col).2 = 0) : ptN l (offN l row col).1 = ((row, col), 0) := by
  unfold offN at h ⊢
  by_cases h1 : row < 0 ∨ col < 0
  · rw [if_pos h1] at h; simp at h
  · rw [if_neg h1] at h ⊢
    cases hf : (rowsOf l).find? (fun r => decide (r.n = row.toNat)) with
    | none => rw [hf] at h; simp at h
    | some r =>
      rw [hf] at h
      simp only at h ⊢
      by_cases h2 : col ≤ (r.to : Int) - r.fr
      · rw [if_pos h2]
        have hm := List.mem_of_find?_eq_some hf
        have hn : r.n = row.toNat := by have := List.find?_some hf; simpa using this
        have hr := row_fr l 0 0 0 r (Nat.le_refl _) hm
        obtain ⟨e1, e2⟩ := back_point l r col.toNat hm (by omega)
        unfold ptN
        have e3 : ((r.fr : Int) + col).toNat = r.fr + col.toNat := by omega
        rw [if_neg (by show ¬ _; omega)]
        simp only [e3, e1, hn]
        have e4 : ((row.toNat : Nat) : Int) = row := by omega
        have e5 : ((col.toNat : Nat) : Int) = col := by omega
        rw [e4, e5]
      · rw [if_neg h2] at h; simp at h
end Go.Proofs.Ytneailhanohdhaa
