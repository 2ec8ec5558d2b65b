/- Offset as the document has it: the byte of a point, for every text of at most 140737488351232 bytes and every point. -/
import Derived.Test.YtneailhanohdhaaBoxes
namespace Go.Proofs.Ytneailhanohdhaa
open Go.RowKit

/-- Offset's answer once more, as the document goes about it. -/
def roffN (o : Option Rw) (col : Int) : Int × Int :=
  match o with
  | some r => if col < 0 ∨ (r.to : Int) - r.fr < col then (0, 13) else ((r.fr : Int) + col, 0)
  | none => (0, 13)

theorem roff_is (l : List UInt8) (row col : Int) : roffN ((rowsOf l).find? (fun r => decide ((r.n : Int) = row))) col = offN l row col := by
  unfold offN
  by_cases hr : row < 0
  · rw [if_pos (.inl hr), List.find?_eq_none.2 (fun z _ => by simp; omega)]
    rfl
  · have e : (fun r : Rw => decide ((r.n : Int) = row)) = (fun r : Rw => decide (r.n = row.toNat)) := by
      funext r
      exact decide_eq_decide.2 (by omega)
    rw [e]
    by_cases hc : col < 0
    · rw [if_pos (.inr hc)]
      cases (rowsOf l).find? (fun r => decide (r.n = row.toNat)) with
      | none => rfl
      | some r => simp [roffN, hc]
    · rw [if_neg (by omega)]
      cases (rowsOf l).find? (fun r => decide (r.n = row.toNat)) with
      | none => rfl
      | some r =>
        simp only [roffN]
        by_cases h : col ≤ (r.to : Int) - r.fr
        · rw [if_neg (by omega), if_pos h]
        · rw [if_pos (by omega), if_neg h]

theorem rows_skip {s : ByteArray} {j m f : Nat} (hj : j < s.size) (h : ¬ s[j] = 10) : rowsAux (s.data.toList.drop j) m f j = rowsAux (s.data.toList.drop (j + 1)) m f (j + 1) := by
  rw [drop_at s j hj, rowsAux, if_neg h]
theorem rows_cut {s : ByteArray} {j m f : Nat} (hj : j < s.size) (h : s[j] = 10) : rowsAux (s.data.toList.drop j) m f j = ⟨m, f, j⟩ :: rowsAux (s.data.toList.drop (j + 1)) (m + 1) (j + 1) (j + 1) := by
  rw [drop_at s j hj, rowsAux, if_pos h]
theorem rows_last {s : ByteArray} {j m f : Nat} (hj : j = s.size) : rowsAux (s.data.toList.drop j) m f j = [⟨m, f, j⟩] := by
  rw [List.drop_of_length_le (by simp; omega), rowsAux]

theorem ret_ii' {a b c d : Int} (h : (a, b) = (c, d)) : Ending.returned (.tuple #[.int .i64 a, .int .i64 b]) = .returned (.tuple #[.int .i64 c, .int .i64 d]) := by cases h; rfl

set_option maxHeartbeats 2000000 in
theorem roff_any (s : ByteArray) (r c : Int) (w : World) (hs : s.size ≤ 140737488351232) (hr : I64 r) (hc : I64 c) :
    Calls Try.prog 12 #[.string s, .agg #[.int .i64 r, .int .i64 c]] w fun e w' => e = .returned (.tuple #[.int .i64 (offN s.data.toList r c).1, .int .i64 (offN s.data.toList r c).2]) ∧ Below w.heap.size w w' := by
  obtain ⟨hr1, hr2⟩ := hr
  obtain ⟨hc1, hc2⟩ := hc
  go_enter Try.func12, Try.ntmps12
  go_wp2
  go_loop [6, 7, 8] (fun m f i => ∃ (M F J : Nat), m = .int .i64 M ∧ f = .int .i64 F ∧ i = .int .i64 J ∧ M ≤ J ∧ F ≤ J ∧
      ((J ≤ s.size ∧ (rowsOf s.data.toList).find? (fun z => decide ((z.n : Int) = r)) = (rowsAux (s.data.toList.drop J) M F J).find? (fun z => decide ((z.n : Int) = r))) ∨
       (J = s.size + 1 ∧ (rowsOf s.data.toList).find? (fun z => decide ((z.n : Int) = r)) = none))) (fun _ _ i => s.size + 1 - (intOf i).toNat)
  case atStart => exact ⟨0, 0, 0, rfl, rfl, rfl, Nat.le_refl _, Nat.le_refl _, .inl ⟨Nat.zero_le _, by simp [rowsOf]⟩⟩
  case round =>
    obtain ⟨M, F, J, rfl, rfl, rfl, hM, hF, hrel⟩ := hrel
    rcases hrel with ⟨hJ, hf⟩ | ⟨hJ, hf⟩
    · have HF : Hid ((rowsOf s.data.toList).find? (fun z => decide ((z.n : Int) = r)) = (rowsAux (s.data.toList.drop J) M F J).find? (fun z => decide ((z.n : Int) = r))) := hf
      clear hf
      by_cases hskip : ∃ h : J < s.size, ¬ s[J] = 10
      · obtain ⟨hlt, hne⟩ := hskip
        have hd : decide ((J : Int) < s.size) = true := by rw [decide_eq_true_iff]; omega
        have hn2 : ((s[J].toNat : Int) != 10) = true := by rw [bne_iff_ne]; intro e; exact hne (UInt8.toNat_inj.1 (by simpa using (by omega : s[J].toNat = 10)))
        have HG : Hid ((rowsOf s.data.toList).find? (fun z => decide ((z.n : Int) = r)) = (rowsAux (s.data.toList.drop (J + 1)) M F (J + 1)).find? (fun z => decide ((z.n : Int) = r))) := by
          show _ = _
          rw [HF.out, rows_skip hlt hne]
        clear HF
        go_wp2
        exact ⟨⟨M, F, J + 1, rfl, rfl, by go_num, by omega, by omega, .inl ⟨by omega, HG.out⟩⟩, by simp [intOf]; omega⟩
      · -- a row ends here
        have hcase : (∃ h : J < s.size, s[J] = 10 ∧ decide ((J : Int) < s.size) = true ∧ ((s[J].toNat : Int) != 10) = false) ∨ (¬ J < s.size ∧ decide ((J : Int) < s.size) = false) := by
          by_cases h : J < s.size
          · refine .inl ⟨h, ?_⟩
            have h10 : s[J] = 10 := by
              by_cases e : s[J] = 10
              · exact e
              · exact absurd ⟨h, e⟩ hskip
            exact ⟨h10, by rw [decide_eq_true_iff]; omega, by rw [h10]; rfl⟩
          · exact .inr ⟨h, by rw [decide_eq_false_iff_not]; omega⟩
        have hrest : ∃ rest, rowsAux (s.data.toList.drop J) M F J = ⟨M, F, J⟩ :: rest := by
          rcases hcase with ⟨h, h10, _⟩ | ⟨h, _⟩
          · exact ⟨_, rows_cut h h10⟩
          · exact ⟨_, rows_last (by omega)⟩
        by_cases hMr : (M : Int) = r
        · -- the row that is asked for
          have HG : Hid (offN s.data.toList r c = roffN (some ⟨M, F, J⟩) c) := by
            show _ = _
            obtain ⟨rest, hrest⟩ := hrest
            rw [← roff_is, HF.out, hrest]
            simp [hMr]
          have hb : ((M : Int) == r) = true := by simpa using hMr
          clear HF hskip hrest
          have HM : Hid ((M : Int) = r) := hMr
          clear hMr
          have hc3 : (c < 0 ∧ decide (c < 0) = true) ∨ (¬ c < 0 ∧ (J : Int) - F < c ∧ decide (c < 0) = false) ∨ (¬ c < 0 ∧ ¬ (J : Int) - F < c ∧ decide (c < 0) = false) := by
            by_cases h : c < 0
            · exact .inl ⟨h, by simpa using h⟩
            · by_cases h2 : (J : Int) - F < c
              · exact .inr (.inl ⟨h, h2, by simpa using h⟩)
              · exact .inr (.inr ⟨h, h2, by simpa using h⟩)
          rcases hcase with ⟨hlt, h10, hd, hn⟩ | ⟨hlt, hd⟩
          all_goals
            rcases hc3 with ⟨k1, k2⟩ | ⟨k1, k2, k3⟩ | ⟨k1, k2, k3⟩
            all_goals
              go_wp2
              go_ret2
              exact ⟨ret_ii' (by rw [HG.out]; unfold roffN; simp only; first | (rw [if_pos (by omega)]; done) | (rw [if_neg (by omega)]; done)), (Below.refl _ _).alloc (Nat.le_refl _) _⟩
        · have hb : ((M : Int) == r) = false := by simpa using hMr
          rcases hcase with ⟨hlt, h10, hd, hn⟩ | ⟨hlt, hd⟩
          · have HG : Hid ((rowsOf s.data.toList).find? (fun z => decide ((z.n : Int) = r)) = (rowsAux (s.data.toList.drop (J + 1)) (M + 1) (J + 1) (J + 1)).find? (fun z => decide ((z.n : Int) = r))) := by
              show _ = _
              rw [HF.out, rows_cut hlt h10, List.find?_cons]
              simp [hMr]
            clear HF hskip hrest
            go_wp2
            exact ⟨⟨M + 1, J + 1, J + 1, by go_num, by go_num, by go_num, by omega, by omega, .inl ⟨by omega, HG.out⟩⟩, by simp [intOf]; omega⟩
          · have HG : Hid ((rowsOf s.data.toList).find? (fun z => decide ((z.n : Int) = r)) = none) := by
              show _ = _
              rw [HF.out, rows_last (by omega)]
              simp [hMr]
            clear HF hskip hrest
            go_wp2
            exact ⟨⟨M + 1, J + 1, J + 1, by go_num, by go_num, by go_num, by omega, by omega, .inr ⟨by omega, HG.out⟩⟩, by simp [intOf]; omega⟩
    · have HG : Hid (offN s.data.toList r c = (0, 13)) := by
        show _ = _
        rw [← roff_is, hf]; rfl
      clear hf
      go_wp2
      go_ret2
      exact ⟨ret_ii' (by rw [HG.out]), (Below.refl _ _).alloc (Nat.le_refl _) _⟩
end Go.Proofs.Ytneailhanohdhaa
