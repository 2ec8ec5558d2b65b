/- PointAt as the document has it: the point of a byte, for every text of at most 140737488351232 bytes and every number. -/
import Derived.Test.YtneailhanohdhaaBoxes
namespace Go.Proofs.Ytneailhanohdhaa
open Go.RowKit

theorem pt_snoc : ∀ (l : List UInt8) (b : UInt8) (r c : Nat), ptFrom (l ++ [b]) r c = if b = 10 then ((ptFrom l r c).1 + 1, 0) else ((ptFrom l r c).1, (ptFrom l r c).2 + 1)
  | [], b, r, c => by simp only [List.nil_append, ptFrom]
  | x :: l, b, r, c => by
    simp only [List.cons_append, ptFrom]
    split
    · exact pt_snoc l b (r + 1) 0
    · exact pt_snoc l b r (c + 1)
theorem pt_le : ∀ (l : List UInt8) (r c : Nat), (ptFrom l r c).1 + (ptFrom l r c).2 ≤ r + c + l.length
  | [], r, c => by simp [ptFrom]
  | x :: l, r, c => by
    simp only [ptFrom, List.length_cons]
    split
    · have := pt_le l (r + 1) 0; omega
    · have := pt_le l r (c + 1); omega
theorem take_at (s : ByteArray) (k : Nat) (h : k < s.size) : s.data.toList.take (k + 1) = s.data.toList.take k ++ [s[k]] := by
  rw [List.take_succ_eq_append_getElem (by simpa using h)]; rfl

structure RpCells (N : Nat) (r c : Value) (W : World) : Prop where
  r0 : W.cell? ⟨N, 0, none⟩ = some (.int .i64 0)
  r1 : W.cell? ⟨N, 1, none⟩ = some (.int .i64 0)
  fr0 : W.frozen? ⟨N, 0, none⟩ = false
  fr1 : W.frozen? ⟨N, 1, none⟩ = false
  q0 : W.cell? ⟨N + 1, 0, none⟩ = some r
  q1 : W.cell? ⟨N + 1, 1, none⟩ = some c
  fq0 : W.frozen? ⟨N + 1, 0, none⟩ = false
  fq1 : W.frozen? ⟨N + 1, 1, none⟩ = false

set_option maxHeartbeats 400000 in
theorem rpoint_out (s : ByteArray) (x : Int) (w : World) (hx : x < 0 ∨ (s.size : Int) < x) :
    Calls Try.prog 10 #[.string s, .int .i64 x] w fun e w' => e = .returned (.tuple #[.agg #[.int .i64 0, .int .i64 0], .int .i64 13]) ∧ Below w.heap.size w w' := by
  have hc : (x < 0 ∧ decide (x < 0) = true) ∨ (¬ x < 0 ∧ (s.size : Int) < x ∧ decide (x < 0) = false) := by
    by_cases h : x < 0
    · exact .inl ⟨h, by simpa using h⟩
    · exact .inr ⟨h, by omega, by simpa using h⟩
  clear hx
  rcases hc with ⟨h1, hd⟩ | ⟨h1, h2, hd⟩
  all_goals
    go_enter Try.func10, Try.ntmps10
    go_wp2
    refine bodyPost_ret (v := .tuple #[.agg #[.int .i64 0, .int .i64 0], .int .i64 13]) (by simp [results, Try.results10, go_sem]) rfl ⟨rfl, ?_⟩
    exact (Below.refl _ _).alloc (Nat.le_refl _) _

set_option maxHeartbeats 1000000 in
theorem rpoint_in (s : ByteArray) (x : Nat) (w : World) (hs : s.size ≤ 140737488351232) (hx : x ≤ s.size) :
    Calls Try.prog 10 #[.string s, .int .i64 x] w fun e w' => e = .returned (.tuple #[.agg #[.int .i64 (ptFrom (s.data.toList.take x) 0 0).1, .int .i64 (ptFrom (s.data.toList.take x) 0 0).2], .int .i64 0]) ∧ Below w.heap.size w w' := by
  have hd : decide ((x : Int) < 0) = false := by rw [decide_eq_false_iff_not]; omega
  go_enter Try.func10, Try.ntmps10
  go_wp2
  go_loopw [7] (fun i wr => ∃ k : Nat, k ≤ x ∧ i = .int .i64 k ∧ RpCells w.heap.size (.int .i64 (ptFrom (s.data.toList.take k) 0 0).1) (.int .i64 (ptFrom (s.data.toList.take k) 0 0).2) wr ∧ Below w.heap.size w wr) (fun i _ => x - (intOf i).toNat)
  case atStart => exact ⟨0, Nat.zero_le _, rfl, by constructor <;> go_simp <;> rfl, ((Below.refl _ _).alloc (Nat.le_refl _) _).alloc (by simp) _⟩
  case round =>
    obtain ⟨k, hk, rfl, hP, hB⟩ := hrel
    have hle := pt_le (s.data.toList.take k) 0 0
    have hl2 : (s.data.toList.take k).length ≤ k := List.length_take_le _ _
    obtain ⟨r, hr⟩ : ∃ r, (ptFrom (s.data.toList.take k) 0 0).1 = r := ⟨_, rfl⟩
    obtain ⟨c, hc⟩ : ∃ c, (ptFrom (s.data.toList.take k) 0 0).2 = c := ⟨_, rfl⟩
    rw [hr, hc] at hP hle
    have HR : Hid ((ptFrom (s.data.toList.take k) 0 0).1 = r) := hr
    have HC : Hid ((ptFrom (s.data.toList.take k) 0 0).2 = c) := hc
    have hrc : r + c ≤ k := by omega
    clear hr hc hle hl2
    obtain ⟨r0, r1, fr0, fr1, q0, q1, fq0, fq1⟩ := hP
    by_cases hlt : k < x
    · have hks : k < s.size := by omega
      have HT : Hid (s.data.toList.take (k + 1) = s.data.toList.take k ++ [s[k]]) := take_at s k hks
      by_cases hn : s[k] = 10
      · have HP : Hid (ptFrom (s.data.toList.take (k + 1)) 0 0 = (r + 1, 0)) := by show _ = _; rw [HT.out, pt_snoc, if_pos hn, HR.out]
        clear HT HR HC
        go_wp2
        refine ⟨⟨k + 1, by omega, by go_num, ?_, ((hB.setCell (by simp) _).setCell (by simp) _).setCell (by simp) _⟩, by simp [intOf]; omega⟩
        rw [HP.out]
        clear HP hn
        constructor <;> go_simp
      · have hn2 : ((s[k].toNat : Int) == 10) = false := by rw [beq_eq_false_iff_ne]; intro e; exact hn (UInt8.toNat_inj.1 (by simpa using (by omega : s[k].toNat = 10)))
        have HP : Hid (ptFrom (s.data.toList.take (k + 1)) 0 0 = (r, c + 1)) := by show _ = _; rw [HT.out, pt_snoc, if_neg hn, HR.out, HC.out]
        clear HT HR HC hn
        go_wp2
        refine ⟨⟨k + 1, by omega, by go_num, ?_, hB.setCell (by simp) _⟩, by simp [intOf]; omega⟩
        rw [HP.out]
        clear HP
        constructor <;> go_simp
    · have hkx : k = x := by omega
      subst hkx
      go_wp2
      refine bodyPost_ret (v := .tuple #[.agg #[.int .i64 r, .int .i64 c], .int .i64 0]) (by simp [results, Try.results10, go_sem, r0, r1]) rfl ⟨by rw [HR.out, HC.out], ?_⟩
      exact (hB.setCell (p := ⟨w.heap.size, 0, none⟩) (Nat.le_refl _) _).setCell (p := ⟨w.heap.size, 1, none⟩) (Nat.le_refl _) _

/-- PointAt as the document has it, for every text and every number. -/
theorem rpoint_any (s : ByteArray) (x : Int) (w : World) (hs : s.size ≤ 140737488351232) :
    Calls Try.prog 10 #[.string s, .int .i64 x] w fun e w' => e = .returned (.tuple #[.agg #[.int .i64 (ptN s.data.toList x).1.1, .int .i64 (ptN s.data.toList x).1.2], .int .i64 (ptN s.data.toList x).2]) ∧ Below w.heap.size w w' := by
  by_cases hx : x < 0 ∨ (s.size : Int) < x
  · refine (rpoint_out s x w hx).mono ?_
    rintro e w' ⟨rfl, hb⟩
    have : ptN s.data.toList x = ((0, 0), 13) := by unfold ptN; rw [if_pos (by simpa using hx)]
    rw [this]
    exact ⟨rfl, hb⟩
  · obtain ⟨k, rfl⟩ := Int.eq_ofNat_of_zero_le (by omega : 0 ≤ x)
    refine (rpoint_in s k w hs (by omega)).mono ?_
    rintro e w' ⟨rfl, hb⟩
    have : ptN s.data.toList k = ((((ptFrom (s.data.toList.take k) 0 0).1 : Int), ((ptFrom (s.data.toList.take k) 0 0).2 : Int)), (0 : Int)) := by unfold ptN; rw [if_neg (by simpa using hx)]; simp
    rw [this]
    exact ⟨rfl, hb⟩
end Go.Proofs.Ytneailhanohdhaa
