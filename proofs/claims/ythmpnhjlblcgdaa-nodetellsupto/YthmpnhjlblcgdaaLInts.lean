/- ints of the laws; the numbers of nodes. -/
import Derived.Test.YthmpnhjlblcgdaaPFind
import Derived.Test.YthmpnhjlblcgdaaPFit
import Derived.Test.YthmpnhjlblcgdaaPPrint
namespace Go.Proofs.Ythmpnhjlblcgdaa
open Go.RowKit

set_option maxRecDepth 100000 in
set_option maxHeartbeats 2000000 in
theorem ints_any (l m : List Int) (la ma : Option Addr) (lc mc : Nat) (w : World) (hl : RowI l la w) (hm : RowI m ma w) (hll : l.length ≤ 140737488351232) (hml : m.length ≤ 140737488351232) :
    Calls Try.prog 26 #[.slice la l.length lc, .slice ma m.length mc] w fun e w' => e = .returned (.bool (decide (l = m))) ∧ Below w.heap.size w w' := by
  by_cases e2 : l.length = m.length
  case neg =>
    have HE : Hid (decide (l = m) = false) := decide_eq_false (fun h => e2 (by rw [h]))
    have e2' : ((l.length : Int) != (m.length : Int)) = true := by simp; omega
    have e2'' : ¬ (l.length : Int) = (m.length : Int) := by omega
    go_enter Try.func26, Try.ntmps26
    go_wp2_with fail
    go_ret
    exact ⟨by rw [HE.out]; rfl, Below.refl _ _⟩
  have e2' : ((l.length : Int) != (m.length : Int)) = false := by simp; omega
  have HLE : Hid (l.length = m.length) := e2
  have HL : Hid (RowI l la w ∧ RowI m ma w) := ⟨hl, hm⟩
  clear hl hm e2
  go_enter Try.func26, Try.ntmps26
  go_wp2_with fail
  clear e2'
  go_loopw [13] (fun iv wr => ∃ (i : Nat), iv = .int .i64 i ∧ i ≤ l.length ∧ Hid (l.take i = m.take i) ∧ Below w.heap.size w wr) (fun i _ => l.length - (intOf i).toNat)
  case atStart => exact ⟨0, rfl, Nat.zero_le _, by show _ = _; simp, Below.refl _ _⟩
  case round =>
    obtain ⟨i, rfl, hi, HF, hB⟩ := hrel
    by_cases hlt : i < l.length
    · have hlt' : i < m.length := by have := HLE.out; omega
      have k1 : (i : Int) < l.length := by omega
      have k2 : (i : Int) < m.length := by omega
      obtain ⟨b, o, rfl, hb, c1⟩ := (HL.out.1.next hB) i l[i] (by simp [hlt])
      obtain ⟨b2, o2, rfl, hb2, c2⟩ := (HL.out.2.next hB) i m[i] (by simp [hlt'])
      by_cases he : l[i] = m[i]
      · have HF2 : Hid (l.take (i + 1) = m.take (i + 1)) := by
          show _ = _
          rw [List.take_succ_eq_append_getElem hlt, List.take_succ_eq_append_getElem hlt', HF.out, he]
        rw [he] at c1
        clear HF HL he
        generalize m[i] = q at *
        go_wp2_with fail
        go_quiet (fail)
        go_wp2_with fail
        exact ⟨⟨i + 1, by go_num, by omega, HF2, below_drewN hB _⟩, by simp [intOf]; omega⟩
      · have HE : Hid (decide (l = m) = false) := decide_eq_false (fun h => he (by subst h; rfl))
        have hne : (l[i] != m[i]) = true := bne_iff_ne.2 he
        clear HF HL he
        generalize m[i] = q at *
        generalize l[i] = r at *
        go_wp2_with fail
        go_quiet (fail)
        go_wp2_with fail
        go_ret
        exact ⟨by rw [HE.out]; rfl, below_drewN hB _⟩
    · have k1 : ¬ (i : Int) < l.length := by omega
      have HE : Hid (decide (l = m) = true) := by
        refine decide_eq_true ?_
        have e := HF.out
        rw [List.take_of_length_le (by omega), List.take_of_length_le (by have := HLE.out; omega)] at e
        exact e
      clear HF HL
      go_wp2_with fail
      go_ret
      exact ⟨by rw [HE.out]; rfl, hB⟩
def maxS (l : List (Nd × Int)) : Int := l.foldl (fun m x => max m x.2) 0
theorem maxD_strip (xs : List Al) : maxD xs = maxS (xs.map stripA) := by
  unfold maxD maxS
  rw [List.foldl_map]
  rfl
end Go.Proofs.Ythmpnhjlblcgdaa
