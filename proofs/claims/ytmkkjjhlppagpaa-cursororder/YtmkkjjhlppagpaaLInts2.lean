/- ints of the law, over rows of any length. -/
import Derived.Test.YtmkkjjhlppagpaaLAwake
namespace Go.Proofs.Ytmkkjjhlppagpaa
open Go.RowKit

set_option maxRecDepth 100000 in
set_option maxHeartbeats 2000000 in
theorem ints2_any (l m : List Int) (la ma : Option Addr) (lc mc : Nat) (w : World) (hl : RowI l la w) (hm : RowI m ma w) (hll : l.length ≤ 9223372036854775807) (hml : m.length ≤ 9223372036854775807) :
    Calls Try.prog 12 #[.slice la l.length lc, .slice ma m.length mc] w fun e w' => e = .returned (.bool (decide (l = m))) ∧ Below w.heap.size w w' := by
  by_cases e2 : l.length = m.length
  case neg =>
    have HE : Hid (decide (l = m) = false) := decide_eq_false (fun h => e2 (by rw [h]))
    have e2' : ((l.length : Int) != (m.length : Int)) = true := by simp; omega
    have e2'' : ¬ (l.length : Int) = (m.length : Int) := by omega
    go_enter Try.func12, Try.ntmps12
    go_wp2_with fail
    go_ret
    exact ⟨by rw [HE.out]; rfl, Below.refl _ _⟩
  have e2' : ((l.length : Int) != (m.length : Int)) = false := by simp; omega
  have HLE : Hid (l.length = m.length) := e2
  have HL : Hid (RowI l la w ∧ RowI m ma w) := ⟨hl, hm⟩
  clear hl hm e2
  go_enter Try.func12, Try.ntmps12
  go_wp2_with fail
  clear e2'
  go_loopw [13] (fun iv wr => ∃ (i : Nat), iv = .int .i64 i ∧ i ≤ l.length ∧ Hid (l.take i = m.take i) ∧ Below w.heap.size w wr) (fun i _ => l.length - (intOf i).toNat)
  case atStart => exact ⟨0, rfl, Nat.zero_le _, by show _ = _; simp, Below.refl _ _⟩
  case round =>
    obtain ⟨i, rfl, hi, HF, hB⟩ := hrel
    by_cases hlt : i < l.length
    · have hlt' : i < m.length := by have := HLE.out; omega
      have k1 : (i : Int) < l.length := by omega
      have k2 : (i : Int) < m.length := by omega
      obtain ⟨b, o, rfl, hb, c1⟩ := (HL.out.1.next hB) i l[i] (by simp [hlt])
      obtain ⟨b2, o2, rfl, hb2, c2⟩ := (HL.out.2.next hB) i m[i] (by simp [hlt'])
      by_cases he : l[i] = m[i]
      · have HF2 : Hid (l.take (i + 1) = m.take (i + 1)) := by
          show _ = _
          rw [List.take_succ_eq_append_getElem hlt, List.take_succ_eq_append_getElem hlt', HF.out, he]
        rw [he] at c1
        clear HF HL he
        generalize m[i] = q at *
        go_wp2_with fail
        go_quiet (fail)
        go_wp2_with fail
        exact ⟨⟨i + 1, by go_num, by omega, HF2, below_drewN hB _⟩, by simp [intOf]; omega⟩
      · have HE : Hid (decide (l = m) = false) := decide_eq_false (fun h => he (by subst h; rfl))
        have hne : (l[i] != m[i]) = true := bne_iff_ne.2 he
        clear HF HL he
        generalize m[i] = q at *
        generalize l[i] = r at *
        go_wp2_with fail
        go_quiet (fail)
        go_wp2_with fail
        go_ret
        exact ⟨by rw [HE.out]; rfl, below_drewN hB _⟩
    · have k1 : ¬ (i : Int) < l.length := by omega
      have HE : Hid (decide (l = m) = true) := by
        refine decide_eq_true ?_
        have e := HF.out
        rw [List.take_of_length_le (by omega), List.take_of_length_le (by have := HLE.out; omega)] at e
        exact e
      clear HF HL
      go_wp2_with fail
      go_ret
      exact ⟨by rw [HE.out]; rfl, hB⟩

/-- ints, over rows that are read. -/
theorem ints_is (l m : List Int) (lv mv : Value) (w : World) (hl : SlP l lv w) (hm : SlP m mv w) :
    Calls Try.prog 12 #[lv, mv] w fun e w' => e = .returned (.bool (decide (l = m))) ∧ Below w.heap.size w w' := by
  obtain ⟨la, lc, rfl, h1, _, h3, h4⟩ := hl
  obtain ⟨ma, mc, rfl, h2, _, h5, h6⟩ := hm
  exact ints2_any l m la ma lc mc w h1 h2 (by omega) (by omega)
theorem GivesP.sl {B : Nat} {r : Option (List Int)} {e : Ending} {W : World} (h : GivesP B r e W) : ∃ v, e = .returned (.tuple #[v, .bool r.isSome]) ∧ SlP (r.getD []) v W := by
  obtain ⟨v, h1, h2⟩ := h
  exact ⟨v, h1, SlP.of_own h2⟩
end Go.Proofs.Ytmkkjjhlppagpaa
