/- The law VmSees, walked. -/
import Derived.Test.YthcelkpjhkkogaaDoorAwake
namespace Go.Proofs.YthcelkpjhkkogaaDoor
open Go.Shelf Go.RowKit Go.Lib Go.Proofs

def Bet (m : M) : Prop := m.taken ≤ m.seen ∧ m.seen ≤ m.taken + 1
theorem act_bet {n : Nat} {t : List UInt8} {i : Ins} {m : M} (h : Bet m) : Bet (act n t i m) ∧ m.seen ≤ (act n t i m).seen ∧ (i.op = 1 → (act n t i m).seen = m.taken + 1) := by
  obtain ⟨h1, h2⟩ := h
  unfold act
  repeat' split
  all_goals (refine ⟨⟨?_, ?_⟩, ?_, ?_⟩ <;> simp_all <;> try omega)
theorem act_congr {n : Nat} {t t' : List UInt8} {i : Ins} {m : M} (h : i.op = 1 → m.taken < t.length ∧ m.taken < t'.length ∧ t.getD m.taken 0 = t'.getD m.taken 0) : act n t' i m = act n t i m := by
  unfold act
  by_cases h1 : i.op = 1
  · obtain ⟨a, b, c⟩ := h h1
    rw [if_pos h1, if_pos h1, c]
    simp only [a, b]
  · rw [if_neg h1, if_neg h1]
theorem step_bet {p : List Ins} {t : List UInt8} {m : M} (h : Bet m) : Bet (stepM p t m) ∧ m.seen ≤ (stepM p t m).seen := by
  unfold stepM
  split
  · rename_i i hi
    have := act_bet (n := p.length) (t := t) (i := i) (m := { m with next := m.next + 1 }) h
    exact ⟨this.1, this.2.1⟩
  · exact ⟨h, Nat.le_refl _⟩
theorem run_seen {p : List Ins} {t : List UInt8} : ∀ (k : Nat) (m : M), Bet m → m.seen ≤ (runM p t k m).seen
  | 0, m, _ => Nat.le_refl _
  | k + 1, m, h => by
    rw [runM]
    split
    · exact Nat.le_refl _
    · exact Nat.le_trans (step_bet h).2 (run_seen k _ (step_bet h).1)
theorem runM_congr {p : List Ins} {t t' : List UInt8} : ∀ (k : Nat) (m : M), Bet m → (runM p t k m).seen ≤ t.length → (runM p t k m).seen ≤ t'.length → (∀ j, j < (runM p t k m).seen → t.getD j 0 = t'.getD j 0) → runM p t' k m = runM p t k m
  | 0, m, _, _, _, _ => rfl
  | k + 1, m, h, h1, h2, h3 => by
    rw [runM]
    rw [runM] at h1 h2 h3 ⊢
    split
    · rfl
    · rename_i hs
      rw [if_neg hs] at h1 h2 h3
      have hb := step_bet (p := p) (t := t) h
      have hm := run_seen (p := p) (t := t) k _ hb.1
      have e : stepM p t' m = stepM p t m := by
        unfold stepM
        split
        · rename_i i hi
          apply act_congr
          intro ho
          have hsn : (stepM p t m).seen = m.taken + 1 := by
            unfold stepM
            rw [hi]
            exact (act_bet (n := p.length) (t := t) (i := i) (m := { m with next := m.next + 1 }) h).2.2 ho
          show m.taken < t.length ∧ m.taken < t'.length ∧ t.getD m.taken 0 = t'.getD m.taken 0
          exact ⟨by omega, by omega, h3 m.taken (by omega)⟩
        · rfl
      rw [e]
      exact runM_congr k _ hb.1 h1 h2 h3

theorem bet0 (st : Nat) : Bet ⟨0, 0, 0, st, false⟩ := ⟨Nat.le_refl _, Nat.le_succ _⟩
theorem good0 (p : List Ins) (t : List UInt8) (state : Int) : Good p t ⟨0, 0, 0, (state % 256).toNat, false⟩ := ⟨Nat.zero_le _, Nat.zero_le _, by show (state % 256).toNat < 256; omega, Nat.le_refl _, Nat.zero_le _⟩
theorem valM_seen (m : M) (state : Int) : (valM m state).2.2 = m.seen := by unfold valM; split <;> rfl
theorem runV_zero {p : List Ins} {s : List UInt8} {state : Int} (hf : fitP p = true) : runV p s 0 state = valM (endM p s state) state := by
  unfold runV
  rw [if_pos ⟨hf, Int.le_refl _, by omega⟩]
  rfl
theorem sees_bounds {p : List Ins} {s : List UInt8} {state : Int} (hf : fitP p = true) {n x k : Int} (h : runV p s 0 state = (n, x, k)) : n ≠ 0 ∧ n ≤ s.length ∧ n ≤ k ∧ 0 ≤ k ∧ k ≤ s.length + 1 ∧ 0 ≤ x ∧ x ≤ 255 := by
  rw [runV_zero hf] at h
  have hg := runM_good hf 10000 _ (good0 p s state)
  have hg2 : Good p s (endM p s state) := hg
  generalize endM p s state = m at *
  obtain ⟨g1, g2, g3, g4, g5⟩ := hg2
  unfold valM at h
  split at h
  · rename_i hh
    simp only [Prod.mk.injEq] at h
    obtain ⟨rfl, rfl, rfl⟩ := h
    have := hh.2
    refine ⟨by omega, by omega, by omega, by omega, by omega, by omega, by omega⟩
  · simp only [Prod.mk.injEq] at h
    obtain ⟨rfl, rfl, rfl⟩ := h
    refine ⟨by omega, by omega, by omega, by omega, by omega, by omega, by omega⟩
theorem sees_ahead {p : List Ins} {ahead s : List UInt8} {state : Int} (hf : fitP p = true) : runV p (ahead ++ s) ahead.length state = runV p s 0 state := by
  rw [runV_zero hf]
  unfold runV
  rw [if_pos ⟨hf, by omega, by simp; omega⟩]
  simp
theorem sees_other {p : List Ins} {s other : List UInt8} {state : Int} (hf : fitP p = true) {n x : Int} {k : Nat} (h : runV p s 0 state = (n, x, (k : Int))) (hk : k ≤ s.length) : runV p (s.take k ++ other) 0 state = (n, x, (k : Int)) := by
  rw [runV_zero hf] at h ⊢
  have hs : (endM p s state).seen = k := by
    have := valM_seen (endM p s state) state
    rw [h] at this
    simp only at this
    omega
  have e : endM p (s.take k ++ other) state = endM p s state := by
    unfold endM at hs ⊢
    apply runM_congr
    · exact bet0 _
    · rw [hs]; exact hk
    · rw [hs]; simp; omega
    · intro j hj
      rw [hs] at hj
      simp only [List.getD_eq_getElem?_getD]
      rw [List.getElem?_append_left (by simp; omega), List.getElem?_take, if_pos hj]
  rw [e]
  exact h

set_option maxRecDepth 100000 in
set_option maxHeartbeats 4000000 in
theorem sees_any (p : List Ins) (ao : Option Addr) (cap : Nat) (ahead s other : ByteArray) (state : Int) (w : World) (hV : Vars w) (hc : InsAt p ao w) (hl : p.length ≤ 9223372036854775807) (ha : ahead.size ≤ 140737488351232) (hs : s.size ≤ 140737488351232) (ho : other.size ≤ 140737488351232) :
    Calls Tryd.prog 6 #[.slice ao p.length cap, .string ahead, .string s, .string other, .int .i64 state] w fun e w' => e = .returned (.bool true) ∧ Below w.heap.size w w' := by
  have hfit := refFit_any p ao cap w hc hl
  have haw := fun W (h : Below w.heap.size w W) => awake_any W (hV.next h)
  cases hf : fitP p with
  | false =>
    rw [hf] at hfit
    go_enter Tryd.func6, Tryd.ntmps6
    go_wp2_with (first
      | (go_at_call 15; refine hfit.mono ?_; rintro e w1 ⟨rfl, hb1⟩)
      | (go_at_call 13; refine (haw _ (by assumption)).mono ?_; rintro e w2 ⟨rfl, hb2⟩))
    go_ret
    exact ⟨rfl, below_next hb1 hb2⟩
  | true =>
    rw [hf] at hfit
    have hr1 := fun W (h : Below w.heap.size w W) => vmRun_any p ao cap s 0 state W (hV.next h).forms (hc.next h) hl (by omega)
    have hr2 := fun W (h : Below w.heap.size w W) => vmRun_any p ao cap (ahead ++ s) ahead.size state W (hV.next h).forms (hc.next h) hl (by rw [ByteArray.size_append]; omega)
    obtain ⟨⟨x0, x1, x2⟩, hv0⟩ : ∃ v0, runV p s.data.toList 0 state = v0 := ⟨_, rfl⟩
    have hb := sees_bounds hf hv0
    have e2 : runV p (ahead ++ s).data.toList ahead.size state = (x0, x1, x2) := by
      rw [app_list]
      have := sees_ahead (p := p) (ahead := ahead.data.toList) (s := s.data.toList) (state := state) hf
      rw [hv0] at this
      simpa using this
    rw [hv0] at hr1
    rw [e2] at hr2
    obtain ⟨k, rfl⟩ : ∃ k : Nat, x2 = k := ⟨x2.toNat, by omega⟩
    have hsl : s.data.toList.length = s.size := rfl
    rw [hsl] at hb
    obtain ⟨b1, b2, b3, b4, b5, b6, b7⟩ := hb
    have b1' : (x0 == 0) = false := beq_eq_false_iff_ne.2 b1
    have c2 : ¬ (s.size : Int) < x0 := by omega
    have c3 : ¬ (k : Int) < x0 := by omega
    have c6 : ¬ x1 < 0 := by omega
    have c7 : ¬ (255 : Int) < x1 := by omega
    have hsz2 : ahead.size + s.size ≤ 281474976702464 := by omega
    by_cases hk : k ≤ s.size
    · have hr3 := fun W (h : Below w.heap.size w W) => vmRun_any p ao cap (s.extract 0 k ++ other) 0 state W (hV.next h).forms (hc.next h) hl (by rw [ByteArray.size_append, ByteArray.size_extract]; omega)
      have e3 : runV p (s.extract 0 k ++ other).data.toList 0 state = (x0, x1, (k : Int)) := by
        rw [app_list]
        have := sees_other (p := p) (s := s.data.toList) (other := other.data.toList) hf hv0 (by rw [hsl]; exact hk)
        have e4 : (s.extract 0 k).data.toList = s.data.toList.take k := by
          rw [ByteArray.data_extract]
          simp [List.extract_eq_take_drop]
        rw [e4]
        exact this
      rw [e3] at hr3
      have hk1 : ¬ (s.size : Int) < k := by omega
      have hk2 : ¬ (s.size : Int) + 1 < k := by omega
      have hxsz : (s.extract 0 k).size = k := by rw [ByteArray.size_extract]; omega
      clear hV hc hf hv0 e2 e3 hsl b1
      go_enter Tryd.func6, Tryd.ntmps6
      go_wp2_with (go_at_call 15; refine hfit.mono ?_; rintro e w1 ⟨rfl, hb1⟩)
      refine (hr1 _ hb1).mono ?_
      rintro e w2 ⟨rfl, hb2⟩
      have k2 := below_next hb1 hb2
      go_wp2_with fail
      refine (hr2 _ k2).mono ?_
      rintro e w3 ⟨rfl, hb3⟩
      have k3 := below_next k2 hb3
      go_wp2_with fail
      refine (hr3 _ k3).mono ?_
      rintro e w4 ⟨rfl, hb4⟩
      have k4 := below_next k3 hb4
      go_wp2_with (go_at_call 13; refine (haw _ k4).mono ?_; rintro e w5 ⟨rfl, hb5⟩)
      go_ret
      exact ⟨rfl, below_next k4 hb5⟩
    · have hk1 : (s.size : Int) < k := by omega
      have hk2 : ¬ (s.size : Int) + 1 < k := by omega
      clear hV hc hf hv0 e2 hsl b1
      go_enter Tryd.func6, Tryd.ntmps6
      go_wp2_with (go_at_call 15; refine hfit.mono ?_; rintro e w1 ⟨rfl, hb1⟩)
      refine (hr1 _ hb1).mono ?_
      rintro e w2 ⟨rfl, hb2⟩
      have k2 := below_next hb1 hb2
      go_wp2_with fail
      refine (hr2 _ k2).mono ?_
      rintro e w3 ⟨rfl, hb3⟩
      have k3 := below_next k2 hb3
      go_wp2_with (go_at_call 13; refine (haw _ k3).mono ?_; rintro e w5 ⟨rfl, hb5⟩)
      go_ret
      exact ⟨rfl, below_next k3 hb5⟩
end Go.Proofs.YthcelkpjhkkogaaDoor
