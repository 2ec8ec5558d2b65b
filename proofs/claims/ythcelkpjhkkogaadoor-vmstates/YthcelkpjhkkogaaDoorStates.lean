/- The law VmStates, walked. -/
import Derived.Test.YthcelkpjhkkogaaDoorAwake
namespace Go.Proofs.YthcelkpjhkkogaaDoor
open Go.Shelf Go.RowKit Go.Lib Go.Proofs

theorem act_state {n : Nat} {t : List UInt8} {i : Ins} {m : M} (h3 : i.op ≠ 3) (h4 : i.op ≠ 4) : (act n t i m).state = m.state := by
  unfold act
  repeat' split
  all_goals first | rfl | (exfalso; omega)
theorem runM_state {p : List Ins} {t : List UInt8} (h : ∀ i ∈ p, i.op ≠ 3 ∧ i.op ≠ 4) : ∀ (k : Nat) (m : M), (runM p t k m).state = m.state
  | 0, m => rfl
  | k + 1, m => by
    rw [runM]
    split
    · rfl
    · rw [runM_state h k]
      unfold stepM
      split
      · rename_i i hi
        have := h i (List.mem_of_getElem? hi)
        rw [act_state this.1 this.2]
      · rfl
theorem runV_mod (p : List Ins) (s : List UInt8) (a state : Int) : runV p s a (state % 256) = runV p s a state := by
  unfold runV valM endM
  rw [Int.emod_emod_of_dvd state (Int.dvd_refl 256)]
theorem runV_still {p : List Ins} {s : List UInt8} {a state : Int} (hf : fitP p = true) (h0 : 0 ≤ a) (h1 : a ≤ s.length) (h : ∀ i ∈ p, i.op ≠ 3 ∧ i.op ≠ 4) : (runV p s a state).2.1 = state % 256 := by
  unfold runV
  rw [if_pos ⟨hf, h0, h1⟩]
  unfold valM
  split
  · show ((endM p (s.drop a.toNat) state).state : Int) = _
    unfold endM
    rw [runM_state h]
    show ((state % 256).toNat : Int) = _
    omega
  · rfl

theorem mod_form (state : Int) : wrap64 ((IntKind.u64.wrap state).tmod 256) = state % 256 := by
  have h1 : IntKind.u64.wrap state = state % 18446744073709551616 := by
    simp [IntKind.wrap]
    try rfl
  rw [h1, Int.tmod_eq_emod_of_nonneg (Int.emod_nonneg _ (by decide)), Int.emod_emod_of_dvd state (by decide : (256 : Int) ∣ 18446744073709551616)]
  exact IntWalk.wrap64_in _ (by omega)

set_option maxRecDepth 100000 in
set_option maxHeartbeats 4000000 in
theorem states_any (p : List Ins) (ao : Option Addr) (cap : Nat) (s : ByteArray) (a state : Int) (w : World) (hV : Vars w) (hc : InsAt p ao w) (hl : p.length ≤ 9223372036854775807) (hs : s.size ≤ 9223372036854775806) :
    Calls Tryd.prog 7 #[.slice ao p.length cap, .string s, .int .i64 a, .int .i64 state] w fun e w' => e = .returned (.bool true) ∧ Below w.heap.size w w' := by
  have hfit := refFit_any p ao cap w hc hl
  have haw := fun W (h : Below w.heap.size w W) => awake_any W (hV.next h)
  cases hf : fitP p with
  | false =>
    rw [hf] at hfit
    go_enter Tryd.func7, Tryd.ntmps7
    go_wp2_with (first
      | (go_at_call 15; refine hfit.mono ?_; rintro e w1 ⟨rfl, hb1⟩)
      | (go_at_call 13; refine (haw _ (by assumption)).mono ?_; rintro e w2 ⟨rfl, hb2⟩))
    go_ret
    exact ⟨rfl, below_next hb1 hb2⟩
  | true =>
    rw [hf] at hfit
    have hr1 := fun W (h : Below w.heap.size w W) => vmRun_any p ao cap s a state W (hV.next h).forms (hc.next h) hl hs
    have hr2 := fun W (h : Below w.heap.size w W) => vmRun_any p ao cap s a (state % 256) W (hV.next h).forms (hc.next h) hl hs
    rw [runV_mod] at hr2
    obtain ⟨v0, hv0⟩ : ∃ v0, runV p s.data.toList a state = v0 := ⟨_, rfl⟩
    rw [hv0] at hr1 hr2
    have HV : Hid (runV p s.data.toList a state = v0) := hv0
    obtain ⟨x0, x1, x2⟩ := v0
    have hw64 : (state % 18446744073709551616) % 256 = state % 256 := Int.emod_emod_of_dvd state (by decide)
    go_enter Tryd.func7, Tryd.ntmps7
    go_wp2_with (first | (go_at_call 15; refine hfit.mono ?_; rintro e w1 ⟨rfl, hb1⟩))
    refine (hr1 _ hb1).mono ?_
    rintro e w2 ⟨rfl, hb2⟩
    have k2 := below_next hb1 hb2
    go_wp2_with fail
    rw [mod_form]
    refine (hr2 _ k2).mono ?_
    rintro e w3 ⟨rfl, hb3⟩
    have k3 := below_next k2 hb3
    clear hr1 hr2 hfit hw64 hb1 hb2 hb3 k2
    go_wp2_with fail
    go_loopw [57] (fun c wr => ∃ j : Nat, c = .int .i64 j ∧ j ≤ p.length ∧ Below w.heap.size w wr ∧ Hid (∀ k, k < j → ∀ i, p[k]? = some i → i.op ≠ 3 ∧ i.op ≠ 4)) (fun c _ => p.length - (intOf c).toNat)
    case atStart => exact ⟨0, rfl, Nat.zero_le _, k3, fun k hk => absurd hk (Nat.not_lt_zero _)⟩
    case round =>
      clear k3
      obtain ⟨j, rfl, hj, B1, HA⟩ := hrel
      by_cases hlt : j < p.length
      · obtain ⟨b, off, rfl, hb, e0, e1, e2, e3⟩ := hc.at B1 hlt
        have hbr : b < wr.heap.size := Nat.lt_of_lt_of_le hb B1.size
        have k1 : (j : Int) < p.length := by omega
        have HR : Hid (p[j]? = some p[j]) := by show _ = _; simp [hlt]
        generalize p[j] = i at *
        obtain ⟨o, x, y, z⟩ := i
        simp only at e0 e1 e2 e3
        by_cases ho : o = 3 ∨ o = 4
        · have ho2 : o = 3 ∨ (¬ o = 3 ∧ o = 4) := by omega
          have haw2 := haw _ (B1.alloc B1.size (.cells #[.int .i64 o, .int .i64 x, .int .i64 y, .int .i64 z] 39))
          clear hc haw HA hV
          rcases ho2 with rfl | ⟨h3, rfl⟩
          all_goals
            go_wp2_with (go_at_call 13; refine haw2.mono ?_; rintro e w4 ⟨rfl, hb4⟩)
            go_ret
            exact ⟨rfl, below_next (B1.alloc B1.size _) hb4⟩
        · have h3 : ¬ o = 3 := by omega
          have h4 : ¬ o = 4 := by omega
          have HA2 : Hid (∀ k, k < j + 1 → ∀ i, p[k]? = some i → i.op ≠ 3 ∧ i.op ≠ 4) := fun k hk i hi => by
            by_cases e : k = j
            · subst e
              rw [HR.out] at hi
              cases hi
              exact ⟨h3, h4⟩
            · exact HA.out k (by omega) i hi
          have h3' : (o == 3) = false := beq_eq_false_iff_ne.2 h3
          have h4' : (o == 4) = false := beq_eq_false_iff_ne.2 h4
          clear hc haw HA hV h3 h4 ho
          go_wp2_with fail
          exact ⟨⟨j + 1, by go_num, by omega, B1.alloc B1.size _, HA2⟩, by simp [intOf]; omega⟩
      · have k1 : ¬ (j : Int) < p.length := by omega
        have HX : Hid (0 ≤ a → a ≤ s.size → x1 = state % 256) := fun h0 h1 => by
          have := runV_still (s := s.data.toList) (a := a) (state := state) hf h0 (by simpa using h1) (fun i hi => by
            obtain ⟨k, hk, rfl⟩ := List.mem_iff_getElem.1 hi
            exact HA.out k (by omega) p[k] (by simp [hk]))
          rw [HV.out] at this
          exact this
        have haw2 := haw _ B1
        have hmf := mod_form state
        clear hc haw HA hV
        have hcase : a < 0 ∨ (¬ a < 0 ∧ (s.size : Int) < a) ∨ (¬ a < 0 ∧ ¬ (s.size : Int) < a ∧ x1 = state % 256) := by
          by_cases q1 : a < 0
          · exact .inl q1
          · by_cases q2 : (s.size : Int) < a
            · exact .inr (.inl ⟨q1, q2⟩)
            · exact .inr (.inr ⟨q1, q2, HX.out (by omega) (by omega)⟩)
        clear HX HV hv0
        rcases hcase with q1 | ⟨q1, q2⟩ | ⟨q1, q2, rfl⟩
        all_goals
          go_wp2_with (go_at_call 13; refine haw2.mono ?_; rintro e w4 ⟨rfl, hb4⟩)
        all_goals
          go_ret
          exact ⟨rfl, below_next B1 hb4⟩
end Go.Proofs.YthcelkpjhkkogaaDoor
