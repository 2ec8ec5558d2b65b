/- Machines in one state: small functions. -/
import Derived.Test.YtdalomibilicfaaJDMath
import Derived.Deep.Cut
import Derived.Deep.CutRange
namespace Go.Proofs.Ytdalomibilicfaa
open Go.RowKit

def isD (d : List Ds) (n : Int) : Bool := decide (0 ≤ n ∧ n < d.length)
set_option maxRecDepth 100000 in
set_option maxHeartbeats 800000 in
theorem isState_any (la : Option Addr) (k lc : Nat) (n : Int) (w : World) : Calls Try.prog 38 #[.slice la k lc, .int .i64 n] w fun e w' => e = .returned (.bool (decide (0 ≤ n ∧ n < k))) ∧ w' = w := by
  by_cases h1 : 0 ≤ n
  · have d1 : decide (0 ≤ n) = true := decide_eq_true h1
    have HV : Hid (decide (0 ≤ n ∧ n < k) = decide (n < k)) := by show _ = _; simp [h1]
    go_enter Try.func38, Try.ntmps38
    go_wp2_with fail
    go_ret
    exact ⟨by first | rfl | (rw [HV.out]; rfl), rfl⟩
  · have d1 : decide (0 ≤ n) = false := decide_eq_false h1
    have HV : Hid (decide (0 ≤ n ∧ n < k) = false) := by show _ = _; simp [h1]
    go_enter Try.func38, Try.ntmps38
    go_wp2_with fail
    go_ret
    exact ⟨by first | rfl | (rw [HV.out]; rfl), rfl⟩

def cmpI (a b : Int) : Int := if a < b then -1 else if b < a then 1 else 0
set_option maxRecDepth 100000 in
set_option maxHeartbeats 800000 in
theorem isNaN_any (a : Int) (w : World) : Calls Try.prog 69 #[.int .i64 a] w fun e w' => e = .returned (.bool false) ∧ w' = w := by
  have h : (a != a) = false := by simp
  go_enter Try.func69, Try.ntmps69
  go_wp2_with fail
  go_ret
  exact ⟨rfl, rfl⟩
set_option maxRecDepth 100000 in
set_option maxHeartbeats 1600000 in
theorem cmpC_any (a b : Int) (w : World) : Calls Try.prog 59 #[.int .i64 a, .int .i64 b] w fun e w' => e = .returned (.int .i64 (cmpI a b)) ∧ w' = w := by
  have C1 := isNaN_any a w
  have C2 := isNaN_any b w
  by_cases h1 : a < b
  · have d1 : decide (a < b) = true := decide_eq_true h1
    have HV : Hid (cmpI a b = -1) := by show _ = _; unfold cmpI; rw [if_pos h1]
    go_enter Try.func59, Try.ntmps59
    go_wp2_with fail
    refine C1.mono ?_
    rintro e w1 ⟨rfl, rfl⟩
    go_wp2_with fail
    refine C2.mono ?_
    rintro e w2 ⟨rfl, rfl⟩
    clear C1 C2
    go_wp2_with fail
    go_ret
    exact ⟨by rw [HV.out]; rfl, rfl⟩
  have d1 : decide (a < b) = false := decide_eq_false h1
  by_cases h2 : a > b
  · have d2 : decide (a > b) = true := decide_eq_true h2
    have HV : Hid (cmpI a b = 1) := by show _ = _; unfold cmpI; rw [if_neg h1, if_pos h2]
    go_enter Try.func59, Try.ntmps59
    go_wp2_with fail
    refine C1.mono ?_
    rintro e w1 ⟨rfl, rfl⟩
    go_wp2_with fail
    refine C2.mono ?_
    rintro e w2 ⟨rfl, rfl⟩
    clear C1 C2
    go_wp2_with fail
    go_ret
    exact ⟨by rw [HV.out]; rfl, rfl⟩
  · have d2 : decide (a > b) = false := decide_eq_false h2
    have HV : Hid (cmpI a b = 0) := by show _ = _; unfold cmpI; rw [if_neg h1, if_neg h2]
    go_enter Try.func59, Try.ntmps59
    go_wp2_with fail
    refine C1.mono ?_
    rintro e w1 ⟨rfl, rfl⟩
    go_wp2_with fail
    refine C2.mono ?_
    rintro e w2 ⟨rfl, rfl⟩
    clear C1 C2
    go_wp2_with fail
    go_ret
    exact ⟨by rw [HV.out]; rfl, rfl⟩

theorem cmpI_lt {a b : Int} : cmpI a b < 0 ↔ a < b := by
  unfold cmpI; split
  · simp [*]
  · split <;> simp [*]
theorem cmpI_zero {a b : Int} : cmpI a b = 0 ↔ a = b := by
  unfold cmpI; split
  · constructor
    · intro h; simp at h
    · intro h; omega
  · split
    · constructor
      · intro h; simp at h
      · intro h; omega
    · constructor
      · intro h; omega
      · intro h; rfl

set_option maxRecDepth 100000 in
set_option maxHeartbeats 1600000 in
theorem ledC_any (lo hi tg c : Int) (w : World) : Calls Try.prog 58 #[.agg #[.int .i64 lo, .int .i64 hi, .int .i64 tg], .int .i64 c] w fun e w' => e = .returned (.int .i64 (cmpI hi c)) ∧ Below w.heap.size w w' := by
  have B0 : Below w.heap.size w (w.alloc (Obj.cells #[.int .i64 lo, .int .i64 hi, .int .i64 tg] 39)) := (Below.refl _ _).alloc (Nat.le_refl _) _
  have C1 := cmpC_any hi c (w.alloc (Obj.cells #[.int .i64 lo, .int .i64 hi, .int .i64 tg] 39))
  go_enter Try.func58, Try.ntmps58
  go_wp2_with fail
  refine C1.mono ?_
  rintro e w1 ⟨rfl, rfl⟩
  clear C1
  go_wp2_with fail
  go_ret
  exact ⟨rfl, B0⟩

/-- Few states and arcs. -/
def smallF : List Ds → Int → Int
  | [], n => n
  | x :: l, n => if 0 ≤ n then smallF l (n - 1 - x.arcs.length) else n
def smallD (d : List Ds) : Bool := decide (0 ≤ smallF d 3000) && decide (d.length ≤ 60)
theorem smallF_neg : ∀ (l : List Ds) (n : Int), n < 0 → smallF l n = n
  | [], _, _ => rfl
  | x :: l, n, h => by unfold smallF; rw [if_neg (by omega)]
theorem smallF_len : ∀ (l : List Ds) (n : Int), 0 ≤ smallF l n → ∀ x ∈ l, (x.arcs.length : Int) ≤ n
  | y :: l, n, h, x, hx => by
    have hn : 0 ≤ n := by
      rcases Int.lt_or_le n 0 with hlt | hge
      · rw [smallF_neg _ _ hlt] at h; exact h
      · exact hge
    unfold smallF at h
    rw [if_pos hn] at h
    rcases List.mem_cons.1 hx with rfl | hx
    · rcases Int.lt_or_le (n - 1 - x.arcs.length) 0 with hlt | hge
      · rw [smallF_neg _ _ hlt] at h; omega
      · omega
    · have := smallF_len l _ h x hx; omega
set_option maxRecDepth 100000 in
set_option maxHeartbeats 1600000 in
theorem small_any (l : List Ds) (v : Value) (w : World) (hl : SlD l v w) : Calls Try.prog 4 #[.agg #[v]] w fun e w' => e = .returned (.bool (smallD l)) ∧ Below w.heap.size w w' := by
  have HL : Hid (∀ W, Below w.heap.size w W → SlD l v W) := fun W hb => hl.next hb
  obtain ⟨la, lc, rfl, _, _, _, hlb⟩ := hl
  have B0 := below_box w (.slice la l.length lc) 24
  have c0 : (w.alloc (Obj.cells #[.slice la l.length lc] 24)).cell? ⟨w.heap.size, 0, none⟩ = some (.slice la l.length lc) := by simp
  go_enter Try.func4, Try.ntmps4
  go_wp2_with fail
  generalize w.alloc (Obj.cells #[.slice la l.length lc] 24) = w0 at *
  go_loopw [3, 4] (fun nv iv wr => ∃ (j : Nat) (n : Int), iv = .int .i64 j ∧ nv = .int .i64 n ∧ j ≤ l.length ∧ n ≤ 3000 ∧ -140737488351300 ≤ n ∧ Hid (smallF l 3000 = smallF (l.drop j) n) ∧ wr = w0) (fun _ i _ => l.length - (intOf i).toNat)
  case atStart => exact ⟨0, 3000, rfl, rfl, Nat.zero_le _, by omega, by omega, by show _ = _; simp, rfl⟩
  case round =>
  obtain ⟨j, n, rfl, rfl, hj, hn1, hn2, HF, rfl⟩ := hrel
  by_cases hlt : j < l.length
  case neg =>
    obtain rfl : j = l.length := by omega
    have d1 : decide ((l.length : Int) < l.length) = false := decide_eq_false (by omega)
    have HV : Hid (smallD l = (decide (0 ≤ n) && decide ((l.length : Int) ≤ 60))) := by
      show _ = _
      have e : smallF l 3000 = n := by rw [HF.out, List.drop_of_length_le (Nat.le_refl _)]; rfl
      unfold smallD; rw [e]; congr 1
      rw [Bool.eq_iff_iff, decide_eq_true_eq, decide_eq_true_eq]; omega
    clear HL HF
    by_cases h0 : n ≥ 0
    · have d0 : decide (n ≥ 0) = true := decide_eq_true h0
      have HV2 : Hid (smallD l = decide ((l.length : Int) ≤ 60)) := by show _ = _; rw [HV.out]; simp [h0]
      clear HV
      go_wp2_with fail
      go_ret
      exact ⟨by rw [HV2.out]; rfl, B0⟩
    · have d0 : decide (n ≥ 0) = false := decide_eq_false h0
      have HV2 : Hid (smallD l = false) := by show _ = _; rw [HV.out]; simp [h0]
      clear HV
      go_wp2_with fail
      go_ret
      exact ⟨by rw [HV2.out]; rfl, B0⟩
  have d1 : decide ((j : Int) < l.length) = true := decide_eq_true (by omega)
  by_cases h0 : n ≥ 0
  · have d0 : decide (n ≥ 0) = true := decide_eq_true h0
    obtain ⟨_, _, e0, hal, _⟩ := HL.out _ B0
    cases e0
    obtain ⟨b2, o2, u, rfl, hb2, q0, q1, ⟨aa, ac, rfl, _, _, _, hal2⟩, _⟩ := hal.at (Below.refl _ _) hlt
    have HF2 : Hid (smallF l 3000 = smallF (l.drop (j + 1)) (n - 1 - l[j].arcs.length)) := by
      show _ = _
      rw [HF.out, List.drop_eq_getElem_cons hlt]
      rw [smallF, if_pos h0]
    generalize l[j].arcs.length = k at *
    clear HF hal HL
    go_wp2_with fail
    exact ⟨⟨j + 1, n - 1 - k, by go_num, by go_num, by omega, by omega, by omega, HF2, trivial⟩, by simp [intOf]; omega⟩
  · have d0 : decide (n ≥ 0) = false := decide_eq_false h0
    have HV2 : Hid (smallD l = false) := by
      show _ = _
      unfold smallD
      rw [HF.out, smallF_neg _ _ (by omega)]
      simp [h0]
    clear HF HL
    go_wp2_with fail
    go_ret
    exact ⟨by rw [HV2.out]; rfl, B0⟩
end Go.Proofs.Ytdalomibilicfaa
