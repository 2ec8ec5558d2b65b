/- Run of the program as a value. -/
import Derived.Test.YtggehnnbgeffpaaDoorRun
namespace Go.Proofs.YtggehnnbgeffpaaDoor
open Go.Shelf Go.RowKit Go.Lib Go.Proofs

theorem ex_tail (s : ByteArray) (k : Nat) : (s.extract k s.size).data.toList = s.data.toList.drop k := by
  rw [ByteArray.data_extract]
  simp
  rw [List.take_of_length_le (by simp)]
theorem stepM_good {p : List Ins} {t : List UInt8} {m : M} (hf : fitP p = true) (h : Good p t m) : Good p t (stepM p t m) := by
  unfold stepM
  split
  · rename_i i hi
    exact act_good (fitP_mem hf (List.mem_of_getElem? hi)) ⟨by have := (List.getElem?_eq_some_iff.1 hi).1; exact this, h.tk, h.st, h.ts, h.sn⟩
  · exact h
theorem runM_good {p : List Ins} {t : List UInt8} (hf : fitP p = true) : ∀ (k : Nat) (m : M), Good p t m → Good p t (runM p t k m)
  | 0, m, h => h
  | k + 1, m, h => by
    rw [runM]
    split
    · exact h
    · exact runM_good hf k _ (stepM_good hf h)
def endM (p : List Ins) (t : List UInt8) (state : Int) : M := runM p t 10000 ⟨0, 0, 0, (state % 256).toNat, false⟩
def valM (m : M) (state : Int) : Int × Int × Int := if m.found = true ∧ m.taken ≠ 0 then (m.taken, m.state, m.seen) else (-1, state % 256, m.seen)
def runV (p : List Ins) (s : List UInt8) (a state : Int) : Int × Int × Int :=
  if fitP p = true ∧ 0 ≤ a ∧ a ≤ s.length then valM (endM p (s.drop a.toNat) state) state else (-1, 0, 0)
abbrev tup (v : Int × Int × Int) : Value := .tuple #[.int .i64 v.1, .int .i64 v.2.1, .int .i64 v.2.2]

theorem InsAt.grown {es : List Ins} {ao : Option Addr} {w W W' : World} {B : Nat} (h : InsAt es ao w) (hB : w.heap.size ≤ B) (h1 : Below w.heap.size w W) (hg : W.grownBy W' (some B)) : InsAt es ao W' := fun i r hr => by
  obtain ⟨b, off, h0, hb, _⟩ := h i r hr
  have hbel : Below w.heap.size w W' := h1.trans (grown_below hg hB h1.size)
  exact h.next hbel i r hr

set_option maxRecDepth 100000 in
set_option maxHeartbeats 2000000 in
theorem vmRun_any (p : List Ins) (ao : Option Addr) (cap : Nat) (s : ByteArray) (a state : Int) (w : World) (hF : FormsAt w) (hc : InsAt p ao w) (hl : p.length ≤ 9223372036854775807) (hs : s.size ≤ 9223372036854775806) :
    Calls Tryd.prog 16 #[.slice ao p.length cap, .string s, .int .i64 a, .int .i64 state] w fun e w' => e = .returned (tup (runV p s.data.toList a state)) ∧ Below w.heap.size w w' := by
  have hfit := fun W (h : Below w.heap.size w W) => fit_any p ao cap W (hF.next h) (hc.next h) hl
  by_cases hcond : fitP p = true ∧ 0 ≤ a ∧ a ≤ s.size
  · obtain ⟨h1, h2, h3⟩ := hcond
    obtain ⟨k, rfl⟩ : ∃ k : Nat, a = k := ⟨a.toNat, by omega⟩
    rw [h1] at hfit
    have k1 : ¬ (k : Int) < 0 := by omega
    have k2 : ¬ (s.size : Int) < k := by omega
    go_enter Tryd.func16, Tryd.ntmps16
    go_wp2_with (go_at_call 14; refine (hfit _ (Below.refl _ _)).mono ?_; rintro e w1 ⟨rfl, hb⟩)
    obtain ⟨st, hst⟩ : ∃ st : Nat, state % 256 = st := ⟨(state % 256).toNat, by omega⟩
    rw [hst]
    have hst2 : st < 256 := by omega
    have hv : runV p s.data.toList k state = valM (runM p (s.extract k s.size).data.toList 10000 ⟨0, 0, 0, st, false⟩) state := by
      unfold runV endM
      rw [if_pos ⟨h1, h2, by simpa using h3⟩, ex_tail, hst]
      rfl
    have hlw := fitP_len h1
    have htz : (s.extract k s.size).size ≤ 9223372036854775806 := by rw [ByteArray.size_extract]; omega
    have hM0 : MAt w1.heap.size (.slice ao p.length cap) (s.extract k s.size) ⟨0, 0, 0, st, false⟩ (w1.alloc (.cells #[.slice ao p.length cap, .int .i64 0, .string (s.extract k s.size), .int .i64 0, .int .i64 0, .int .u8 st, .bool false] 70)) := by
      constructor <;> (go_simp)
    have hcon := run_any p (s.extract k s.size) w1.heap.size ao cap ⟨0, 0, 0, st, false⟩ _ h1 htz hM0 ⟨Nat.zero_le _, Nat.zero_le _, hst2, Nat.le_refl _, Nat.zero_le _⟩ (fun W hg => (hc.next hb).grown (Nat.le_refl _) ((Below.refl _ _).alloc (Nat.le_refl _) _) hg)
    refine hcon.mono ?_
    rintro e w2 ⟨rfl, hg, hM⟩
    have HB : Hid (Below w.heap.size w w2) := hb.trans ((((Below.refl _ w1).alloc (Nat.le_refl _) _).trans (grown_below hg (Nat.le_refl _) (by simp))).mono hb.size)
    have hms := (runM_good h1 10000 _ (⟨Nat.zero_le _, Nat.zero_le _, hst2, Nat.le_refl _, Nat.zero_le _⟩ : Good p (s.extract k s.size).data.toList ⟨0, 0, 0, st, false⟩)).st
    generalize hm : runM p (s.extract k s.size).data.toList 10000 ⟨0, 0, 0, st, false⟩ = m at *
    have HV : Hid (runV p s.data.toList k state = valM m state) := hv
    have HS : Hid (state % 256 = st) := hst
    obtain ⟨c0, c1, c2, c3, c4, c5, c6, f1, f3, f4, f5, f6, lt⟩ := hM
    clear hcon hM0 hv hm hfit hc hF hb hg
    generalize w1.heap.size = B at *
    by_cases hfd : m.found = true ∧ m.taken ≠ 0
    · obtain ⟨g1, g2⟩ := hfd
      have g3 : ¬ (m.taken : Int) = 0 := by omega
      rw [g1] at c6
      have HE : Hid (valM m state = ((m.taken : Int), (m.state : Int), (m.seen : Int))) := if_pos (And.intro g1 g2)
      go_wp2_with fail
      go_quiet (fail)
      go_wp2_with fail
      refine bodyPost_ret (v := tup ((m.taken : Int), (m.state : Int), (m.seen : Int))) (by simp [results, Tryd.f16, go_sem]) rfl ⟨?_, below_drewN HB.out _⟩
      rw [HV.out, HE.out]
    · have g : m.found = false ∨ (m.found = true ∧ m.taken = 0) := by
        cases h : m.found <;> simp_all
      rcases g with g | ⟨g, g2⟩
      all_goals
        rw [g] at c6
        go_wp2_with fail
        go_quiet (fail)
        go_wp2_with fail
      all_goals
        refine bodyPost_ret (v := tup (-1, st, m.seen)) (by simp [results, Tryd.f16, go_sem]) rfl ⟨?_, below_drewN HB.out _⟩
        rw [HV.out, valM, if_neg hfd, HS.out]
  · have e : runV p s.data.toList a state = (-1, 0, 0) := by
      unfold runV
      rw [if_neg (by simpa using hcond)]
    rw [e]
    cases hv : fitP p with
    | false =>
      rw [hv] at hfit
      go_enter Tryd.func16, Tryd.ntmps16
      go_wp2_with (go_at_call 14; refine (hfit _ (Below.refl _ _)).mono ?_; rintro e w1 ⟨rfl, hb⟩)
      refine bodyPost_ret (v := tup (-1, 0, 0)) (by simp [results, Tryd.f16, go_sem]) rfl ⟨rfl, hb⟩
    | true =>
      rw [hv] at hfit hcond
      have k : a < 0 ∨ (¬ a < 0 ∧ (s.size : Int) < a) := by simp at hcond; omega
      clear hcond
      rcases k with k | ⟨k1, k2⟩
      all_goals
        go_enter Tryd.func16, Tryd.ntmps16
        go_wp2_with (go_at_call 14; refine (hfit _ (Below.refl _ _)).mono ?_; rintro e w1 ⟨rfl, hb⟩)
      all_goals
        refine bodyPost_ret (v := tup (-1, 0, 0)) (by simp [results, Tryd.f16, go_sem]) rfl ⟨rfl, hb⟩
end Go.Proofs.YtggehnnbgeffpaaDoor
