/- Words of bits as sets of numbers: their rising rows, what joining two of them makes. -/
import Derived.Test.YtckbfiigbckmeaaDoorSetsMath
import Derived.Lib.TrailingZeros
namespace Go.Proofs.YtckbfiigbckmeaaDoor

def W64 (x : Nat) : Prop := x < 18446744073709551616
def wOf (ws : List Nat) (i : Nat) : Nat := ws.getD i 0
/-- t is one of the set. -/
def bin (ws : List Nat) (t : Nat) : Bool := (wOf ws (t / 64)).testBit (t % 64)
theorem wOf_get {ws : List Nat} {i : Nat} (h : i < ws.length) : wOf ws i = ws[i] := by
  unfold wOf; rw [List.getD_eq_getElem?_getD, List.getElem?_eq_getElem h]; rfl
theorem wOf_out {ws : List Nat} {i : Nat} (h : ws.length ≤ i) : wOf ws i = 0 := by
  unfold wOf; rw [List.getD_eq_getElem?_getD, List.getElem?_eq_none h]; rfl
theorem bin_lt {ws : List Nat} {t : Nat} (h : bin ws t = true) : t < 64 * ws.length := by
  rcases Nat.lt_or_ge (t / 64) ws.length with h1 | h1
  · omega
  · unfold bin at h; rw [wOf_out h1] at h; simp at h

/-- One word taken into another adds nothing just if it is within it. -/
theorem andNot_zero {s o : Nat} (hs : W64 s) (ho : W64 o) : o &&& (18446744073709551615 - s) = 0 ↔ s ||| o = s := by
  unfold W64 at *
  have e : 18446744073709551615 - s = 2 ^ 64 - (s + 1) := by omega
  rw [e]
  constructor
  · intro h
    apply Nat.eq_of_testBit_eq
    intro i
    have h1 := congrArg (fun x => x.testBit i) h
    simp only [Nat.testBit_and, Nat.zero_testBit, Nat.testBit_two_pow_sub_succ (show s < 2 ^ 64 by omega)] at h1
    rw [Nat.testBit_or]
    by_cases hi : i < 64
    · simp [hi] at h1
      cases hb : o.testBit i with
      | false => simp
      | true => simp [h1 hb]
    · have : o.testBit i = false := Nat.testBit_lt_two_pow (Nat.lt_of_lt_of_le (show o < 2 ^ 64 by omega) (Nat.pow_le_pow_right (by omega) (by omega)))
      simp [this]
  · intro h
    apply Nat.eq_of_testBit_eq
    intro i
    simp only [Nat.testBit_and, Nat.zero_testBit, Nat.testBit_two_pow_sub_succ (show s < 2 ^ 64 by omega)]
    have h1 := congrArg (fun x => x.testBit i) h
    simp only [Nat.testBit_or] at h1
    cases hb : o.testBit i <;> cases hc : s.testBit i <;> simp_all
theorem or_lt {s o : Nat} (hs : W64 s) (ho : W64 o) : W64 (s ||| o) := by
  unfold W64 at *
  have : s ||| o < 2 ^ 64 := Nat.or_lt_two_pow (by omega) (by omega)
  omega

/-- Joined up to word j. -/
def joinTo (j : Nat) (s o : List Nat) : List Nat := (List.range s.length).map fun i => if i < j then wOf s i ||| wOf o i else wOf s i
theorem joinTo_len (j : Nat) (s o : List Nat) : (joinTo j s o).length = s.length := by simp [joinTo]
theorem joinTo_get {j : Nat} {s o : List Nat} {i : Nat} (h : i < s.length) : wOf (joinTo j s o) i = if i < j then wOf s i ||| wOf o i else wOf s i := by
  rw [wOf_get (by rw [joinTo_len]; exact h)]
  simp [joinTo]
theorem wOf_ext {a b : List Nat} (hl : a.length = b.length) (h : ∀ i, i < a.length → wOf a i = wOf b i) : a = b := by
  apply List.ext_getElem hl
  intro i h1 h2
  rw [← wOf_get h1, ← wOf_get h2]
  exact h i h1
theorem joinTo_zero (s o : List Nat) : joinTo 0 s o = s := wOf_ext (joinTo_len _ _ _) fun i hi => by rw [joinTo_len] at hi; rw [joinTo_get hi]; simp
theorem joinTo_succ {j : Nat} {s o : List Nat} : joinTo (j + 1) s o = (joinTo j s o).set j (wOf s j ||| wOf o j) := by
  apply wOf_ext (by simp [joinTo_len])
  intro i hi
  rw [joinTo_len] at hi
  rw [joinTo_get hi, wOf_get (ws := (joinTo j s o).set j (wOf s j ||| wOf o j)) (by simpa [joinTo_len] using hi), List.getElem_set]
  split <;> split
  · rename_i h1 h2; subst h2; rfl
  · rename_i h1 h2; rw [← wOf_get (by rw [joinTo_len]; exact hi), joinTo_get hi, if_pos (by omega)]
  · rename_i h1 h2; omega
  · rename_i h1 h2; rw [← wOf_get (by rw [joinTo_len]; exact hi), joinTo_get hi, if_neg (by omega)]
theorem joinTo_same {j : Nat} {s o : List Nat} (hj : j < s.length) (h : wOf s j ||| wOf o j = wOf s j) : joinTo (j + 1) s o = joinTo j s o := by
  apply wOf_ext (by simp [joinTo_len])
  intro i hi
  rw [joinTo_len] at hi
  rw [joinTo_get hi, joinTo_get hi]
  by_cases h1 : i < j
  · rw [if_pos h1, if_pos (by omega)]
  · by_cases h2 : i = j
    · subst h2; rw [if_pos (by omega), if_neg (by omega), h]
    · rw [if_neg (by omega), if_neg (by omega)]
/-- The whole of it. -/
def orW (s o : List Nat) : List Nat := joinTo s.length s o
theorem orW_len (s o : List Nat) : (orW s o).length = s.length := joinTo_len _ _ _
theorem orW_get {s o : List Nat} {i : Nat} (h : i < s.length) : wOf (orW s o) i = wOf s i ||| wOf o i := by
  unfold orW; rw [joinTo_get h, if_pos h]
theorem bin_or {s o : List Nat} (hl : o.length ≤ s.length) (t : Nat) : bin (orW s o) t = (bin s t || bin o t) := by
  unfold bin
  rcases Nat.lt_or_ge (t / 64) s.length with h | h
  · rw [orW_get h, Nat.testBit_or]
  · rw [wOf_out (by rw [orW_len]; exact h), wOf_out h, wOf_out (by omega)]; simp
theorem orW_self (s : List Nat) : orW s s = s := wOf_ext (orW_len _ _) fun i hi => by
  rw [orW_len] at hi; rw [orW_get hi, Nat.or_self]
def Words (n : Nat) (ws : List Nat) : Prop := ws.length = n ∧ ∀ x ∈ ws, W64 x
theorem Words.at {n : Nat} {ws : List Nat} (h : Words n ws) (i : Nat) : W64 (wOf ws i) := by
  rcases Nat.lt_or_ge i ws.length with h1 | h1
  · rw [wOf_get h1]; exact h.2 _ (List.getElem_mem h1)
  · rw [wOf_out h1]; unfold W64; omega
theorem Words.or {n : Nat} {s o : List Nat} (h : Words n s) (k : Words n o) : Words n (orW s o) := by
  refine ⟨by rw [orW_len]; exact h.1, fun x hx => ?_⟩
  obtain ⟨i, hi, rfl⟩ := List.getElem_of_mem hx
  rw [← wOf_get hi, orW_get (by rw [orW_len] at hi; exact hi)]
  exact or_lt (h.at i) (k.at i)
theorem Words.set {n : Nat} {s : List Nat} (h : Words n s) {i x : Nat} (hx : W64 x) : Words n (s.set i x) := by
  refine ⟨by rw [List.length_set]; exact h.1, fun y hy => ?_⟩
  rcases List.mem_or_eq_of_mem_set hy with h1 | h1
  · exact h.2 y h1
  · rw [h1]; exact hx
/-- Has something come in, up to word j? -/
def newTo (j : Nat) (s o : List Nat) : Bool := (List.range j).any fun i => decide (wOf s i ||| wOf o i ≠ wOf s i)
theorem newTo_succ (j : Nat) (s o : List Nat) : newTo (j + 1) s o = (newTo j s o || decide (wOf s j ||| wOf o j ≠ wOf s j)) := by
  unfold newTo; rw [List.range_succ, List.any_append]; simp
def newW (s o : List Nat) : Bool := newTo s.length s o
theorem newW_false {s o : List Nat} (h : newW s o = false) : orW s o = s := wOf_ext (orW_len _ _) fun i hi => by
  rw [orW_len] at hi
  rw [orW_get hi]
  unfold newW newTo at h
  have := List.any_eq_false.1 h i (by simpa using hi)
  simpa using this
theorem newW_true {n : Nat} {s o : List Nat} (ho : Words n o) (h : newW s o = true) : ∃ t, bin o t = true ∧ bin s t = false := by
  unfold newW newTo at h
  obtain ⟨i, hi, hn⟩ := List.any_eq_true.1 h
  have hn' : ¬ wOf s i ||| wOf o i = wOf s i := by simpa using hn
  have : ∃ k, (wOf o i).testBit k = true ∧ (wOf s i).testBit k = false := by
    refine Classical.byContradiction fun hc => hn' ?_
    apply Nat.eq_of_testBit_eq
    intro k
    rw [Nat.testBit_or]
    cases ho : (wOf o i).testBit k with
    | false => simp
    | true =>
      cases hs : (wOf s i).testBit k with
      | true => simp
      | false => exact absurd ⟨k, ho, hs⟩ hc
  obtain ⟨k, hk1, hk2⟩ := this
  have hk : k < 64 := by
    rcases Nat.lt_or_ge k 64 with h1 | h1
    · exact h1
    · have hw := ho.at i
      unfold W64 at hw
      have : (wOf o i).testBit k = false := Nat.testBit_lt_two_pow (Nat.lt_of_lt_of_le (show wOf o i < 2 ^ 64 by omega) (Nat.pow_le_pow_right (by omega) h1))
      rw [this] at hk1; cases hk1
  refine ⟨64 * i + k, ?_, ?_⟩
  · unfold bin; rw [show (64 * i + k) / 64 = i by omega, show (64 * i + k) % 64 = k by omega]; exact hk1
  · unfold bin; rw [show (64 * i + k) / 64 = i by omega, show (64 * i + k) % 64 = k by omega]; exact hk2

/-! The rising row of a set. -/
def lowBits (b x : Nat) : List Int := ((List.range 64).filter fun k => x.testBit k).map fun k => ((64 * b + k : Nat) : Int)
def listTo (j : Nat) (ws : List Nat) : List Int := ((List.range (64 * j)).filter fun k => bin ws k).map fun k : Nat => (k : Int)
def listW (ws : List Nat) : List Int := listTo ws.length ws
theorem rising_map {l : List Nat} {g : Nat → Int} (hl : l.Pairwise (· < ·)) (hg : ∀ a b, a < b → g a < g b) : Rising (l.map g) := by
  unfold Rising
  rw [List.pairwise_map]
  exact hl.imp (fun h => hg _ _ h)
theorem rising_lowBits (b x : Nat) : Rising (lowBits b x) := rising_map (List.Pairwise.filter _ List.pairwise_lt_range) (fun a c h => by omega)
theorem rising_listTo (j : Nat) (ws : List Nat) : Rising (listTo j ws) := rising_map (List.Pairwise.filter _ List.pairwise_lt_range) (fun a c h => by omega)
theorem rising_listW (ws : List Nat) : Rising (listW ws) := rising_listTo _ _
theorem mem_lowBits {b x : Nat} {t : Int} : t ∈ lowBits b x ↔ ∃ k, k < 64 ∧ x.testBit k = true ∧ t = ((64 * b + k : Nat) : Int) := by
  unfold lowBits
  simp only [List.mem_map, List.mem_filter, List.mem_range]
  exact ⟨fun ⟨k, ⟨h1, h2⟩, h3⟩ => ⟨k, h1, h2, h3.symm⟩, fun ⟨k, h1, h2, h3⟩ => ⟨k, ⟨h1, h2⟩, h3.symm⟩⟩
theorem mem_listTo {j : Nat} {ws : List Nat} {t : Int} : t ∈ listTo j ws ↔ ∃ n : Nat, n < 64 * j ∧ bin ws n = true ∧ t = n := by
  unfold listTo
  simp only [List.mem_map, List.mem_filter, List.mem_range]
  exact ⟨fun ⟨k, ⟨h1, h2⟩, h3⟩ => ⟨k, h1, h2, h3.symm⟩, fun ⟨k, h1, h2, h3⟩ => ⟨k, ⟨h1, h2⟩, h3.symm⟩⟩
theorem mem_listW {ws : List Nat} {t : Int} : t ∈ listW ws ↔ ∃ n : Nat, bin ws n = true ∧ t = n := by
  unfold listW
  rw [mem_listTo]
  exact ⟨fun ⟨n, _, h⟩ => ⟨n, h⟩, fun ⟨n, h1, h2⟩ => ⟨n, bin_lt h1, h1, h2⟩⟩
theorem mem_listW_nat {ws : List Nat} {n : Nat} : (n : Int) ∈ listW ws ↔ bin ws n = true := by
  rw [mem_listW]
  exact ⟨fun ⟨m, h1, h2⟩ => by have : n = m := by omega
                               subst this; exact h1, fun h => ⟨n, h, rfl⟩⟩
theorem listTo_zero (ws : List Nat) : listTo 0 ws = [] := by simp [listTo]
theorem listTo_succ (j : Nat) (ws : List Nat) : listTo (j + 1) ws = listTo j ws ++ lowBits j (wOf ws j) := by
  unfold listTo lowBits
  rw [show 64 * (j + 1) = 64 * j + 64 by omega, List.range_add, List.filter_append, List.map_append]
  congr 1
  rw [List.filter_map, List.map_map]
  congr 1
  apply List.filter_congr
  intro k hk
  have hk' : k < 64 := by simpa using hk
  show bin ws (64 * j + k) = _
  unfold bin
  rw [show (64 * j + k) / 64 = j by omega, show (64 * j + k) % 64 = k by omega]
theorem lowBits_zero (b : Nat) : lowBits b 0 = [] := by
  unfold lowBits
  rw [List.filter_eq_nil_iff.2 (fun k _ => by simp)]
  rfl
theorem lowBits_length (b x : Nat) : (lowBits b x).length ≤ 64 := by
  unfold lowBits
  rw [List.length_map]
  have := List.length_filter_le (fun k => x.testBit k) (List.range 64)
  simpa using this
theorem listTo_length (j : Nat) (ws : List Nat) : (listTo j ws).length ≤ 64 * j := by
  unfold listTo
  rw [List.length_map]
  have := List.length_filter_le (fun k => bin ws k) (List.range (64 * j))
  simpa using this
/-- The lowest bit struck. -/
theorem strike_bit {x k m : Nat} (hx : x = 2 ^ k * (2 * m + 1)) (i : Nat) : (x &&& (x - 1)).testBit i = (x.testBit i && decide (i ≠ k)) ∧ (i < k → x.testBit i = false) ∧ x.testBit k = true := by
  have hp : 0 < 2 ^ k := Nat.two_pow_pos k
  have e1 : x - 1 = 2 ^ k * (2 * m) + (2 ^ k - 1) := by rw [hx, Nat.mul_add]; omega
  have t0 : ∀ i, x.testBit i = (decide (k ≤ i) && (2 * m + 1).testBit (i - k)) := fun i => by rw [hx, Nat.mul_comm, Nat.testBit_mul_two_pow]
  refine ⟨?_, ?_, ?_⟩
  · rw [Nat.testBit_and, e1, Nat.testBit_two_pow_mul_add (2 * m) (by omega), t0]
    by_cases h1 : i < k
    · simp [show ¬ k ≤ i by omega]
    · by_cases h2 : i = k
      · subst h2; simp [Nat.testBit_zero]
      · have h3 : i - k = (i - k - 1) + 1 := by omega
        rw [if_neg h1, h3, Nat.testBit_succ, Nat.testBit_succ, show (2 * m + 1) / 2 = m by omega, show 2 * m / 2 = m by omega]
        simp [h2, show k ≤ i by omega]
  · intro h1; rw [t0]; simp [show ¬ k ≤ i by omega]
  · rw [t0]; simp [Nat.testBit_zero]
theorem lowBits_step {b x : Nat} (hx : W64 x) (h0 : x ≠ 0) : lowBits b x = ((64 * b + Lib.ctz 64 x : Nat) : Int) :: lowBits b (x &&& (x - 1)) ∧ Lib.ctz 64 x < 64 ∧ W64 (x &&& (x - 1)) ∧ x &&& (x - 1) < x := by
  unfold W64 at *
  obtain ⟨m, hm, hk⟩ := Lib.ctzFrom_spec 64 x (by omega) (by omega)
  have hc : Lib.ctz 64 x = Lib.ctzFrom 64 x := by unfold Lib.ctz; rw [if_neg h0]
  rw [hc]
  generalize Lib.ctzFrom 64 x = k at *
  have hle : x &&& (x - 1) ≤ x - 1 := Nat.and_le_right
  refine ⟨?_, hk, by omega, by omega⟩
  refine rising_ext (rising_lowBits _ _) (List.pairwise_cons.2 ⟨fun t ht => ?_, rising_lowBits _ _⟩) (fun t => ?_)
  · obtain ⟨i, hi, h1, rfl⟩ := mem_lowBits.1 ht
    have h2 := strike_bit hm i
    rw [h2.1] at h1
    simp at h1
    have : ¬ i < k := fun h => by rw [h2.2.1 h] at h1; simp at h1
    omega
  · rw [List.mem_cons, mem_lowBits, mem_lowBits]
    constructor
    · rintro ⟨i, hi, h1, rfl⟩
      by_cases h : i = k
      · subst h; exact .inl rfl
      · exact .inr ⟨i, hi, by rw [(strike_bit hm i).1]; simp [h1, h], rfl⟩
    · rintro (rfl | ⟨i, hi, h1, rfl⟩)
      · exact ⟨k, hk, (strike_bit hm 0).2.2, rfl⟩
      · rw [(strike_bit hm i).1] at h1; simp at h1; exact ⟨i, hi, h1.1, rfl⟩
theorem listW_or {n : Nat} {s o : List Nat} (hs : Words n s) (ho : Words n o) : listW (orW s o) = unionL (listW s) (listW o) := by
  refine rising_ext (rising_listW _) (rising_unionL (rising_listW _)) (fun t => ?_)
  rw [mem_unionL, mem_listW, mem_listW, mem_listW]
  constructor
  · rintro ⟨k, h, rfl⟩
    rw [bin_or (by rw [hs.1, ho.1]; exact Nat.le_refl _)] at h
    simp at h
    rcases h with h | h
    · exact .inl ⟨k, h, rfl⟩
    · exact .inr ⟨k, h, rfl⟩
  · rintro (⟨k, h, rfl⟩ | ⟨k, h, rfl⟩) <;> exact ⟨k, by rw [bin_or (by rw [hs.1, ho.1]; exact Nat.le_refl _), h]; simp, rfl⟩
/-- Joining tells whether the row has grown. -/
theorem newW_iff {n : Nat} {s o : List Nat} (hs : Words n s) (ho : Words n o) : newW s o = decide ((listW s).length < (unionL (listW s) (listW o)).length) := by
  cases h : newW s o with
  | false =>
    have e := newW_false h
    rw [← listW_or hs ho, e]
    simp
  | true =>
    obtain ⟨t, h1, h2⟩ := newW_true ho h
    symm
    rw [decide_eq_true_eq]
    refine Nat.lt_of_not_le fun hle => ?_
    have := sub_of_length_unionL (rising_listW s) hle t (mem_listW_nat.2 h1)
    rw [mem_listW_nat] at this
    rw [this] at h2; cases h2
/-- A number put into a set. -/
def putW (ws : List Nat) (n : Nat) : List Nat := ws.set (n / 64) (wOf ws (n / 64) ||| 2 ^ (n % 64))
theorem pow_lt (k : Nat) : W64 (2 ^ (k % 64)) := by
  unfold W64
  have : 2 ^ (k % 64) < 2 ^ 64 := Nat.pow_lt_pow_right (by omega) (Nat.mod_lt _ (by omega))
  omega
theorem Words.put {n : Nat} {ws : List Nat} (h : Words n ws) (t : Nat) : Words n (putW ws t) := h.set (or_lt (h.at _) (pow_lt t))
theorem bin_put {ws : List Nat} {n t : Nat} (hn : n < 64 * ws.length) : bin (putW ws n) t = (bin ws t || decide (t = n)) := by
  unfold bin putW
  have hi : n / 64 < ws.length := by omega
  rcases Nat.lt_or_ge (t / 64) ws.length with h | h
  · rw [wOf_get (ws := ws.set (n / 64) (wOf ws (n / 64) ||| 2 ^ (n % 64))) (by simpa using h), List.getElem_set]
    split
    · rename_i e
      rw [Nat.testBit_or, Nat.testBit_two_pow, e]
      congr 1
      have : (n % 64 = t % 64) ↔ t = n := by omega
      simp only [this]
    · rename_i e
      rw [← wOf_get h]
      have : ¬ t = n := fun h' => e (by rw [h'])
      simp [this]
  · rw [wOf_out (by simpa using h), wOf_out h]
    have : ¬ t = n := by omega
    simp [this]
theorem words_zero (n : Nat) : Words n (List.replicate n 0) := ⟨by simp, fun x hx => by rw [(List.mem_replicate.1 hx).2]; unfold W64; omega⟩
theorem bin_zero (n t : Nat) : bin (List.replicate n 0) t = false := by
  unfold bin
  have : wOf (List.replicate n 0) (t / 64) = 0 := by
    rcases Nat.lt_or_ge (t / 64) n with h | h
    · rw [wOf_get (by simpa using h)]; simp
    · exact wOf_out (by simpa using h)
  rw [this]; simp
theorem listW_zero (n : Nat) : listW (List.replicate n 0) = [] := by
  refine rising_ext (rising_listW _) List.Pairwise.nil (fun t => ?_)
  rw [mem_listW]
  simp [bin_zero]
theorem listW_put {ws : List Nat} {n : Nat} (hn : n < 64 * ws.length) : listW (putW ws n) = putL n (listW ws) := by
  refine rising_ext (rising_listW _) (rising_putL (rising_listW _)) (fun t => ?_)
  rw [mem_putL, mem_listW, mem_listW]
  constructor
  · rintro ⟨k, h, rfl⟩
    rw [bin_put hn] at h
    simp at h
    rcases h with h | h
    · exact .inr ⟨k, h, rfl⟩
    · subst h; exact .inl rfl
  · rintro (rfl | ⟨k, h, rfl⟩)
    · exact ⟨n, by rw [bin_put hn]; simp, rfl⟩
    · exact ⟨k, by rw [bin_put hn, h]; simp, rfl⟩
end Go.Proofs.YtckbfiigbckmeaaDoor
