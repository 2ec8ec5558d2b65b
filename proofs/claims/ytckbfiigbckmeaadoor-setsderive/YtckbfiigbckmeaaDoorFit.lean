/- Which plain grammars can be: Light and Fit of the document, and few. -/
import Derived.Test.YtckbfiigbckmeaaDoorPut
namespace Go.Proofs.YtckbfiigbckmeaaDoor
open Go.RowKit

def letB (n : Nat) : Bool := decide ((97 ≤ n ∧ n ≤ 122) ∨ (65 ≤ n ∧ n ≤ 90) ∨ n = 95)
def digB (n : Nat) : Bool := decide (48 ≤ n ∧ n ≤ 57)

set_option maxHeartbeats 400000 in
theorem letter_any (c : Nat) (w : World) : Calls Tryd.prog 79 #[.int .u8 c] w fun e w' => e = .returned (.bool (letB c)) ∧ w' = w := by
  go_enter Tryd.func79, Tryd.ntmps79
  go_wp2
  all_goals
    go_ret
    refine ⟨ret_bool ?_, rfl⟩
    unfold letB
    rw [Bool.eq_iff_iff]
    simp
    omega
set_option maxHeartbeats 400000 in
theorem digit_any (c : Nat) (w : World) : Calls Tryd.prog 80 #[.int .u8 c] w fun e w' => e = .returned (.bool (digB c)) ∧ w' = w := by
  go_enter Tryd.func80, Tryd.ntmps80
  go_wp2
  all_goals
    go_ret
    refine ⟨ret_bool ?_, rfl⟩
    unfold digB
    rw [Bool.eq_iff_iff]
    simp
    omega

theorem loop_len (bs : ByteArray) : ∀ (n i : Nat) (r : List UInt8), bs.size - i = n → (ByteArray.toList.loop bs i r).length = r.length + (bs.size - i)
  | 0, i, r, h => by unfold ByteArray.toList.loop; rw [if_neg (by omega)]; simp; omega
  | n + 1, i, r, h => by
    unfold ByteArray.toList.loop
    rw [if_pos (by omega), loop_len bs n (i + 1) _ (by omega)]
    simp; omega
theorem toList_nil (s : ByteArray) : s.toList = [] ↔ s.size = 0 := by
  have := loop_len s s.size 0 [] (by omega)
  unfold ByteArray.toList
  rw [← List.length_eq_zero_iff, this]
  simp

/-- Name, byte by byte. -/
def okB (i : Nat) (c : Nat) : Bool := letB c || (decide (i ≠ 0) && digB c)
def okAt (s : ByteArray) (k : Nat) : Bool := if h : k < s.size then okB k s[k].toNat else true
def nameB (s : ByteArray) : Bool := decide (s.size ≠ 0) && decide (s.size ≤ 32) && (List.range s.size).all (okAt s)

set_option maxHeartbeats 1600000 in
theorem name7_any (s : ByteArray) (w : World) (hs : s.size ≤ 9223372036854775807) : Calls Tryd.prog 62 #[.string s] w fun e w' => e = .returned (.bool (nameB s)) ∧ w' = w := by
  go_enter Tryd.func62, Tryd.ntmps62
  go_wp2
  go_loopw [3] (fun i wr => ∃ (j : Nat), i = .int .i64 j ∧ j ≤ s.size ∧ (∀ k, k < j → okAt s k = true) ∧ wr = w) (fun i _ => s.size - (intOf i).toNat)
  case atStart => exact ⟨0, rfl, Nat.zero_le _, by simp, rfl⟩
  case round =>
    obtain ⟨j, rfl, hj, hrel, rfl⟩ := hrel
    by_cases hlt : j < s.size
    · have hL := letter_any (s[j].toNat) wr
      have hD := digit_any (s[j].toNat) wr
      have HR : Hid (∀ k, k < j → okAt s k = true) := hrel
      have HO : Hid (okAt s j = okB j s[j].toNat) := by show _ = _; unfold okAt; rw [dif_pos hlt]
      clear hrel
      have yes : okB j s[j].toNat = true → ∀ k, k < j + 1 → okAt s k = true := fun h k hk => by
        by_cases e : k = j
        · subst e; rw [HO.out]; exact h
        · exact HR.out k (by omega)
      have no : okB j s[j].toNat = false → nameB s = false := fun h => by
        unfold nameB
        have : (List.range s.size).all (okAt s) = false := by
          rw [List.all_eq_false]
          exact ⟨j, List.mem_range.2 hlt, by rw [HO.out, h]; simp⟩
        rw [this, Bool.and_false]
      have HY : Hid (okB j s[j].toNat = true → ∀ k, k < j + 1 → okAt s k = true) := yes
      have HN : Hid (okB j s[j].toNat = false → nameB s = false) := no
      clear yes no HR HO
      cases hl : letB s[j].toNat with
      | true =>
        rw [hl] at hL
        have HK : Hid (okB j s[j].toNat = true) := by show _ = _; unfold okB; rw [hl]; rfl
        clear hl
        go_wp2_with (go_at_call 79; refine hL.mono ?_; rintro e w1 ⟨rfl, rfl⟩)
        exact ⟨⟨j + 1, by go_num, by omega, HY.out HK.out, trivial⟩, by simp [intOf]; omega⟩
      | false =>
        rw [hl] at hL
        by_cases hz : j = 0
        · have HK : Hid (okB j s[j].toNat = false) := by show _ = _; unfold okB; rw [hl, decide_eq_false (by simpa using hz)]; rfl
          clear hl
          subst hz
          clear hD
          go_wp2_with (go_at_call 79; refine hL.mono ?_; rintro e w1 ⟨rfl, rfl⟩)
          go_ret
          exact ⟨ret_bool (HN.out HK.out).symm, rfl⟩
        · have hz2 : ((j : Int) == 0) = false := by simpa using hz
          cases hd : digB s[j].toNat with
          | true =>
            rw [hd] at hD
            have HK : Hid (okB j s[j].toNat = true) := by show _ = _; unfold okB; rw [hl, hd, decide_eq_true (by simpa using hz)]; rfl
            clear hl hd
            go_wp2_with (first | (go_at_call 79; refine hL.mono ?_; rintro e w1 ⟨rfl, rfl⟩) | (go_at_call 80; refine hD.mono ?_; rintro e w1 ⟨rfl, rfl⟩))
            exact ⟨⟨j + 1, by go_num, by omega, HY.out HK.out, trivial⟩, by simp [intOf]; omega⟩
          | false =>
            rw [hd] at hD
            have HK : Hid (okB j s[j].toNat = false) := by show _ = _; unfold okB; rw [hl, hd, Bool.and_false]; rfl
            clear hl hd
            go_wp2_with (first | (go_at_call 79; refine hL.mono ?_; rintro e w1 ⟨rfl, rfl⟩) | (go_at_call 80; refine hD.mono ?_; rintro e w1 ⟨rfl, rfl⟩))
            go_ret
            exact ⟨ret_bool (HN.out HK.out).symm, rfl⟩
    · have hjl : j = s.size := by omega
      have HA : Hid (nameB s = (decide (s.size ≠ 0) && decide (s.size ≤ 32))) := by
        show _ = _
        unfold nameB
        have : (List.range s.size).all (okAt s) = true := by
          rw [List.all_eq_true]
          intro k hk
          exact hrel k (by rw [hjl]; exact List.mem_range.1 hk)
        rw [this, Bool.and_true]
      clear hrel
      have hnil := toList_nil s
      by_cases hz : s.size = 0
      · have h0 : s.toList = [] := hnil.2 hz
        have HZ : Hid (s.size = 0) := hz
        clear hnil hz
        go_wp2
        go_ret
        refine ⟨ret_bool ?_, rfl⟩
        rw [HA.out, HZ.out]
        simp
      · have h0 : ¬ s.toList = [] := fun h => hz (hnil.1 h)
        have h1 : s.toList.isEmpty = false := by simpa using h0
        have HZ : Hid (¬ s.size = 0) := hz
        clear hnil hz
        go_wp2
        go_ret
        refine ⟨ret_bool ?_, rfl⟩
        rw [HA.out, decide_eq_true (show s.size ≠ 0 from HZ.out)]
        simp
        try omega

set_option maxHeartbeats 800000 in
theorem name9_any (s : ByteArray) (w : World) (hs : s.size ≤ 9223372036854775807) : Calls Tryd.prog 41 #[.string s] w fun e w' => e = .returned (.bool (decide (s.size = 0) || nameB s)) ∧ w' = w := by
  have hN := name7_any s w hs
  have hnil := toList_nil s
  by_cases hz : s.size = 0
  · have h0 : s.toList = [] := hnil.2 hz
    have HZ : Hid (s.size = 0) := hz
    clear hnil hz
    go_enter Tryd.func41, Tryd.ntmps41
    go_wp2_with (go_at_call 62; refine hN.mono ?_; rintro e w1 ⟨rfl, rfl⟩)
    go_ret
    refine ⟨ret_bool ?_, rfl⟩
    rw [decide_eq_true HZ.out]
    simp
  · have h0 : ¬ s.toList = [] := fun h => hz (hnil.1 h)
    have h1 : s.toList.isEmpty = false := by simpa using h0
    have HZ : Hid (¬ s.size = 0) := hz
    clear hnil hz
    go_enter Tryd.func41, Tryd.ntmps41
    go_wp2_with (go_at_call 62; refine hN.mono ?_; rintro e w1 ⟨rfl, rfl⟩)
    go_ret
    refine ⟨ret_bool ?_, rfl⟩
    rw [decide_eq_false HZ.out]
    simp

def titlesB (l : List ByteArray) : Bool := l.all fun s => decide (s.size ≠ 0) && decide (s.size ≤ 80)

set_option maxHeartbeats 800000 in
theorem titles_any (l : List ByteArray) (ao : Option Addr) (cap : Nat) (w : World) (hc : RowAt Value.string l ao w) (hl : l.length ≤ 140737488351232) :
    Calls Tryd.prog 40 #[.slice ao l.length cap] w fun e w' => e = .returned (.bool (titlesB l)) ∧ w' = w := by
  go_enter Tryd.func40, Tryd.ntmps40
  go_wp2
  go_loopw [3] (fun i wr => ∃ (j : Nat), i = .int .i64 j ∧ j ≤ l.length ∧ titlesB l = titlesB (l.drop j) ∧ wr = w) (fun i _ => l.length - (intOf i).toNat)
  case atStart => exact ⟨0, rfl, Nat.zero_le _, by simp, rfl⟩
  case round =>
    obtain ⟨j, rfl, hj, hrel, rfl⟩ := hrel
    by_cases hlt : j < l.length
    · obtain ⟨b, off, rfl, _, c0⟩ := hc.at (Below.refl _ _) hlt
      rw [List.drop_eq_getElem_cons hlt] at hrel
      generalize l[j] = s at *
      have HR : Hid (titlesB l = ((decide (s.size ≠ 0) && decide (s.size ≤ 80)) && titlesB (l.drop (j + 1)))) := hrel
      have hnil := toList_nil s
      clear hrel hc
      by_cases hz : s.size = 0
      · have h0 : s.toList = [] := hnil.2 hz
        have HZ : Hid (titlesB l = false) := by show _ = _; rw [HR.out, decide_eq_false (by simpa using hz)]; rfl
        clear hnil hz HR
        go_wp2
        go_ret
        exact ⟨ret_bool HZ.out.symm, rfl⟩
      · have h0 : ¬ s.toList = [] := fun h => hz (hnil.1 h)
        have h1 : s.toList.isEmpty = false := by simpa using h0
        by_cases h80 : s.size ≤ 80
        · have HZ : Hid (titlesB l = titlesB (l.drop (j + 1))) := by show _ = _; rw [HR.out, decide_eq_true (by simpa using hz), decide_eq_true h80]; rfl
          clear hnil hz HR
          go_wp2
          exact ⟨⟨j + 1, by go_num, by omega, HZ.out, trivial⟩, by simp [intOf]; omega⟩
        · have HZ : Hid (titlesB l = false) := by show _ = _; rw [HR.out, decide_eq_false h80, Bool.and_false]; rfl
          clear hnil hz HR
          go_wp2
          go_ret
          exact ⟨ret_bool HZ.out.symm, rfl⟩
    · have HZ : Hid (titlesB l = true) := by show _ = _; rw [hrel, List.drop_of_length_le (by omega)]; rfl
      clear hrel hc
      go_wp2
      go_ret
      exact ⟨ret_bool HZ.out.symm, rfl⟩

/-- The box that a function lays for the plain grammar that it is handed. -/
def FBox (f : Fl) (a : FlA) (n : Nat) (W : World) : Prop :=
  n < W.heap.size ∧ W.cell? ⟨n, 0, none⟩ = some (.slice a.ta f.terms.length a.tc) ∧ W.cell? ⟨n, 1, none⟩ = some (.slice a.na f.nons.length a.nc) ∧ W.cell? ⟨n, 2, none⟩ = some (.slice a.pa f.prods.length a.pc)
theorem FBox.next {f : Fl} {a : FlA} {n : Nat} {W W' : World} (h : FBox f a n W) (hb : Below W.heap.size W W') : FBox f a n W' :=
  ⟨Nat.lt_of_lt_of_le h.1 hb.size, (hb.cell (p := ⟨n, 0, none⟩) h.1).trans h.2.1, (hb.cell (p := ⟨n, 1, none⟩) h.1).trans h.2.2.1, (hb.cell (p := ⟨n, 2, none⟩) h.1).trans h.2.2.2⟩
def fobj (f : Fl) (a : FlA) (t : TypeId) : Obj := Obj.cells #[Value.slice a.ta f.terms.length a.tc, Value.slice a.na f.nons.length a.nc, Value.slice a.pa f.prods.length a.pc] t
theorem FBox.new (f : Fl) (a : FlA) (t : TypeId) (w : World) : FBox f a w.heap.size (w.alloc (fobj f a t)) := by
  unfold fobj
  refine ⟨by simp, ?_, ?_, ?_⟩ <;> simp

/-- Light: how many parts are left. -/
def leftN (n : Int) : List Pr → Int
  | [] => n
  | p :: t => if n < 0 then n else leftN (n - 1 - p.right.length) t
def lightB (f : Fl) : Bool := decide (0 ≤ leftN (20000 - f.terms.length - f.nons.length) f.prods)
theorem leftN_neg {n : Int} (h : n < 0) (l : List Pr) : leftN n l = n := by
  cases l with
  | nil => rfl
  | cons p t => rw [leftN, if_pos h]
theorem leftN_mem : ∀ {l : List Pr} {n : Int}, 0 ≤ leftN n l → 0 ≤ n ∧ l.length ≤ n ∧ ∀ p ∈ l, (p.right.length : Int) ≤ n
  | [], n, h => ⟨h, by simpa [leftN] using h, by simp⟩
  | p :: t, n, h => by
    rw [leftN] at h
    split at h
    · omega
    · have := leftN_mem h
      refine ⟨by omega, by simp; omega, fun q hq => ?_⟩
      rcases List.mem_cons.1 hq with rfl | hq
      · omega
      · have := this.2.2 q hq; omega

set_option maxHeartbeats 800000 in
theorem light_any (f : Fl) (a : FlA) (w : World) (hf : FlAt f a w) :
    Calls Tryd.prog 25 #[a.val f] w fun e w' => e = .returned (.bool (lightB f)) ∧ Below w.heap.size w w' := by
  obtain ⟨ta, tc, na, nc, pa, pc⟩ := a
  obtain ⟨h0, h1, h2, h3, h4, h5, h6, h7⟩ := hf
  simp only at h0 h1 h2 h3 h4 h5 h6 h7
  have HL : Hid (lightB f = decide (0 ≤ leftN (20000 - f.terms.length - f.nons.length) f.prods)) := rfl
  unfold FlA.val
  simp only
  obtain ⟨ts, ns, ps⟩ := f
  simp only at *
  clear h0 h1
  generalize ts.length = tl at *
  generalize ns.length = nl at *
  go_enter Tryd.func25, Tryd.ntmps25
  go_wp2
  have B0 : Below w.heap.size w (w.alloc (Obj.cells #[Value.slice ta tl tc, Value.slice na nl nc, Value.slice pa ps.length pc] 25)) := (Below.refl _ _).alloc (Nat.le_refl _) _
  have d2 : (w.alloc (Obj.cells #[Value.slice ta tl tc, Value.slice na nl nc, Value.slice pa ps.length pc] 25)).cell? ⟨w.heap.size, 2, none⟩ = some (.slice pa ps.length pc) := by simp
  generalize w.alloc (Obj.cells #[Value.slice ta tl tc, Value.slice na nl nc, Value.slice pa ps.length pc] 25) = w0 at *
  go_loopw [3, 4] (fun t i wr => ∃ (T : Int) (j : Nat), t = .int .i64 T ∧ i = .int .i64 j ∧ j ≤ ps.length ∧ leftN (20000 - tl - nl) ps = leftN T (ps.drop j) ∧ T ≤ 20000 ∧ -1000000000000000 ≤ T ∧ wr = w0) (fun _ i _ => ps.length - (intOf i).toNat)
  case atStart => exact ⟨20000 - tl - nl, 0, rfl, rfl, Nat.zero_le _, by simp, by omega, by omega, rfl⟩
  case round =>
    obtain ⟨T, j, rfl, rfl, hj, hrel, hT1, hT2, rfl⟩ := hrel
    by_cases hlt : j < ps.length
    · by_cases hT : T < 0
      · have HZ : Hid (leftN (20000 - tl - nl) ps = T) := by show _ = _; rw [hrel, leftN_neg hT]
        clear hrel h2
        go_wp2
        go_ret
        exact ⟨ret_bool (by rw [HL.out, HZ.out]), B0⟩
      · obtain ⟨b, off, v, rfl, _, c0, c1, c2, hv, _⟩ := h2.at B0 hlt
        obtain ⟨ra, rc, rfl, _, _, hr1, hr2⟩ := hv
        rw [List.drop_eq_getElem_cons hlt, leftN, if_neg hT] at hrel
        generalize ps[j] = p at *
        have HZ : Hid (leftN (20000 - tl - nl) ps = leftN (T - 1 - p.right.length) (ps.drop (j + 1))) := hrel
        clear hrel h2
        go_wp2
        exact ⟨⟨T - 1 - p.right.length, j + 1, by go_num, by go_num, by omega, HZ.out, by omega, by omega, trivial⟩, by simp [intOf]; omega⟩
    · have HZ : Hid (leftN (20000 - tl - nl) ps = T) := by show _ = _; rw [hrel, List.drop_of_length_le (by omega)]; rfl
      clear hrel h2
      go_wp2
      go_ret
      exact ⟨ret_bool (by rw [HL.out, HZ.out]), B0⟩
end Go.Proofs.YtckbfiigbckmeaaDoor
