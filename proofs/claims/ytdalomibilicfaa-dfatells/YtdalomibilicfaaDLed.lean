/- Machines in one state: the arc of a byte: slices.BinarySearchFunc at arcs; led. -/
import Derived.Test.YtdalomibilicfaaDSmall
import Derived.Test.YtdalomibilicfaaJHeld
namespace Go.Proofs.Ytdalomibilicfaa
open Go.RowKit

/-- Arcs rise by where they end. -/
def UpH (l : List Ar) : Prop := l.Pairwise fun x y => x.hi < y.hi
theorem UpH.at {l : List Ar} (h : UpH l) {i j : Nat} (hi : i < l.length) (hj : j < l.length) (hij : i < j) : l[i].hi < l[j].hi := List.pairwise_iff_getElem.1 h i j hi hj hij
theorem upA_ge : ∀ {l : List Ar} {a : Int}, upA l a → ∀ x ∈ l, a ≤ x.lo ∧ x.lo ≤ x.hi ∧ x.hi ≤ 255
  | y :: l, a, h, x, hx => by
    unfold upA at h
    rcases List.mem_cons.1 hx with rfl | hx
    · exact ⟨h.1, h.2.1, h.2.2.1⟩
    · have := upA_ge h.2.2.2 x hx; omega
theorem upA_upH : ∀ {l : List Ar} {a : Int}, upA l a → UpH l
  | [], _, _ => List.Pairwise.nil
  | x :: l, a, h => by
    unfold upA at h
    refine List.Pairwise.cons (fun y hy => ?_) (upA_upH h.2.2.2)
    have := upA_ge h.2.2.2 y hy; omega
/-- The number of the first arc that does not end ahead of a byte. -/
def posH (l : List Ar) (c : Int) : Nat := l.findIdx fun x => !decide (x.hi < c)
theorem posH_le (l : List Ar) (c : Int) : posH l c ≤ l.length := List.findIdx_le_length
theorem posH_eq {l : List Ar} {c : Int} {i : Nat} (hi : i ≤ l.length) (h1 : ∀ t (ht : t < l.length), t < i → l[t].hi < c) (h2 : ∀ h : i < l.length, ¬ l[i].hi < c) : posH l c = i := by
  unfold posH
  rcases Nat.lt_or_ge i l.length with h | h
  · rw [List.findIdx_eq h]
    exact ⟨by simpa using h2 h, fun j hj => by simpa using h1 j (by omega) hj⟩
  · obtain rfl : i = l.length := by omega
    rw [List.findIdx_eq_length]
    intro x hx
    obtain ⟨t, ht, rfl⟩ := List.getElem_of_mem hx
    simpa using h1 t ht ht
def thereH (l : List Ar) (c : Int) : Bool := (l[posH l c]?).any fun x => decide (x.hi = c)
/-- The arc of a byte is the first that does not end ahead of it, if it begins there. -/
theorem nextA_pos : ∀ {l : List Ar} {a c : Int}, upA l a → nextA l c = match l[posH l c]? with
    | some x => if c < x.lo then -1 else x.tg
    | none => -1
  | [], _, _, _ => rfl
  | x :: l, a, c, h => by
    have h0 := h
    unfold upA at h
    unfold nextA arcOf posH
    rw [List.findIdx_cons]
    by_cases h1 : x.hi < c
    · have ih := nextA_pos (c := c) h.2.2.2
      unfold nextA posH at ih
      rw [if_neg (by omega)]
      simp only [h1, decide_true, Bool.not_true, cond_false]
      rw [ih, List.getElem?_cons_succ]
    · simp only [h1, decide_false, Bool.not_false, cond_true]
      rw [List.getElem?_cons_zero]
      by_cases h2 : x.lo ≤ c
      · rw [if_pos ⟨h2, by omega⟩]
        simp [show ¬ c < x.lo by omega]
      · rw [if_neg (by omega), arcOf_low h.2.2.2 (by omega)]
        simp [show c < x.lo by omega]

set_option maxRecDepth 100000 in
set_option maxHeartbeats 1600000 in
theorem bsearch_any (l : List Ar) (v : Value) (c : Int) (w : World) (hl : SlA l v w) (hu : UpH l) (hlen : l.length ≤ 1000000) :
    Calls Try.prog 60 #[v, .int .i64 c, .func (.func 58) #[] #[]] w fun e w' => e = .returned (.tuple #[.int .i64 (posH l c : Nat), .bool (thereH l c)]) ∧ Below w.heap.size w w' := by
  have HL : Hid (∀ W, Below w.heap.size w W → SlA l v W) := fun W hb => hl.next hb
  have HU : Hid (UpH l) := hu
  clear hu
  obtain ⟨la, lc, rfl, _, _, _, hlb⟩ := hl
  go_enter Try.func60, Try.ntmps60
  go_wp2_with fail
  go_loopw [9, 10] (fun iv jv wr => ∃ (i j : Nat), iv = .int .i64 i ∧ jv = .int .i64 j ∧ i ≤ j ∧ j ≤ l.length ∧ Hid ((∀ t (ht : t < l.length), t < i → l[t].hi < c) ∧ (∀ t (ht : t < l.length), j ≤ t → c ≤ l[t].hi)) ∧ Below w.heap.size w wr) (fun i j _ => (intOf j).toNat - (intOf i).toNat)
  case atStart => exact ⟨0, l.length, rfl, rfl, Nat.zero_le _, Nat.le_refl _, ⟨fun t _ h => by omega, fun t h1 h2 => by omega⟩, Below.refl _ _⟩
  case round =>
  obtain ⟨i, j, rfl, rfl, hij, hj, HF, BR⟩ := hrel
  obtain ⟨_, _, e0, hal, _⟩ := HL.out wr BR
  cases e0
  by_cases hlt : i < j
  · obtain ⟨m, hm⟩ : ∃ m : Nat, (i + j) / 2 = m := ⟨_, rfl⟩
    have hm1 : ((i : Int) + j) / 2 = m := by omega
    have hml : m < l.length := by omega
    have hmi : i ≤ m ∧ m < j := by omega
    obtain ⟨b2, o2, rfl, hb2, q0, q1, q2, _⟩ := hal.at (Below.refl _ _) hml
    have HLT : Hid (l[m].hi < c → ∀ t (ht : t < l.length), t < m + 1 → l[t].hi < c) := fun h t ht htm => by
      rcases Nat.lt_or_ge t m with h' | h'
      · exact Int.lt_trans (HU.out.at ht hml h') h
      · obtain rfl : t = m := by omega
        exact h
    have HGE : Hid (c ≤ l[m].hi → ∀ t (ht : t < l.length), m ≤ t → c ≤ l[t].hi) := fun h t ht htm => by
      rcases Nat.lt_or_ge m t with h' | h'
      · have := HU.out.at hml ht h'; omega
      · obtain rfl : t = m := by omega
        exact h
    generalize l[m].lo = lo at *
    generalize l[m].hi = hi at *
    generalize l[m].tg = tg at *
    clear hm hal
    have HBR : Hid (Below w.heap.size w wr) := BR
    have HC := ledC_any lo hi tg c wr
    clear BR
    go_wp2_with fail
    refine HC.mono ?_
    rintro e w2 ⟨rfl, hb3⟩
    have BW : Below w.heap.size w w2 := HBR.out.trans (hb3.mono HBR.out.size)
    clear HC hb3 HBR q0 q1 q2 hb2
    by_cases hc : hi < c
    · have d0 : cmpI hi c < 0 := cmpI_lt.2 hc
      have d : decide (cmpI hi c < 0) = true := decide_eq_true d0
      have HF2 : Hid ((∀ t (ht : t < l.length), t < m + 1 → l[t].hi < c) ∧ (∀ t (ht : t < l.length), j ≤ t → c ≤ l[t].hi)) := ⟨HLT.out hc, HF.out.2⟩
      generalize cmpI hi c = cv at *
      clear HF HLT HGE hc
      go_wp2_with fail
      exact ⟨⟨m + 1, j, by go_num, rfl, by omega, hj, HF2, BW⟩, by simp [intOf]; omega⟩
    · have d0 : ¬ cmpI hi c < 0 := fun h => hc (cmpI_lt.1 h)
      have d : decide (cmpI hi c < 0) = false := decide_eq_false d0
      have HF2 : Hid ((∀ t (ht : t < l.length), t < i → l[t].hi < c) ∧ (∀ t (ht : t < l.length), m ≤ t → c ≤ l[t].hi)) := ⟨HF.out.1, HGE.out (Int.not_lt.1 hc)⟩
      generalize cmpI hi c = cv at *
      clear HF HLT HGE hc
      go_wp2_with fail
      exact ⟨⟨i, m, rfl, rfl, by omega, by omega, HF2, BW⟩, by simp [intOf]; omega⟩
  · obtain rfl : i = j := by omega
    have HP : Hid (posH l c = i) := posH_eq hj (fun t ht h => HF.out.1 t ht h) (fun h => Int.not_lt.2 (HF.out.2 i h (Nat.le_refl _)))
    have HV : Hid (thereH l c = (l[i]?).any fun x => decide (x.hi = c)) := by show _ = _; unfold thereH; rw [HP.out]
    obtain ⟨TB, HTB⟩ : ∃ TB, Hid (thereH l c = TB) := ⟨_, rfl⟩
    rw [HTB.out] at HV
    by_cases hil : i < l.length
    · obtain ⟨b2, o2, rfl, hb2, q0, q1, q2, _⟩ := hal.at (Below.refl _ _) hil
      have HX : Hid (TB = decide (l[i].hi = c)) := by show _ = _; rw [HV.out, List.getElem?_eq_getElem hil]; rfl
      generalize l[i].lo = lo at *
      generalize l[i].hi = hi at *
      generalize l[i].tg = tg at *
      have HX2 : Hid (TB = (cmpI hi c == 0)) := by
        show _ = _
        rw [HX.out, Bool.eq_iff_iff, decide_eq_true_eq, beq_iff_eq, cmpI_zero]
      clear hal HF HV HX
      have d8 : decide ((i : Int) < l.length) = true := decide_eq_true (by omega)
      have HBR : Hid (Below w.heap.size w wr) := BR
      have HC := ledC_any lo hi tg c wr
      clear BR
      go_wp2_with fail
      refine HC.mono ?_
      rintro e w2 ⟨rfl, hb3⟩
      have BW : Below w.heap.size w w2 := HBR.out.trans (hb3.mono HBR.out.size)
      clear HC hb3 HBR q0 q1 q2 hb2
      go_wp2_with fail
      go_ret2
      exact ⟨by rw [HTB.out, HX2.out, HP.out]; rfl, BW⟩
    · have HX2 : Hid (TB = false) := by show _ = _; rw [HV.out, List.getElem?_eq_none (by omega)]; rfl
      clear hal HF HV
      have d8 : decide ((i : Int) < l.length) = false := decide_eq_false (by omega)
      go_wp2_with fail
      go_ret2
      exact ⟨by rw [HTB.out, HX2.out, HP.out]; rfl, BR⟩

set_option maxRecDepth 100000 in
set_option maxHeartbeats 1600000 in
theorem led_any (d : List Ds) (v : Value) (n c : Int) (w : World) (hl : SlD d v w) (hu : ∀ s ∈ d, upA s.arcs 0 ∧ s.arcs.length ≤ 1000000) (h0 : 0 ≤ c) (h1 : c ≤ 255) :
    Calls Try.prog 41 #[v, .int .i64 n, .int .u8 c] w fun e w' => e = .returned (.int .i64 (ledD d n c)) ∧ Below w.heap.size w w' := by
  have HL : Hid (∀ W, Below w.heap.size w W → SlD d v W) := fun W hb => hl.next hb
  obtain ⟨la, lc, rfl, hal, _, _, hlb⟩ := hl
  have C1 := isState_any la d.length lc n w
  by_cases hn : 0 ≤ n ∧ n < d.length
  case neg =>
    have HV : Hid (ledD d n c = -1) := by
      show _ = _
      unfold ledD arcsD nextA
      rcases Int.lt_or_le n 0 with hlt | hge
      · rw [if_neg (by omega)]; rfl
      · rw [if_pos hge, List.getElem?_eq_none (by omega)]; rfl
    rw [decide_eq_false hn] at C1
    clear HL hal hu
    go_enter Try.func41, Try.ntmps41
    go_wp2_with fail
    refine C1.mono ?_
    rintro e w1 ⟨rfl, rfl⟩
    clear C1
    go_wp2_with fail
    go_ret
    exact ⟨by rw [HV.out]; rfl, Below.refl _ _⟩
  obtain ⟨k, rfl⟩ : ∃ k : Nat, n = k := ⟨n.toNat, by omega⟩
  have hk : k < d.length := by omega
  rw [decide_eq_true hn] at C1
  obtain ⟨b2, o2, u, rfl, hb2, q0, q1, hA, _⟩ := hal.at (Below.refl _ _) hk
  have hua := hu _ (List.getElem_mem hk)
  have HV : Hid (ledD d k c = nextA d[k].arcs c) := by show _ = _; unfold ledD; rw [(arcsD_mem hk).1]
  generalize d[k].arcs = l at *
  have C2 := bsearch_any l u c w hA (upA_upH hua.1) hua.2
  have HN : Hid (ledD d k c = match l[posH l c]? with
    | some x => if c < x.lo then -1 else x.tg
    | none => -1) := by show _ = _; rw [HV.out]; exact nextA_pos hua.1
  have HA : Hid (∀ W, Below w.heap.size w W → SlA l u W) := fun W hb => hA.next hb
  have hpl := posH_le l c
  obtain ⟨aa, ac, rfl, _⟩ := hA
  generalize thereH l c = tb at *
  generalize posH l c = p at *
  clear HV hal hu hua HL
  go_enter Try.func41, Try.ntmps41
  go_wp2_with fail
  refine C1.mono ?_
  rintro e w1 ⟨rfl, rfl⟩
  clear C1
  go_wp2_with fail
  refine C2.mono ?_
  rintro e w2 ⟨rfl, hb⟩
  clear C2
  obtain ⟨_, _, e0, hal, _⟩ := HA.out _ hb
  cases e0
  by_cases hp : p = l.length
  · subst hp
    have HV : Hid (ledD d k c = -1) := by show _ = _; rw [HN.out, List.getElem?_eq_none (Nat.le_refl _)]
    clear HN HA hal
    go_wp2_with fail
    go_ret
    exact ⟨by rw [HV.out]; rfl, hb⟩
  have hp2 : p < l.length := by omega
  have d1 : ((p : Int) == l.length) = false := by simpa using (by omega : ¬ (p : Int) = l.length)
  obtain ⟨b3, o3, rfl, hb3, r0, r1, r2, _⟩ := hal.at (Below.refl _ _) hp2
  rw [List.getElem?_eq_getElem hp2] at HN
  generalize l[p] = x at *
  by_cases hc : c < x.lo
  · have HV : Hid (ledD d k c = -1) := by show _ = _; rw [HN.out]; simp [hc]
    have d2 : decide (c < x.lo) = true := decide_eq_true hc
    clear HN HA hal
    go_wp2_with fail
    go_ret
    exact ⟨by rw [HV.out]; rfl, hb⟩
  · have HV : Hid (ledD d k c = x.tg) := by show _ = _; rw [HN.out]; simp [hc]
    have d2 : decide (c < x.lo) = false := decide_eq_false hc
    clear HN HA hal
    go_wp2_with fail
    go_ret
    exact ⟨by rw [HV.out]; rfl, hb⟩
end Go.Proofs.Ytdalomibilicfaa
