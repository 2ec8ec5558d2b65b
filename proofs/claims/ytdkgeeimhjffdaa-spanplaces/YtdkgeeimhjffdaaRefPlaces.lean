/- Size and Outer of the document: as the program's. -/
import Derived.Test.YtdkgeeimhjffdaaInner
import Derived.Test.YtdkgeeimhjffdaaText
import Derived.Deep.QuietTactic
namespace Go.Proofs.Ytdkgeeimhjffdaa
open Go.RowKit Go.Shelf

set_option maxHeartbeats 800000 in
theorem rsize_any (es : List Rg) (ao : Option Addr) (cap : Nat) (w : World) (hc : RgAt es ao w) (hf : Fit es) (ho : ∀ r ∈ es, RgOk r) (hl : es.length ≤ 1000000) :
    Calls Try.prog 26 #[.slice ao es.length cap] w fun e w' => e = .returned (.int .i64 (sizeN es)) ∧ Below w.heap.size w w' := by
  go_enter Try.func26, Try.ntmps26
  go_wp2
  go_loopw [3, 4] (fun t i wr => ∃ (T : Int) (j : Nat), t = .int .i64 T ∧ i = .int .i64 j ∧ j ≤ es.length ∧ 0 ≤ T ∧ sizeN es = T + sizeN (es.drop j) ∧ Below w.heap.size w wr) (fun _ i _ => es.length - (intOf i).toNat)
  case atStart => exact ⟨0, 0, rfl, rfl, Nat.zero_le _, Int.le_refl _, by simp, Below.refl _ _⟩
  case round =>
    obtain ⟨T, j, rfl, rfl, hj, hT, hrel, B1⟩ := hrel
    by_cases hlt : j < es.length
    · obtain ⟨b, off, rfl, c0, c1⟩ := hc.at B1 hlt
      have hm := sizeN_max hf ho
      have h0 := hf.1 _ (List.getElem_mem hlt)
      have hk := ho _ (List.getElem_mem hlt)
      have hn := sizeN_nonneg (hf.drop (j + 1))
      rw [List.drop_eq_getElem_cons hlt] at hrel
      simp only [sizeN] at hrel
      generalize es[j] = r at *
      obtain ⟨r0, r1⟩ := r
      unfold RgOk at hk
      simp only at c0 c1 hrel h0 hk
      have HR : Hid (sizeN es = T + (r1 - r0) + sizeN (es.drop (j + 1))) := by show _ = _; omega
      -- T + r1 may wrap round, and is back behind the minus
      have HW : Hid (wrap64 (wrap64 (T + r1) - r0) = T + (r1 - r0)) := by
        show _ = _
        have h1 : wrap64 (wrap64 (T + r1) - r0) = wrap64 (T + r1 - r0) := by
          unfold wrap64
          omega
        rw [h1, IntWalk.wrap64_in _ (by omega)]
        omega
      have k1 : 0 ≤ r1 - r0 := by omega
      clear hrel hc hf ho hm hn hk
      go_wp2
      go_quiet (fail)
      go_wp2
      exact ⟨⟨T + (r1 - r0), j + 1, by rw [HW.out], by go_num, by omega, by omega, HR.out, below_drewN B1 _⟩, by simp [intOf]; omega⟩
    · have HS : Hid (sizeN es = T) := by
        show _ = _
        rw [hrel, List.drop_of_length_le (by omega)]
        simp [sizeN]
      clear hrel hc hf ho
      go_wp2
      go_ret
      exact ⟨ret_int HS.out.symm, B1⟩

set_option maxHeartbeats 800000 in
theorem router_any (es : List Rg) (ao : Option Addr) (cap : Nat) (x : Int) (w : World) (hc : RgAt es ao w) (hf : Fit es) (ho : ∀ r ∈ es, RgOk r) (hl : es.length ≤ 1000000) (hx1 : x ≤ 9223372036854775807) :
    Calls Try.prog 22 #[.slice ao es.length cap, .int .i64 x] w fun e w' => e = .returned (.tuple #[.int .i64 (outN x es).1, .bool (outN x es).2]) ∧ Below w.heap.size w w' := by
  by_cases hx : x < 0
  · rw [outN, if_pos hx]
    clear hc hf ho
    go_enter Try.func22, Try.ntmps22
    go_wp2
    go_ret2
    exact ⟨rfl, Below.refl _ _⟩
  · rw [outN, if_neg hx]
    go_enter Try.func22, Try.ntmps22
    go_wp2
    go_loopw [1, 6] (fun t i wr => ∃ (T : Int) (j : Nat), t = .int .i64 T ∧ i = .int .i64 j ∧ j ≤ es.length ∧ 0 ≤ T ∧ T ≤ 9223372036854775807 ∧ outF x es = outF T (es.drop j) ∧ Below w.heap.size w wr) (fun _ i _ => es.length - (intOf i).toNat)
    case atStart => exact ⟨x, 0, rfl, rfl, Nat.zero_le _, by omega, hx1, by simp, Below.refl _ _⟩
    case round =>
      obtain ⟨T, j, rfl, rfl, hj, hT, hT1, hrel, B1⟩ := hrel
      by_cases hlt : j < es.length
      · obtain ⟨b, off, rfl, c0, c1⟩ := hc.at B1 hlt
        have h0 := hf.1 _ (List.getElem_mem hlt)
        have hk := ho _ (List.getElem_mem hlt)
        rw [List.drop_eq_getElem_cons hlt, outF] at hrel
        generalize es[j] = r at *
        obtain ⟨r0, r1⟩ := r
        unfold RgOk at hk
        simp only at c0 c1 hrel h0 hk
        obtain ⟨h01, h02⟩ := h0
        obtain ⟨_, _, _, hk4⟩ := hk
        by_cases hlt2 : T < r1 - r0
        · have HR : Hid (outF x es = (r0 + T, true)) := by show _ = _; rw [hrel, if_pos hlt2]
          have hd : decide (T < r1 - r0) = true := decide_eq_true hlt2
          clear hrel hc hf ho
          go_wp2
          go_quiet (fail)
          go_wp2
          go_ret2
          exact ⟨ret_ib (by rw [HR.out]), below_drewN B1 _⟩
        · have HR : Hid (outF x es = outF (T - (r1 - r0)) (es.drop (j + 1))) := by show _ = _; rw [hrel, if_neg hlt2]
          have hd : decide (T < r1 - r0) = false := decide_eq_false hlt2
          clear hrel hc hf ho
          go_wp2
          go_quiet (fail)
          go_wp2
          go_quiet (fail)
          go_wp2
          exact ⟨⟨T - (r1 - r0), j + 1, by go_num, by go_num, by omega, by omega, by omega, HR.out, below_drewN B1 _⟩, by simp [intOf]; omega⟩
      · have HS : Hid (outF x es = (0, false)) := by
          show _ = _
          rw [hrel, List.drop_of_length_le (by omega)]
          rfl
        clear hrel hc hf ho
        go_wp2
        go_ret2
        exact ⟨ret_ib (by rw [HS.out]), B1⟩

theorem in_has : ∀ {es : List Rg} {x T : Int}, Fit es → (innF x T es).2 = hasL es x
  | [], _, _, _ => rfl
  | r :: t, x, T, hf => by
    have h0 := hf.1 r (by simp)
    rw [innF, hasL_cons]
    by_cases h1 : x < r.1
    · rw [if_pos h1, decide_eq_false (by omega), Bool.false_or]
      rcases hb : hasL t x with _ | _
      · rfl
      · obtain ⟨s, hs, _, k1, _⟩ := hasL_iff.1 hb
        have := hf.head s hs
        omega
    · rw [if_neg h1]
      by_cases h2 : x < r.2
      · rw [if_pos h2, decide_eq_true (by omega)]
        rfl
      · rw [if_neg h2, in_has hf.tail, decide_eq_false (by omega)]
        rfl
theorem in_step {r : Rg} {t : List Rg} {x T : Int} (hf : Fit (r :: t)) (h : r.1 < x) : (innF x T (r :: t)).1 = (innF x (T + (min r.2 x - r.1)) t).1 := by
  rw [innF, if_neg (by omega)]
  by_cases h2 : x < r.2
  · rw [if_pos h2]
    have e : min r.2 x = x := by omega
    rw [e]
    cases t with
    | nil => rfl
    | cons s u =>
      have := hf.head s (by simp)
      rw [innF, if_pos (by omega)]
  · rw [if_neg h2]
    have e : min r.2 x = r.2 := by omega
    rw [e]
theorem in_stop {r : Rg} {t : List Rg} {x T : Int} (hf : Fit (r :: t)) (h : x ≤ r.1) : (innF x T (r :: t)).1 = T := by
  have h0 := hf.1 r (by simp)
  rw [innF]
  by_cases h1 : x < r.1
  · rw [if_pos h1]
  · rw [if_neg h1, if_pos (by omega)]
    simp only
    omega

set_option maxHeartbeats 800000 in
theorem rinner_any (es : List Rg) (ao : Option Addr) (cap : Nat) (x : Int) (w : World) (hc : RgAt es ao w) (hf : Fit es) (ho : ∀ r ∈ es, RgOk r) (hl : es.length ≤ 1000000) (_hx0 : -9223372036854775808 ≤ x) (_hx1 : x ≤ 9223372036854775807) :
    Calls Try.prog 24 #[.slice ao es.length cap, .int .i64 x] w fun e w' => e = .returned (.tuple #[.int .i64 (innF x 0 es).1, .bool (innF x 0 es).2]) ∧ Below w.heap.size w w' := by
  have hha := fun W (h : Below w.heap.size w W) => has_any es ao cap x W (hc.next h) hl
  rw [← in_has (T := 0) hf] at hha
  go_enter Try.func24, Try.ntmps24
  go_wp2
  go_loopw [6, 7] (fun t i wr => ∃ (T : Int) (j : Nat), t = .int .i64 T ∧ i = .int .i64 j ∧ j ≤ es.length ∧ 0 ≤ T ∧ T + sizeN (es.drop j) ≤ 9223372036854775807 ∧ (innF x 0 es).1 = (innF x T (es.drop j)).1 ∧ Below w.heap.size w wr) (fun _ i _ => es.length - (intOf i).toNat)
  case atStart => exact ⟨0, 0, rfl, rfl, Nat.zero_le _, Int.le_refl _, by have := sizeN_max hf ho; simp; omega, by simp, Below.refl _ _⟩
  case round =>
    obtain ⟨T, j, rfl, rfl, hj, hT, hsz, hrel, B1⟩ := hrel
    by_cases hlt : j < es.length
    · obtain ⟨b, off, rfl, c0, c1⟩ := hc.at B1 hlt
      have hfd := hf.drop j
      have hk := ho _ (List.getElem_mem hlt)
      have hn := sizeN_nonneg (hf.drop (j + 1))
      rw [List.drop_eq_getElem_cons hlt] at hrel hfd hsz
      have h0 := hfd.1 _ (List.mem_cons_self ..)
      simp only [sizeN] at hsz
      generalize es[j] = r at *
      obtain ⟨r0, r1⟩ := r
      unfold RgOk at hk
      simp only at c0 c1 h0 hk hsz
      by_cases hlt2 : r0 < x
      · obtain ⟨M, hM⟩ : ∃ M, min r1 x = M := ⟨_, rfl⟩
        have HR : Hid ((innF x 0 es).1 = (innF x (T + (M - r0)) (es.drop (j + 1))).1) := by show _ = _; rw [hrel, in_step hfd hlt2, hM]
        have HW : Hid (wrap64 (wrap64 (T + M) - r0) = T + (M - r0)) := by
          show _ = _
          have h1 : wrap64 (wrap64 (T + M) - r0) = wrap64 (T + M - r0) := by
            unfold wrap64
            omega
          rw [h1, IntWalk.wrap64_in _ (by omega)]
          omega
        have hMb : r0 < M ∧ M ≤ r1 := by omega
        have HB : Hid (0 ≤ T + (M - r0) ∧ T + (M - r0) + sizeN (es.drop (j + 1)) ≤ 9223372036854775807) := by show _ ∧ _; omega
        have HC : Hid (RgAt es (some ⟨b, off, none⟩) w) := hc
        clear hrel hc hf ho hfd hn hsz
        go_wp2
        go_quiet (fail)
        go_wp2
        exact ⟨⟨T + (M - r0), j + 1, by rw [HW.out], by go_num, by omega, HB.out.1, HB.out.2, HR.out, below_drewN B1 _⟩, by simp [intOf]; omega⟩
      · have HS : Hid ((innF x 0 es).1 = T) := by show _ = _; rw [hrel, in_stop hfd (by simp only; omega)]
        have hcall := hha _ B1
        clear hrel hc hf ho hfd hn hsz hha
        go_wp2_with fail
        refine hcall.mono ?_
        rintro e w2 ⟨rfl, hb⟩
        replace B1 := below_then B1 hb B1.size
        clear hcall hb
        go_wp2
        go_ret2
        exact ⟨ret_ib (by rw [HS.out]), B1⟩
    · have HS : Hid ((innF x 0 es).1 = T) := by
        show _ = _
        rw [hrel, List.drop_of_length_le (by omega)]
        rfl
      have hcall := hha _ B1
      clear hrel hc hf ho hsz hha
      go_wp2_with fail
      refine hcall.mono ?_
      rintro e w2 ⟨rfl, hb⟩
      replace B1 := below_then B1 hb B1.size
      clear hcall hb
      go_wp2
      go_ret2
      exact ⟨ret_ib (by rw [HS.out]), B1⟩

theorem piece_none {l : List UInt8} {r : Rg} (h : (l.length : Int) ≤ r.1) : pieceN l r = [] := by
  unfold pieceN
  rw [List.drop_of_length_le (by omega)]
  simp

set_option maxHeartbeats 800000 in
theorem rtext_any (s : ByteArray) (es : List Rg) (ao : Option Addr) (cap : Nat) (w : World) (hs : s.size ≤ 140737488351232) (hc : RgAt es ao w) (hf : Fit es) (hl : es.length ≤ 1000000) :
    Calls Try.prog 28 #[.string s, .slice ao es.length cap] w fun e w' => e = .returned (.string ⟨(textN s.data.toList es).toArray⟩) ∧ Below w.heap.size w w' := by
  go_enter Try.func28, Try.ntmps28
  go_wp2
  go_loopw [5, 6] (fun t i wr => ∃ (O : ByteArray) (j : Nat), t = .string O ∧ i = .int .i64 j ∧ j ≤ es.length ∧ O.data.toList = textN s.data.toList (es.take j) ∧ Below w.heap.size w wr) (fun _ i _ => es.length - (intOf i).toNat)
  case atStart => exact ⟨⟨#[]⟩, 0, rfl, rfl, Nat.zero_le _, by simp [textN], Below.refl _ _⟩
  case round =>
    obtain ⟨O, j, rfl, rfl, hj, hO, B1⟩ := hrel
    by_cases hlt : j < es.length
    · obtain ⟨b, off, rfl, c0, c1⟩ := hc.at B1 hlt
      have h0 := hf.1 _ (List.getElem_mem hlt)
      have hST := textN_step (l := s.data.toList) hlt
      have hlen := textN_len (l := s.data.toList) (hf.take j)
      have e2 : s.data.toList.length = s.size := rfl
      have e3 : O.data.toList.length = O.size := rfl
      rw [← hO, e3, e2] at hlen
      generalize es[j] = r at *
      obtain ⟨r0, r1⟩ := r
      simp only at c0 c1 h0
      obtain ⟨x, rfl⟩ := Int.eq_ofNat_of_zero_le h0.1
      obtain ⟨y, rfl⟩ := Int.eq_ofNat_of_zero_le (show 0 ≤ r1 by omega)
      have hxy : x < y := by omega
      by_cases hlt2 : x < s.size
      · obtain ⟨t, htd⟩ : ∃ t, t = min y s.size := ⟨_, rfl⟩
        have hex := piece_extract s x y x t hxy (by omega) (by omega)
        have e4 : min (y : Int) (s.size : Int) = t := by omega
        have hft : x ≤ t := by omega
        have hts : t ≤ s.size := by omega
        have hft' : (x : Int) ≤ t := by omega
        have hts' : (t : Int) ≤ s.size := by omega
        have hlt3 : (x : Int) < s.size := by omega
        have HO : Hid ((O ++ s.extract x t).data.toList = textN s.data.toList (es.take (j + 1))) := by
          show _ = _
          rw [hST, ← hO, ← hex]
          simp
        have hes : (s.extract x t).size ≤ 140737488351232 := by simp; omega
        clear hO hc hf hST hex h0 htd
        go_wp2
        go_quiet (fail)
        go_wp2

        exact ⟨⟨O ++ s.extract x t, j + 1, rfl, by go_num, by omega, HO.out, below_drewN B1 _⟩, by simp [intOf]; omega⟩
      · have hlt3 : ¬ (x : Int) < s.size := by omega
        have HO : Hid (O.data.toList = textN s.data.toList (es.take (j + 1))) := by
          show _ = _
          rw [hST, piece_none (by simp only; omega), List.append_nil, hO]
        clear hO hc hf hST h0
        go_wp2
        exact ⟨⟨O, j + 1, rfl, by go_num, by omega, HO.out, B1⟩, by simp [intOf]; omega⟩
    · have HS : Hid (O = ⟨(textN s.data.toList es).toArray⟩) := by
        show _ = _
        rw [List.take_of_length_le (by omega)] at hO
        rw [← hO]
      clear hO hc hf
      go_wp2
      go_ret
      exact ⟨by rw [HS.out]; rfl, B1⟩
end Go.Proofs.Ytdkgeeimhjffdaa
