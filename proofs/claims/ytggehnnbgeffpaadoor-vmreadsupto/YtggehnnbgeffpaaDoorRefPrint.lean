/- Print of the document: one text with the program's. -/
import Derived.Test.YtggehnnbgeffpaaDoorDigits
import Derived.Test.YtggehnnbgeffpaaDoorBackMath
import Derived.Deep.RegionHeld3
namespace Go.Proofs.YtggehnnbgeffpaaDoor
open Go.Shelf Go.RowKit Go.Lib Go.Proofs

theorem itoa_nat (n : Nat) : Lib.itoa (n : Int) = Lib.decDigits n := by
  unfold Lib.itoa
  rw [if_neg (by omega)]
  rfl
theorem print_snoc (l : List Ins) (i : Ins) : printN (l ++ [i]) = if l = [] then writtenN i else printN l ++ [59, 32] ++ writtenN i := by
  induction l with
  | nil => simp [printN, Lib.join, List.intercalate]
  | cons a t ih =>
    rw [if_neg (by simp)]
    cases t with
    | nil => simp [printN, Lib.join, List.intercalate]
    | cons b r =>
      have e : (a :: b :: r) ++ [i] = a :: b :: (r ++ [i]) := rfl
      rw [e, print_cons, print_cons]
      have ih' : printN (b :: (r ++ [i])) = printN (b :: r) ++ [59, 32] ++ writtenN i := by
        have := ih
        rw [if_neg (by simp)] at this
        exact this
      rw [ih']
      simp

/-- The box of the operation that is written, in whatever world behind. -/
abbrev BoxS (N : Nat) (x y z : Int) (w W : World) : Prop := W.cell? ⟨N, 1, none⟩ = some (.int .i64 x) ∧ W.cell? ⟨N, 2, none⟩ = some (.int .i64 y) ∧ W.cell? ⟨N, 3, none⟩ = some (.int .i64 z) ∧ N < W.heap.size ∧ Below w.heap.size w W
theorem BoxS.next {N : Nat} {x y z : Int} {w W W' : World} (h : BoxS N x y z w W) (hb : Below W.heap.size W W') : BoxS N x y z w W' :=
  ⟨(hb.cell (p := ⟨N, 1, none⟩) h.2.2.2.1).trans h.1, (hb.cell (p := ⟨N, 2, none⟩) h.2.2.2.1).trans h.2.1, (hb.cell (p := ⟨N, 3, none⟩) h.2.2.2.1).trans h.2.2.1, Nat.lt_of_lt_of_le h.2.2.2.1 hb.size, below_next h.2.2.2.2 hb⟩

set_option maxRecDepth 100000 in
set_option maxHeartbeats 8000000 in
theorem refPrint_any (p : List Ins) (ao : Option Addr) (cap : Nat) (w : World) (hc : InsAt p ao w) (hf : fitP p = true) (hok : ∀ i ∈ p, InsOk i) :
    Calls Tryd.prog 12 #[.slice ao p.length cap] w fun e w' => e = .returned (.string (strB (printN p))) ∧ Below w.heap.size w w' := by
  have hlen := fitP_len hf
  go_enter Tryd.func12, Tryd.ntmps12
  go_wp2
  go_loopw [3, 4] (fun t c wr => ∃ j : Nat, c = .int .i64 j ∧ j ≤ p.length ∧ t = .string (strB (printN (p.take j))) ∧ Below w.heap.size w wr) (fun _ c _ => p.length - (intOf c).toNat)
  case atStart => exact ⟨0, rfl, Nat.zero_le _, rfl, Below.refl _ _⟩
  case round =>
    obtain ⟨j, rfl, hj, rfl, B1⟩ := hrel
    by_cases hlt : j < p.length
    · obtain ⟨b, off, rfl, hb, e0, e1, e2, e3⟩ := hc.at B1 hlt
      have hbr : b < wr.heap.size := Nat.lt_of_lt_of_le hb B1.size
      have k1 : (j : Int) < p.length := by omega
      have hmem : p[j] ∈ p := List.getElem_mem _
      have hfb := fitB_facts (fitP_mem hf hmem)
      have hwl := writtenN_le p[j] (hok _ hmem)
      have hpl : (printN (p.take j)).length ≤ 6528 := by
        have := join_le ((p.take j).map writtenN) (fun x hx => by
          obtain ⟨i, hi, rfl⟩ := List.mem_map.1 hx
          exact writtenN_le i (hok i (List.mem_of_mem_take hi)))
        simp only [List.length_map, List.length_take] at this
        unfold printN
        omega
      have HT : Hid (printN (p.take (j + 1)) = if j = 0 then writtenN p[j] else printN (p.take j) ++ [59, 32] ++ writtenN p[j]) := by
        show _ = _
        rw [List.take_succ_eq_append_getElem hlt, print_snoc]
        by_cases h0 : j = 0
        · rw [if_pos h0, if_pos (by simp [h0])]
        · rw [if_neg h0, if_neg (by intro h; have := congrArg List.length h; rw [List.length_take, List.length_nil] at this; omega)]
      generalize hpj : printN (p.take j) = tx at *
      generalize p[j] = i at *
      obtain ⟨o, x, y, z⟩ := i
      simp only at e0 e1 e2 e3 hfb
      obtain ⟨f0, f1, f2, f3⟩ := hfb
      obtain ⟨xn, rfl⟩ : ∃ xn : Nat, x = xn := ⟨x.toNat, by omega⟩
      obtain ⟨yn, rfl⟩ : ∃ yn : Nat, y = yn := ⟨y.toNat, by omega⟩
      obtain ⟨zn, rfl⟩ : ∃ zn : Nat, z = zn := ⟨z.toNat, by omega⟩
      have hS0 : BoxS wr.heap.size xn yn zn w (wr.alloc (.cells #[.int .i64 o, .int .i64 xn, .int .i64 yn, .int .i64 zn] 39)) := by
        refine ⟨by go_simp, by go_simp, by go_simp, by simp, B1.alloc B1.size _⟩
      have hdx : ∀ W, BoxS wr.heap.size xn yn zn w W → Calls Tryd.prog 29 #[.int .i64 xn] W fun e W' => e = .returned (.string ⟨(Lib.decDigits xn).toArray⟩) ∧ BoxS wr.heap.size xn yn zn w W' := fun W h => (digits_any xn (by omega) W).mono fun e W' ⟨q1, q2⟩ => ⟨q1, h.next q2⟩
      have hdy : ∀ W, BoxS wr.heap.size xn yn zn w W → Calls Tryd.prog 29 #[.int .i64 yn] W fun e W' => e = .returned (.string ⟨(Lib.decDigits yn).toArray⟩) ∧ BoxS wr.heap.size xn yn zn w W' := fun W h => (digits_any yn (by omega) W).mono fun e W' ⟨q1, q2⟩ => ⟨q1, h.next q2⟩
      have hdz : ∀ W, BoxS wr.heap.size xn yn zn w W → Calls Tryd.prog 29 #[.int .i64 zn] W fun e W' => e = .returned (.string ⟨(Lib.decDigits zn).toArray⟩) ∧ BoxS wr.heap.size xn yn zn w W' := fun W h => (digits_any zn (by omega) W).mono fun e W' ⟨q1, q2⟩ => ⟨q1, h.next q2⟩
      have lx : (Lib.decDigits xn).length ≤ 21 := by have := Lib.itoa_length_le (xn : Int) (by omega) (by omega); rwa [itoa_nat] at this
      have ly : (Lib.decDigits yn).length ≤ 21 := by have := Lib.itoa_length_le (yn : Int) (by omega) (by omega); rwa [itoa_nat] at this
      have lz : (Lib.decDigits zn).length ≤ 21 := by have := Lib.itoa_length_le (zn : Int) (by omega) (by omega); rwa [itoa_nat] at this
      have HW : Hid (writtenN ⟨o, xn, yn, zn⟩ = wordL o.toNat ++ (if useX o.toNat then 32 :: Lib.decDigits xn else []) ++ (if useY o.toNat then 32 :: Lib.decDigits yn else []) ++ (if useZ o.toNat then 32 :: Lib.decDigits zn else [])) := by
        show _ = _
        simp only [writtenN, partN, itoa_nat]
      have hd : ∀ (n : Nat) (W : World), n ≤ 1000000 → BoxS wr.heap.size xn yn zn w W → Calls Tryd.prog 29 #[.int .i64 n] W fun e W' => e = .returned (.string ⟨(Lib.decDigits n).toArray⟩) ∧ BoxS wr.heap.size xn yn zn w W' := fun n W hn h => (digits_any n hn W).mono fun e W' q => ⟨q.1, BoxS.next h q.2⟩
      have bx : xn ≤ 1000000 := by omega
      have bby : yn ≤ 1000000 := by omega
      have bz : zn ≤ 1000000 := by omega
      generalize Lib.decDigits = D at *
      have ho : o = 1 ∨ o = 2 ∨ o = 3 ∨ o = 4 ∨ o = 5 ∨ o = 6 ∨ o = 7 := by omega
      clear f0 f1 f2 f3 hc hmem hok hf hb
      have HTX : Hid (j = 0 → tx = []) := fun h => by rw [← hpj, h]; simp [printN, Lib.join, List.intercalate]
      have htl : tx.length ≤ 6528 := hpl
      clear hpj hwl hpl
      rcases ho with rfl | rfl | rfl | rfl | rfl | rfl | rfl
      case inl =>
        by_cases h0 : j = 0
        · have q0 : ¬ (0 : Int) < j := by omega
          have HJ : Hid (j = 0) := h0
          clear h0
          have zz1 : ¬ 9223372036854775807 < tx.length + 5 := by omega
          have zz2 : ¬ 9223372036854775807 < tx.length + 5 + (D xn).length := by omega
          have zz3 : ¬ 9223372036854775807 < tx.length + 5 + (D xn).length + 1 := by omega
          have zz4 : ¬ 9223372036854775807 < tx.length + 5 + (D xn).length + 1 + (D yn).length := by omega
          have zz5 : ¬ 9223372036854775807 < tx.length + 5 + (D xn).length + 1 + (D yn).length + 1 := by omega
          have zz6 : ¬ 9223372036854775807 < tx.length + 5 + (D xn).length + 1 + (D yn).length + 1 + (D zn).length := by omega
          have HB : Hid (BoxS wr.heap.size xn yn zn w (wr.alloc (.cells #[.int .i64 1, .int .i64 xn, .int .i64 yn, .int .i64 zn] 39)).drew) := ⟨hS0.1, hS0.2.1, hS0.2.2.1, hS0.2.2.2.1, hS0.2.2.2.2.drew⟩
          clear hS0 hdx hdy hdz
          go_wp2_with fail
          go_region_held3 (fun w' => w'.cell? ⟨wr.heap.size, 1, none⟩ = some (.int .i64 xn) ∧ w'.cell? ⟨wr.heap.size, 2, none⟩ = some (.int .i64 yn) ∧ w'.cell? ⟨wr.heap.size, 3, none⟩ = some (.int .i64 zn) ∧ wr.heap.size < w'.heap.size ∧ Below w.heap.size w w') (first | exact HB.out | assumption) ((go_at_call 29; refine (hd _ _ (by assumption) (by assumption)).mono ?_; rintro e w' ⟨rfl, hS⟩))
          all_goals
            have HS : Hid (Below w.heap.size w _) := hS.2.2.2.2
            clear hS
            go_wp2_with fail
            refine ⟨⟨j + 1, by go_num, by omega, congrArg Value.string (ba_ext ?_), HS.out⟩, by simp [intOf]; omega⟩
            rw [HT.out, if_pos HJ.out, HW.out, HTX.out HJ.out]
            simp [wordL, useX, useY, useZ]
        · have q0 : (0 : Int) < j := by omega
          have HJ : Hid (¬ j = 0) := h0
          clear h0
          have zz0 : ¬ 9223372036854775807 < tx.length + 2 := by omega
          have zz1 : ¬ 9223372036854775807 < tx.length + 7 := by omega
          have zz2 : ¬ 9223372036854775807 < tx.length + 7 + (D xn).length := by omega
          have zz3 : ¬ 9223372036854775807 < tx.length + 7 + (D xn).length + 1 := by omega
          have zz4 : ¬ 9223372036854775807 < tx.length + 7 + (D xn).length + 1 + (D yn).length := by omega
          have zz5 : ¬ 9223372036854775807 < tx.length + 7 + (D xn).length + 1 + (D yn).length + 1 := by omega
          have zz6 : ¬ 9223372036854775807 < tx.length + 7 + (D xn).length + 1 + (D yn).length + 1 + (D zn).length := by omega
          have HB : Hid (BoxS wr.heap.size xn yn zn w (wr.alloc (.cells #[.int .i64 1, .int .i64 xn, .int .i64 yn, .int .i64 zn] 39)).drew) := ⟨hS0.1, hS0.2.1, hS0.2.2.1, hS0.2.2.2.1, hS0.2.2.2.2.drew⟩
          clear hS0 hdx hdy hdz
          go_wp2_with fail
          go_region_held3 (fun w' => w'.cell? ⟨wr.heap.size, 1, none⟩ = some (.int .i64 xn) ∧ w'.cell? ⟨wr.heap.size, 2, none⟩ = some (.int .i64 yn) ∧ w'.cell? ⟨wr.heap.size, 3, none⟩ = some (.int .i64 zn) ∧ wr.heap.size < w'.heap.size ∧ Below w.heap.size w w') (first | exact HB.out | assumption) ((go_at_call 29; refine (hd _ _ (by assumption) (by assumption)).mono ?_; rintro e w' ⟨rfl, hS⟩))
          all_goals
            have HS : Hid (Below w.heap.size w _) := hS.2.2.2.2
            clear hS
            go_wp2_with fail
            refine ⟨⟨j + 1, by go_num, by omega, congrArg Value.string (ba_ext ?_), HS.out⟩, by simp [intOf]; omega⟩
            rw [HT.out, if_neg HJ.out, HW.out]
            simp [wordL, useX, useY, useZ]
      case inr.inl =>
        by_cases h0 : j = 0
        · have q0 : ¬ (0 : Int) < j := by omega
          have HJ : Hid (j = 0) := h0
          clear h0
          have zz1 : ¬ 9223372036854775807 < tx.length + 3 := by omega
          have zz2 : ¬ 9223372036854775807 < tx.length + 3 + (D xn).length := by omega
          have zz3 : ¬ 9223372036854775807 < tx.length + 3 + (D xn).length + 1 := by omega
          have zz4 : ¬ 9223372036854775807 < tx.length + 3 + (D xn).length + 1 + (D zn).length := by omega
          have HB : Hid (BoxS wr.heap.size xn yn zn w (wr.alloc (.cells #[.int .i64 2, .int .i64 xn, .int .i64 yn, .int .i64 zn] 39)).drew) := ⟨hS0.1, hS0.2.1, hS0.2.2.1, hS0.2.2.2.1, hS0.2.2.2.2.drew⟩
          clear hS0 hdx hdy hdz
          go_wp2_with fail
          go_region_held3 (fun w' => w'.cell? ⟨wr.heap.size, 1, none⟩ = some (.int .i64 xn) ∧ w'.cell? ⟨wr.heap.size, 2, none⟩ = some (.int .i64 yn) ∧ w'.cell? ⟨wr.heap.size, 3, none⟩ = some (.int .i64 zn) ∧ wr.heap.size < w'.heap.size ∧ Below w.heap.size w w') (first | exact HB.out | assumption) ((go_at_call 29; refine (hd _ _ (by assumption) (by assumption)).mono ?_; rintro e w' ⟨rfl, hS⟩))
          all_goals
            have HS : Hid (Below w.heap.size w _) := hS.2.2.2.2
            clear hS
            go_wp2_with fail
            refine ⟨⟨j + 1, by go_num, by omega, congrArg Value.string (ba_ext ?_), HS.out⟩, by simp [intOf]; omega⟩
            rw [HT.out, if_pos HJ.out, HW.out, HTX.out HJ.out]
            simp [wordL, useX, useY, useZ]
        · have q0 : (0 : Int) < j := by omega
          have HJ : Hid (¬ j = 0) := h0
          clear h0
          have zz0 : ¬ 9223372036854775807 < tx.length + 2 := by omega
          have zz1 : ¬ 9223372036854775807 < tx.length + 5 := by omega
          have zz2 : ¬ 9223372036854775807 < tx.length + 5 + (D xn).length := by omega
          have zz3 : ¬ 9223372036854775807 < tx.length + 5 + (D xn).length + 1 := by omega
          have zz4 : ¬ 9223372036854775807 < tx.length + 5 + (D xn).length + 1 + (D zn).length := by omega
          have HB : Hid (BoxS wr.heap.size xn yn zn w (wr.alloc (.cells #[.int .i64 2, .int .i64 xn, .int .i64 yn, .int .i64 zn] 39)).drew) := ⟨hS0.1, hS0.2.1, hS0.2.2.1, hS0.2.2.2.1, hS0.2.2.2.2.drew⟩
          clear hS0 hdx hdy hdz
          go_wp2_with fail
          go_region_held3 (fun w' => w'.cell? ⟨wr.heap.size, 1, none⟩ = some (.int .i64 xn) ∧ w'.cell? ⟨wr.heap.size, 2, none⟩ = some (.int .i64 yn) ∧ w'.cell? ⟨wr.heap.size, 3, none⟩ = some (.int .i64 zn) ∧ wr.heap.size < w'.heap.size ∧ Below w.heap.size w w') (first | exact HB.out | assumption) ((go_at_call 29; refine (hd _ _ (by assumption) (by assumption)).mono ?_; rintro e w' ⟨rfl, hS⟩))
          all_goals
            have HS : Hid (Below w.heap.size w _) := hS.2.2.2.2
            clear hS
            go_wp2_with fail
            refine ⟨⟨j + 1, by go_num, by omega, congrArg Value.string (ba_ext ?_), HS.out⟩, by simp [intOf]; omega⟩
            rw [HT.out, if_neg HJ.out, HW.out]
            simp [wordL, useX, useY, useZ]
      case inr.inr.inl =>
        by_cases h0 : j = 0
        · have q0 : ¬ (0 : Int) < j := by omega
          have HJ : Hid (j = 0) := h0
          clear h0
          go_wp2_with (go_at_call 29; refine (hdx _ (by assumption)).mono ?_; rintro e w1 ⟨rfl, hS1⟩)
          all_goals first
            | (exfalso; simp at *; omega)
            | skip
          refine ⟨⟨j + 1, by go_num, by omega, congrArg Value.string (ba_ext ?_), hS1.2.2.2.2⟩, by simp [intOf]; omega⟩
          rw [HT.out, if_pos HJ.out, HW.out, HTX.out HJ.out]
          simp [wordL, useX, useY, useZ]
        · have q0 : (0 : Int) < j := by omega
          have HJ : Hid (¬ j = 0) := h0
          clear h0
          go_wp2_with (go_at_call 29; refine (hdx _ (by assumption)).mono ?_; rintro e w1 ⟨rfl, hS1⟩)
          all_goals first
            | (exfalso; simp at *; omega)
            | skip
          refine ⟨⟨j + 1, by go_num, by omega, congrArg Value.string (ba_ext ?_), hS1.2.2.2.2⟩, by simp [intOf]; omega⟩
          rw [HT.out, if_neg HJ.out, HW.out]
          simp [wordL, useX, useY, useZ]
      case inr.inr.inr.inl =>
        by_cases h0 : j = 0
        · have q0 : ¬ (0 : Int) < j := by omega
          have HJ : Hid (j = 0) := h0
          clear h0
          go_wp2_with (go_at_call 29; refine (hdx _ (by assumption)).mono ?_; rintro e w1 ⟨rfl, hS1⟩)
          all_goals first
            | (exfalso; simp at *; omega)
            | skip
          refine ⟨⟨j + 1, by go_num, by omega, congrArg Value.string (ba_ext ?_), hS1.2.2.2.2⟩, by simp [intOf]; omega⟩
          rw [HT.out, if_pos HJ.out, HW.out, HTX.out HJ.out]
          simp [wordL, useX, useY, useZ]
        · have q0 : (0 : Int) < j := by omega
          have HJ : Hid (¬ j = 0) := h0
          clear h0
          go_wp2_with (go_at_call 29; refine (hdx _ (by assumption)).mono ?_; rintro e w1 ⟨rfl, hS1⟩)
          all_goals first
            | (exfalso; simp at *; omega)
            | skip
          refine ⟨⟨j + 1, by go_num, by omega, congrArg Value.string (ba_ext ?_), hS1.2.2.2.2⟩, by simp [intOf]; omega⟩
          rw [HT.out, if_neg HJ.out, HW.out]
          simp [wordL, useX, useY, useZ]
      case inr.inr.inr.inr.inl =>
        by_cases h0 : j = 0
        · have q0 : ¬ (0 : Int) < j := by omega
          have HJ : Hid (j = 0) := h0
          clear h0
          go_wp2_with (go_at_call 29; refine (hdz _ (by assumption)).mono ?_; rintro e w1 ⟨rfl, hS1⟩)
          all_goals first
            | (exfalso; simp at *; omega)
            | skip
          refine ⟨⟨j + 1, by go_num, by omega, congrArg Value.string (ba_ext ?_), hS1.2.2.2.2⟩, by simp [intOf]; omega⟩
          rw [HT.out, if_pos HJ.out, HW.out, HTX.out HJ.out]
          simp [wordL, useX, useY, useZ]
        · have q0 : (0 : Int) < j := by omega
          have HJ : Hid (¬ j = 0) := h0
          clear h0
          go_wp2_with (go_at_call 29; refine (hdz _ (by assumption)).mono ?_; rintro e w1 ⟨rfl, hS1⟩)
          all_goals first
            | (exfalso; simp at *; omega)
            | skip
          refine ⟨⟨j + 1, by go_num, by omega, congrArg Value.string (ba_ext ?_), hS1.2.2.2.2⟩, by simp [intOf]; omega⟩
          rw [HT.out, if_neg HJ.out, HW.out]
          simp [wordL, useX, useY, useZ]
      case inr.inr.inr.inr.inr.inl =>
        by_cases h0 : j = 0
        · have q0 : ¬ (0 : Int) < j := by omega
          have HJ : Hid (j = 0) := h0
          clear h0
          go_wp2_with fail
          refine ⟨⟨j + 1, by go_num, by omega, congrArg Value.string (ba_ext ?_), B1.alloc B1.size _⟩, by simp [intOf]; omega⟩
          rw [HT.out, if_pos HJ.out, HW.out, HTX.out HJ.out]
          simp [wordL, useX, useY, useZ]
        · have q0 : (0 : Int) < j := by omega
          have HJ : Hid (¬ j = 0) := h0
          clear h0
          go_wp2_with fail
          refine ⟨⟨j + 1, by go_num, by omega, congrArg Value.string (ba_ext ?_), B1.alloc B1.size _⟩, by simp [intOf]; omega⟩
          rw [HT.out, if_neg HJ.out, HW.out]
          simp [wordL, useX, useY, useZ]
      case inr.inr.inr.inr.inr.inr =>
        by_cases h0 : j = 0
        · have q0 : ¬ (0 : Int) < j := by omega
          have HJ : Hid (j = 0) := h0
          clear h0
          go_wp2_with fail
          refine ⟨⟨j + 1, by go_num, by omega, congrArg Value.string (ba_ext ?_), B1.alloc B1.size _⟩, by simp [intOf]; omega⟩
          rw [HT.out, if_pos HJ.out, HW.out, HTX.out HJ.out]
          simp [wordL, useX, useY, useZ]
        · have q0 : (0 : Int) < j := by omega
          have HJ : Hid (¬ j = 0) := h0
          clear h0
          go_wp2_with fail
          refine ⟨⟨j + 1, by go_num, by omega, congrArg Value.string (ba_ext ?_), B1.alloc B1.size _⟩, by simp [intOf]; omega⟩
          rw [HT.out, if_neg HJ.out, HW.out]
          simp [wordL, useX, useY, useZ]
    · have k1 : ¬ (j : Int) < p.length := by omega
      obtain rfl : j = p.length := by omega
      rw [List.take_length]
      clear hc
      go_wp2_with fail
      go_ret
      exact ⟨rfl, B1⟩
end Go.Proofs.YtggehnnbgeffpaaDoor
