/- The document's words. -/
import Derived.Test.YtggehnnbgeffpaaDoorRefRead1
namespace Go.Proofs.YtggehnnbgeffpaaDoor
open Go.Shelf Go.RowKit Go.Lib Go.Proofs

theorem info59 : (Tryd.prog.info? 59).map (fun i => (i.zero, i.size, i.bytes)) = some (some (.agg #[.string ⟨#[]⟩, .int .i64 0]), 2, 24) := by kernel_rfl
def encWd (x : Nat × List UInt8) : List Value := [.string ⟨x.2.toArray⟩, .int .i64 x.1]
theorem cells2 (b : ByteArray) (n : Int) (W : World) (t : TypeId) (k : Nat) (hk : k = W.heap.size) : ∀ (j : Nat) (u : Value), [Value.string b, .int .i64 n][j]? = some u → (W.alloc (.cells #[.string b, .int .i64 n] t)).cell? ((⟨k, 0, none⟩ : Addr).add j) = some u := by
  subst hk
  intro j u hj
  have hadd : (⟨W.heap.size, 0, none⟩ : Addr).add j = ⟨W.heap.size, j, none⟩ := by unfold Addr.add; split <;> simp_all
  rw [hadd]
  match j, hj with
  | 0, hj => simpa using hj
  | 1, hj => simpa using hj
  | j + 2, hj => simp at hj
/-- A row of words of the call's own. -/
structure OW (n0 : Nat) (w : World) (ws : List (Nat × List UInt8)) (v : Value) (W : World) : Prop where
  own : W.ownsRow n0 59 2 v ws.length (ws.flatMap encWd)
  bel : Below n0 w W
  lt : n0 ≤ W.heap.size
theorem OW.snoc {n0 : Nat} {w : World} {ws : List (Nat × List UInt8)} {v v1 : Value} {W W1 : World} {o : Obj} (x : Nat × List UInt8) (b : ByteArray) (hb : (⟨x.2.toArray⟩ : ByteArray) = b) (h : OW n0 w ws v W) (hO : W1.ownsRow n0 59 2 v1 (ws.length + 1) (ws.flatMap encWd ++ [.string b, .int .i64 x.1])) (hg : (W.alloc o).grownBy W1 v.ownBlock) : OW n0 w (ws ++ [x]) v1 W1 := by
  have hb1 : Below n0 W W1 := ((Below.refl n0 W).alloc h.lt o).grown hg (by have := h.lt; simp; omega) (fun k e => (h.own.lt k e).1)
  refine ⟨?_, h.bel.trans hb1, Nat.le_trans h.lt hb1.size⟩
  rw [List.length_append, List.flatMap_append]
  subst hb
  simpa [encWd] using hO
theorem OW.slice {n0 : Nat} {w : World} {ws : List (Nat × List UInt8)} {v : Value} {W : World} (h : OW n0 w ws v W) : ∃ ao c, v = .slice ao ws.length c := by
  rcases h.own.2 with ⟨rfl, h0⟩ | ⟨g, cap, cur, rfl, _⟩
  · exact ⟨_, _, by rw [h0]⟩
  · exact ⟨_, _, rfl⟩
def exL (s : ByteArray) (f j : Nat) : List UInt8 := (s.extract f j).data.toList
theorem ex_arr (s : ByteArray) (f j : Nat) : (⟨(exL s f j).toArray⟩ : ByteArray) = s.extract f j := by
  show (⟨(s.extract f j).data.toList.toArray⟩ : ByteArray) = _
  rw [Array.toArray_toList]
theorem ex_len (s : ByteArray) (f j : Nat) (hj : j ≤ s.size) : (exL s f j).length = j - f := by
  unfold exL
  rw [toL_len, ByteArray.size_extract, Nat.min_eq_left hj]
theorem ex_same (s : ByteArray) (f : Nat) (hf : f ≤ s.size) : exL s f f = [] := List.length_eq_zero_iff.1 (by rw [ex_len s f f hf]; omega)
theorem ex_snoc (s : ByteArray) (f j : Nat) (hf : f ≤ j) (hj : j < s.size) : exL s f (j + 1) = exL s f j ++ [s[j]'hj] := by
  unfold exL
  rw [ByteArray.data_extract, ByteArray.data_extract]
  simp only [Array.toList_extract, List.extract_eq_take_drop]
  rw [show j + 1 - f = (j - f) + 1 by omega, List.take_add_one, List.getElem?_drop, show f + (j - f) = j by omega, List.getElem?_eq_getElem (by simpa using hj)]
  rfl
theorem rw_at (s : ByteArray) (j : Nat) (hj : j < s.size) (pend : List UInt8) : rwN (s.data.toList.drop j) j pend = if s[j]'hj ≠ 32 ∧ s[j]'hj ≠ 59 then rwN (s.data.toList.drop (j + 1)) (j + 1) (pend ++ [s[j]'hj]) else pendW j pend ++ ((if s[j]'hj = 59 then [(j, [59])] else []) ++ rwN (s.data.toList.drop (j + 1)) (j + 1) []) := by
  rw [List.drop_eq_getElem_cons (by simpa using hj), rwN]
  rfl
/-- What the loop has read: the words so far, and those that are left. -/
def WInv (s : ByteArray) (ws : List (Nat × List UInt8)) (f j : Nat) : Prop :=
  (j ≤ s.size ∧ f ≤ j ∧ wordsN s.data.toList = ws ++ rwN (s.data.toList.drop j) j (exL s f j)) ∨ (j = s.size + 1 ∧ wordsN s.data.toList = ws)
def pendO (s : ByteArray) (f j : Nat) : List (Nat × List UInt8) := if f < j then [(f, exL s f j)] else []
theorem pend_is (s : ByteArray) (f j : Nat) (hf : f ≤ j) (hj : j ≤ s.size) : pendW j (exL s f j) = pendO s f j := by
  unfold pendW pendO
  have hl := ex_len s f j hj
  by_cases h : f < j
  · rw [if_pos h, if_neg (fun e => by rw [e] at hl; simp at hl; omega), hl]
    congr 2
    omega
  · rw [if_neg h, if_pos (List.length_eq_zero_iff.1 (by omega))]
theorem WInv.go {s : ByteArray} {ws : List (Nat × List UInt8)} {f j : Nat} (h : WInv s ws f j) (hj : j < s.size) (h1 : s[j]'hj ≠ 32) (h2 : s[j]'hj ≠ 59) : WInv s ws f (j + 1) := by
  rcases h with ⟨a, b, c⟩ | ⟨a, _⟩
  · refine .inl ⟨hj, by omega, ?_⟩
    rw [c, rw_at s j hj, if_pos ⟨h1, h2⟩, ex_snoc s f j b hj]
  · omega
theorem WInv.blank {s : ByteArray} {ws : List (Nat × List UInt8)} {f j : Nat} (h : WInv s ws f j) (hj : j < s.size) (h1 : s[j]'hj = 32) : WInv s (ws ++ pendO s f j) (j + 1) (j + 1) := by
  rcases h with ⟨a, b, c⟩ | ⟨a, _⟩
  · refine .inl ⟨hj, by omega, ?_⟩
    rw [c, rw_at s j hj, if_neg (by simp [h1]), if_neg (by rw [h1]; decide), ex_same s (j + 1) (by omega), pend_is s f j b a]
    simp
  · omega
theorem WInv.semi {s : ByteArray} {ws : List (Nat × List UInt8)} {f j : Nat} (h : WInv s ws f j) (hj : j < s.size) (h1 : s[j]'hj = 59) : WInv s (ws ++ pendO s f j ++ [(j, [59])]) (j + 1) (j + 1) := by
  rcases h with ⟨a, b, c⟩ | ⟨a, _⟩
  · refine .inl ⟨hj, by omega, ?_⟩
    rw [c, rw_at s j hj, if_neg (by simp [h1]), if_pos h1, ex_same s (j + 1) (by omega), pend_is s f j b a]
    simp
  · omega
theorem WInv.done {s : ByteArray} {ws : List (Nat × List UInt8)} {f : Nat} (h : WInv s ws f s.size) : WInv s (ws ++ pendO s f s.size) (s.size + 1) (s.size + 1) := by
  rcases h with ⟨a, b, c⟩ | ⟨a, _⟩
  · refine .inr ⟨rfl, ?_⟩
    rw [c, List.drop_of_length_le (by simp), rwN, pend_is s f _ b a]
  · omega
theorem WInv.le {s : ByteArray} {ws : List (Nat × List UInt8)} {f j : Nat} (h : WInv s ws f j) : ws.length ≤ 2 * s.size + 1 := by
  have := rw_len s.data.toList 0 []
  rw [← words_is, toL_len] at this
  rcases h with ⟨_, _, c⟩ | ⟨_, c⟩ <;> rw [c] at this <;> (try simp at this) <;> omega
theorem u8_ne {c : UInt8} {n : Nat} (hn : n < 256) (h : c ≠ UInt8.ofNat n) : ((c.toNat : Int) == (n : Int)) = false := beq_eq_false_iff_ne.2 fun e => h (by
  rw [← UInt8.toNat_inj, UInt8.toNat_ofNat', Nat.mod_eq_of_lt hn]
  omega)

set_option maxRecDepth 100000 in
set_option maxHeartbeats 8000000 in
theorem rwords_any (s : ByteArray) (w : World) (hs : s.size ≤ 1048576) : Calls Tryd.prog 22 #[.string s] w fun e w' => ∃ v, e = .returned v ∧ OW w.heap.size w (wordsN s.data.toList) v w' := by
  obtain ⟨i0, hi, hz0, hz1, hz2⟩ := info_parts info59
  go_enter Tryd.func22, Tryd.ntmps22
  go_wp2_with fail
  go_loopw [3, 4, 5] (fun l f i wr => ∃ (j fr : Nat) (ws : List (Nat × List UInt8)), i = .int .i64 j ∧ f = .int .i64 fr ∧ j ≤ s.size + 1 ∧ fr ≤ j ∧ OW w.heap.size w ws l wr ∧ Hid (WInv s ws fr j)) (fun _ _ i _ => s.size + 1 - (intOf i).toNat)
  case atStart => exact ⟨0, 0, [], rfl, rfl, Nat.zero_le _, Nat.le_refl _, ⟨World.ownsRow_nil _ _ _ _, Below.refl _ _, Nat.le_refl _⟩, .inl ⟨Nat.zero_le _, Nat.le_refl _, by rw [words_is, ex_same s 0 (Nat.zero_le _)]; simp⟩⟩
  case round =>
    obtain ⟨j, fr, ws, rfl, rfl, hj, hfr, hO, HW⟩ := hrel
    have hwl := HW.out.le
    by_cases hend : j = s.size + 1
    · subst hend
      have HE : Hid (wordsN s.data.toList = ws) := by
        rcases HW.out with ⟨a, _⟩ | ⟨_, b⟩
        · omega
        · exact b
      have k1 : ¬ ((s.size : Int) + 1 ≤ s.size) := by omega
      clear HW
      go_wp2_with fail
      go_ret
      exact ⟨_, rfl, by rw [HE.out]; exact hO⟩
    have k1 : (j : Int) ≤ s.size := by omega
    obtain ⟨ao, cap, rfl⟩ := hO.slice
    have hlt := hO.lt
    by_cases hjs : j < s.size
    · have k2 : (j : Int) < s.size := by omega
      obtain ⟨c, hc⟩ : ∃ c : UInt8, s[j]'hjs = c := ⟨_, rfl⟩
      by_cases c1 : c = 32
      · have HI : Hid (WInv s (ws ++ pendO s fr j) (j + 1) (j + 1)) := HW.out.blank hjs (by rw [hc, c1])
        subst c1
        have n1 : (((32 : UInt8).toNat : Int) == 59) = false := by decide
        clear HW
        by_cases hf : fr < j
        · have hp : pendO s fr j = [(fr, exL s fr j)] := if_pos hf
          rw [hp] at HI
          have q1 : (fr : Int) < j := by omega
          have q2 : (fr : Int) ≤ j := by omega
          clear hp
          go_wp2_with (at_builtin; refine wpList_append_own _ rfl _ _ 53 rfl w.heap.size 59 i0 _ 2 24 Tryd.underlying53 hi hz0 hz1 hz2 rfl (by decide) _ _ _ rfl (World.ownsRow.alloc hO.own _) ⟨wr.heap.size, 0, none⟩ 1 1 [.string (s.extract fr j), .int .i64 fr] rfl rfl (cells2 _ _ _ _ _ rfl) (fun u hu => by simp at hu; rcases hu with rfl | rfl <;> rfl) (by unfold maxLen; omega) (by omega) (by simp; omega) ?_)
          intro v1 w1 hO1 hg1 _
          have hOW := hO.snoc (fr, exL s fr j) _ (ex_arr s fr j) hO1 hg1
          clear hO1 hg1 hO
          go_wp2_with fail
          exact ⟨⟨j + 1, j + 1, _, by go_num, by go_num, by omega, by omega, hOW, HI⟩, by simp [intOf]; omega⟩
        · have hp : pendO s fr j = [] := if_neg hf
          rw [hp, List.append_nil] at HI
          have q1 : ¬ (fr : Int) < j := by omega
          have q0 : decide (fr < j) = false := decide_eq_false hf
          clear hp
          go_wp2_with fail
          exact ⟨⟨j + 1, j + 1, _, by go_num, by go_num, by omega, by omega, hO, HI⟩, by simp [intOf]; omega⟩
      · by_cases c2 : c = 59
        · have HI : Hid (WInv s (ws ++ pendO s fr j ++ [(j, [59])]) (j + 1) (j + 1)) := HW.out.semi hjs (by rw [hc, c2])
          have hle2 := HI.out.le
          subst c2
          have n1 : (((59 : UInt8).toNat : Int) == 32) = false := by decide
          clear HW
          by_cases hf : fr < j
          · have hp : pendO s fr j = [(fr, exL s fr j)] := if_pos hf
            rw [hp] at HI hle2
            simp at hle2
            have q1 : (fr : Int) < j := by omega
            have q2 : (fr : Int) ≤ j := by omega
            clear hp
            go_wp2_with (at_builtin; refine wpList_append_own _ rfl _ _ 53 rfl w.heap.size 59 i0 _ 2 24 Tryd.underlying53 hi hz0 hz1 hz2 rfl (by decide) _ _ _ rfl (World.ownsRow.alloc hO.own _) ⟨wr.heap.size, 0, none⟩ 1 1 [.string (s.extract fr j), .int .i64 fr] rfl rfl (cells2 _ _ _ _ _ rfl) (fun u hu => by simp at hu; rcases hu with rfl | rfl <;> rfl) (by unfold maxLen; omega) (by omega) (by simp; omega) ?_)
            intro v1 w1 hO1 hg1 _
            have hOW := hO.snoc (fr, exL s fr j) _ (ex_arr s fr j) hO1 hg1
            obtain ⟨a1, cap1, rfl⟩ := hOW.slice
            have hlt1 := hOW.lt
            have hown := hOW.own
            have HOW : Hid (OW w.heap.size w (ws ++ [(fr, exL s fr j)]) (Value.slice a1 (ws ++ [(fr, exL s fr j)]).length cap1) w1) := hOW
            have hln : (ws ++ [(fr, exL s fr j)]).length = ws.length + 1 := by simp
            have HLN : Hid ((ws ++ [(fr, exL s fr j)]).length = ws.length + 1) := hln
            rw [hln] at hown ⊢
            clear hO1 hg1 hO hOW hln
            go_wp2_with (at_builtin; refine wpList_append_own _ rfl _ _ 53 rfl w.heap.size 59 i0 _ 2 24 Tryd.underlying53 hi hz0 hz1 hz2 rfl (by decide) _ (ws.length + 1) _ rfl (World.ownsRow.alloc hown _) ⟨w1.heap.size, 0, none⟩ 1 1 [.string ⟨#[59]⟩, .int .i64 j] rfl rfl (cells2 _ _ _ _ _ rfl) (fun u hu => by simp at hu; rcases hu with rfl | rfl <;> rfl) (by unfold maxLen; omega) (by omega) (by simp; omega) ?_)
            intro v2 w2 hO2 hg2 _
            have hOW2 := HOW.out.snoc (j, [59]) ⟨#[59]⟩ rfl (by rw [HLN.out]; simpa using hO2) (by rw [HLN.out]; exact hg2)
            clear hO2 hg2 HOW HLN hown
            go_wp2_with fail
            exact ⟨⟨j + 1, j + 1, _, by go_num, by go_num, by omega, by omega, hOW2, HI⟩, by simp [intOf]; omega⟩
          · have hp : pendO s fr j = [] := if_neg hf
            rw [hp, List.append_nil] at HI
            have q1 : ¬ (fr : Int) < j := by omega
            have q0 : decide (fr < j) = false := decide_eq_false hf
            clear hp
            go_wp2_with (at_builtin; refine wpList_append_own _ rfl _ _ 53 rfl w.heap.size 59 i0 _ 2 24 Tryd.underlying53 hi hz0 hz1 hz2 rfl (by decide) _ _ _ rfl (World.ownsRow.alloc hO.own _) ⟨wr.heap.size, 0, none⟩ 1 1 [.string ⟨#[59]⟩, .int .i64 j] rfl rfl (cells2 _ _ _ _ _ rfl) (fun u hu => by simp at hu; rcases hu with rfl | rfl <;> rfl) (by unfold maxLen; omega) (by omega) (by simp; omega) ?_)
            intro v1 w1 hO1 hg1 _
            have hOW := hO.snoc (j, [59]) ⟨#[59]⟩ rfl hO1 hg1
            clear hO1 hg1 hO
            go_wp2_with fail
            exact ⟨⟨j + 1, j + 1, _, by go_num, by go_num, by omega, by omega, hOW, HI⟩, by simp [intOf]; omega⟩
        · have HI : Hid (WInv s ws fr (j + 1)) := HW.out.go hjs (by rw [hc]; exact c1) (by rw [hc]; exact c2)
          have n1 : ((c.toNat : Int) == 32) = false := u8_ne (by decide) c1
          have n2 : ((c.toNat : Int) == 59) = false := u8_ne (by decide) c2
          have n3 : ((c.toNat : Int) != 32) = true := by rw [bne, n1]; rfl
          have n4 : ((c.toNat : Int) != 59) = true := by rw [bne, n2]; rfl
          clear HW
          go_wp2_with fail
          exact ⟨⟨j + 1, fr, _, by go_num, rfl, by omega, by omega, hO, HI⟩, by simp [intOf]; omega⟩
    · obtain rfl : j = s.size := by omega
      have k2 : ¬ (s.size : Int) < s.size := by omega
      have HI : Hid (WInv s (ws ++ pendO s fr s.size) (s.size + 1) (s.size + 1)) := HW.out.done
      clear HW
      by_cases hf : fr < s.size
      · have hp : pendO s fr s.size = [(fr, exL s fr s.size)] := if_pos hf
        rw [hp] at HI
        have q1 : (fr : Int) < s.size := by omega
        have q2 : (fr : Int) ≤ s.size := by omega
        clear hp
        go_wp2_with (at_builtin; refine wpList_append_own _ rfl _ _ 53 rfl w.heap.size 59 i0 _ 2 24 Tryd.underlying53 hi hz0 hz1 hz2 rfl (by decide) _ _ _ rfl (World.ownsRow.alloc hO.own _) ⟨wr.heap.size, 0, none⟩ 1 1 [.string (s.extract fr s.size), .int .i64 fr] rfl rfl (cells2 _ _ _ _ _ rfl) (fun u hu => by simp at hu; rcases hu with rfl | rfl <;> rfl) (by unfold maxLen; omega) (by omega) (by simp; omega) ?_)
        intro v1 w1 hO1 hg1 _
        have hOW := hO.snoc (fr, exL s fr s.size) _ (ex_arr s fr s.size) hO1 hg1
        clear hO1 hg1 hO
        go_wp2_with fail
        exact ⟨⟨s.size + 1, s.size + 1, _, by go_num, by go_num, by omega, by omega, hOW, HI⟩, by simp [intOf]⟩
      · have hp : pendO s fr s.size = [] := if_neg hf
        rw [hp, List.append_nil] at HI
        have q1 : ¬ (fr : Int) < s.size := by omega
        have q0 : decide (fr < s.size) = false := decide_eq_false hf
        clear hp
        go_wp2_with fail
        exact ⟨⟨s.size + 1, s.size + 1, _, by go_num, by go_num, by omega, by omega, hO, HI⟩, by simp [intOf]⟩
end Go.Proofs.YtggehnnbgeffpaaDoor
