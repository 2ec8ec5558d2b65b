/- Stacks: rows of numbers: the document's ints, put, Top. -/
import Derived.Test.YtjpbfckdiojghaaGBase
namespace Go.Proofs.Ytjpbfckdiojghaa
open Go.RowKit

def putL (x : Int) : List Int → List Int
  | [] => [x]
  | y :: ys => if y < x then y :: putL x ys else if y = x then y :: ys else x :: y :: ys

set_option maxHeartbeats 800000 in
theorem gintsd_any (es fs : List Int) (u v : Value) (w : World) (hc : SlI es u w) (hd : SlI fs v w) (hl : es.length ≤ 1000000) (_hm : fs.length ≤ 1000000) :
    Calls Try.prog 30 #[u, v] w fun e w' => e = .returned (.bool (decide (es = fs))) ∧ ∃ m, w' = w.drewN m := by
  obtain ⟨ao, cap, rfl, hc, _⟩ := hc
  obtain ⟨bo, dap, rfl, hd, _⟩ := hd
  by_cases hn : es.length = fs.length
  · have hn' : (es.length : Int) = fs.length := by omega
    rw [← hn]
    go_enter Try.func30, Try.ntmps30
    go_wp2
    go_loopw [5] (fun i wr => ∃ (j : Nat), i = .int .i64 j ∧ j ≤ es.length ∧ (es = fs ↔ es.drop j = fs.drop j) ∧ ∃ m, wr = w.drewN m) (fun i _ => es.length - (intOf i).toNat)
    case atStart => exact ⟨0, rfl, Nat.zero_le _, by simp, 0, rfl⟩
    case round =>
      obtain ⟨j, rfl, hj, hrel, m0, rfl⟩ := hrel
      by_cases hlt : j < es.length
      · have hlt2 : j < fs.length := by omega
        obtain ⟨b, off, rfl, _, c0⟩ := hc.at (Below.refl _ _) hlt
        obtain ⟨b2, off2, rfl, _, d0⟩ := hd.at (Below.refl _ _) hlt2
        rw [List.drop_eq_getElem_cons hlt, List.drop_eq_getElem_cons hlt2] at hrel
        generalize es[j] = r at *
        generalize fs[j] = q at *
        simp only [encI] at c0 d0
        simp only [List.cons.injEq] at hrel
        have HN : Hid (es.length = fs.length) := hn
        clear hc hd hn hn' hlt2
        by_cases h1 : r = q
        · have HR : Hid (es = fs ↔ es.drop (j + 1) = fs.drop (j + 1)) := by show _ ↔ _; rw [hrel]; exact ⟨fun h => h.2, fun h => ⟨h1, h⟩⟩
          clear hrel
          subst h1
          go_wp2
          go_quiet (fail)
          go_wp2
          exact ⟨⟨j + 1, by go_num, by omega, HR.out, (by first | exact drewN_two _ _ _ | exact ⟨_, rfl⟩)⟩, by simp [intOf]; omega⟩
        · have HR : Hid (¬ es = fs) := by show ¬ _; rw [hrel]; exact fun h => h1 h.1
          clear hrel
          have h3 : (r == q) = false := by simpa using h1
          go_wp2
          go_quiet (fail)
          go_wp2
          go_ret
          exact ⟨ret_bool (by simp [HR.out]), (by first | exact drewN_two _ _ _ | exact ⟨_, rfl⟩)⟩
      · have HS : Hid (es = fs) := by
          show _ = _
          rw [hrel, List.drop_of_length_le (by omega), List.drop_of_length_le (by omega)]
        clear hrel hc hd
        go_wp2
        go_ret
        exact ⟨ret_bool (by simp [HS.out]), m0, rfl⟩
  · have hn' : ¬ (es.length : Int) = fs.length := by omega
    have HS : Hid (¬ es = fs) := fun h => hn (by rw [h])
    have hn2 : ((es.length : Int) != fs.length) = true := by simpa using hn'
    clear hc hd hn
    go_enter Try.func30, Try.ntmps30
    go_wp2
    go_ret
    exact ⟨ret_bool (by simp [HS.out]), 0, rfl⟩

theorem gints_any (es fs : List Int) (u v : Value) (w : World) (hc : SlI es u w) (hd : SlI fs v w) (hl : es.length ≤ 1000000) (hm : fs.length ≤ 1000000) :
    Calls Try.prog 30 #[u, v] w fun e w' => e = .returned (.bool (decide (es = fs))) ∧ Below w.heap.size w w' :=
  (gintsd_any es fs u v w hc hd hl hm).mono fun e w' ⟨h1, m, h2⟩ => ⟨h1, by rw [h2]; exact below_drewN (Below.refl _ _) m⟩
theorem putL_lt {x : Int} : ∀ {a b : List Int}, (∀ y ∈ a, y < x) → putL x (a ++ b) = a ++ putL x b
  | [], _, _ => rfl
  | y :: a, b, h => by
    rw [List.cons_append, putL, if_pos (h y (by simp)), putL_lt (fun z hz => h z (by simp [hz]))]
    rfl

set_option maxHeartbeats 1600000 in
theorem gput_any (l : List Int) (x : Int) (v : Value) (w : World) (hc : SlI l v w) (hx : i64B x) (hl : l.length ≤ 1000000) :
    Calls Try.prog 29 #[v, .int .i64 x] w fun e w' => ∃ v', e = .returned v' ∧ SlI (putL x l) v' w' ∧ (v' = v ∨ Apart w.heap.size v') ∧ Below w.heap.size w w' := by
  have hc0 := hc
  obtain ⟨i0, hi0, hz0, hz1, hz2⟩ := info_parts info3
  obtain ⟨ao, cap, rfl, hc, hn, hcap, hi⟩ := hc
  go_enter Try.func29, Try.ntmps29
  go_wp2
  go_loopw [5] (fun i wr => ∃ (j : Nat), i = .int .i64 j ∧ j ≤ l.length ∧ (∀ y ∈ l.take j, y < x) ∧ wr = w) (fun i _ => l.length - (intOf i).toNat)
  case atStart => exact ⟨0, rfl, Nat.zero_le _, by simp, rfl⟩
  case round =>
    obtain ⟨j, rfl, hj, hrel, rfl⟩ := hrel
    by_cases hlt : j < l.length
    · obtain ⟨b, off, rfl, hbl, c0⟩ := hc.at (Below.refl _ _) hlt
      have HT : Hid (l = l.take j ++ (l[j] :: l.drop (j + 1)) ∧ l.take (j + 1) = l.take j ++ [l[j]]) := by
        refine ⟨?_, List.take_succ_eq_append_getElem hlt⟩
        rw [← List.drop_eq_getElem_cons hlt, List.take_append_drop]
      generalize l[j] = r at *
      have HR : Hid (∀ y ∈ l.take j, y < x) := hrel
      simp only [encI] at c0
      have hc2 := hc
      clear hrel hc
      by_cases h1 : r < x
      · have HR2 : Hid (∀ y ∈ l.take (j + 1), y < x) := by
          show ∀ _, _
          rw [HT.out.2]
          intro y hy
          rcases List.mem_append.1 hy with h | h
          · exact HR.out y h
          · simp at h; omega
        clear HT HR hc0
        go_wp2
        exact ⟨⟨j + 1, by go_num, by omega, HR2.out, trivial⟩, by simp [intOf]; omega⟩
      · by_cases h2 : r = x
        · have HP : Hid (putL x l = l) := by
            show _ = _
            rw [HT.out.1, putL_lt HR.out, putL, if_neg (by omega), if_pos h2]
          clear HT HR
          subst h2
          go_wp2
          go_ret
          exact ⟨_, rfl, by rw [HP.out]; exact hc0, .inl rfl, Below.refl _ _⟩
        · have HP : Hid (putL x l = l.take j ++ x :: l.drop j) := by
            show _ = _
            have e := HT.out.1
            have hd : l.drop j = r :: l.drop (j + 1) := by
              have := congrArg (List.drop j) e
              rw [List.drop_append_of_le_length (by simp; omega)] at this
              simpa using this
            rw [hd]
            rw [e] 
            rw [putL_lt HR.out, putL, if_neg (by omega), if_neg h2, ← e]
          clear HT HR
          have k1 : (r == x) = false := by simpa using h2
          have k2 : (j : Int) ≤ l.length := by omega
          have B0 : Below wr.heap.size wr wr := Below.refl _ _
          have n1 := news_row hc2 0 j
          have n3 := news_row hc2 j (l.length - j)
          rw [List.drop_zero, Nat.add_zero] at n1
          rw [List.take_of_length_le (by simp)] at n3
          obtain ⟨T, hT⟩ : ∃ T, l.take j = T := ⟨_, rfl⟩
          obtain ⟨D, hD⟩ : ∃ D, l.drop j = D := ⟨_, rfl⟩
          have e1 : T.length = j := by rw [← hT]; simp; omega
          have e3 : D.length = l.length - j := by rw [← hD]; simp
          have HI : Hid (∀ y ∈ T ++ x :: D, i64B y) := by
            intro y hy
            rcases List.mem_append.1 hy with h | h
            · exact hi y (by rw [← hT] at h; exact List.mem_of_mem_take h)
            · rcases List.mem_cons.1 h with rfl | h
              · exact hx
              · exact hi y (by rw [← hD] at h; exact List.mem_of_mem_drop h)
          have HP2 : Hid (putL x l = T ++ x :: D) := by show _ = _; rw [← hT, ← hD]; exact HP.out
          rw [hT] at n1
          rw [hD] at n3
          clear HP hT hD hi hc0 hc2
          have m1 : (T.map encI).length = j * 1 := by simp [e1]
          have m3 : (D.map encI).length = (l.length - j) * 1 := by simp [e3]
          have o1 := one_row T
          have o3 := one_row D
          obtain ⟨TV, hTV⟩ : ∃ TV, T.map encI = TV := ⟨_, rfl⟩
          obtain ⟨DV, hDV⟩ : ∃ DV, D.map encI = DV := ⟨_, rfl⟩
          have HTV : Hid (T.map encI = TV) := hTV
          have HDV : Hid (D.map encI = DV) := hDV
          rw [hTV] at n1 o1 m1
          rw [hDV] at n3 o3 m3
          clear hTV hDV
          go_wp2_with (at_builtin; refine wpList_append_own _ rfl _ _ 33 rfl wr.heap.size 3 i0 _ 1 8 Try.underlying33 hi0 hz0 hz1 hz2 rfl (by decide) _ 0 [] rfl (World.ownsRow_nil _ _ _ _) ⟨b, off, none⟩ j cap TV rfl m1 n1 o1 (by unfold maxLen; omega) (by omega) (Nat.le_refl _) ?_)
          intro v1 w1 hown1 hg1 _
          have B1 : Below wr.heap.size wr w1 := B0.grown hg1 (Nat.le_refl _) (fun k e => by cases e)
          have hs1 := B1.size
          obtain ⟨a1, c1, rfl⟩ := slice_of_own (show w1.ownsRow wr.heap.size 3 1 v1 j TV by simpa using hown1)
          have w1own : w1.ownsRow wr.heap.size 3 1 (.slice a1 j c1) j TV := by simpa using hown1
          clear hown1 hg1
          go_wp2_with (at_builtin; refine wpList_append_own _ rfl _ _ 33 rfl wr.heap.size 3 i0 _ 1 8 Try.underlying33 hi0 hz0 hz1 hz2 rfl (by decide) _ j TV rfl (World.ownsRow.alloc w1own _) ⟨w1.heap.size, 0, none⟩ 1 1 [encI x] rfl rfl (new_cell _ _ _) (by simp [encI]; rfl) (by unfold maxLen; omega) (by omega) (by simp; omega) ?_)
          intro v2 w2 hown2 hg2 _
          have B2 : Below wr.heap.size wr w2 := (B1.alloc hs1 _).grown hg2 (by simp; omega) (fun k e => (World.ownsRow.lt w1own k e).1)
          have hs2 := B2.size
          obtain ⟨a2, c2, rfl⟩ := slice_of_own hown2
          have n4 := own1_news n3 hbl B2
          clear hg2 w1own n1 n3
          go_wp2_with (at_builtin; refine wpList_append_own _ rfl _ _ 33 rfl wr.heap.size 3 i0 _ 1 8 Try.underlying33 hi0 hz0 hz1 hz2 rfl (by decide) _ (j + 1) (TV ++ [encI x]) rfl hown2 ⟨b, off + j, none⟩ (l.length - j) (cap - j) DV rfl m3 n4 o3 (by unfold maxLen; omega) (by omega) hs2 ?_)
          intro v3 w3 hown3 hg3 _
          have B3 : Below wr.heap.size wr w3 := B2.grown hg3 hs2 (fun k e => (World.ownsRow.lt hown2 k e).1)
          have HO : Hid (w3.ownsRow wr.heap.size 3 1 v3 (j + 1 + (l.length - j)) (TV ++ encI x :: DV)) := hown3
          clear hg3 hown3 hown2
          obtain ⟨a3, c3, rfl⟩ := slice_of_own HO.out
          go_wp2_with fail
          go_ret
          refine ⟨_, rfl, ?_, .inr (apart_own HO.out), B3⟩
          rw [HP2.out]
          refine sli_own (B := wr.heap.size) ?_ HI.out
          have := HO.out
          unfold Own1
          have q1 : (T ++ x :: D).length = j + 1 + (l.length - j) := by simp [e1, e3]; omega
          rw [q1]
          simpa [HTV.out, HDV.out] using this
    · have hjl : j = l.length := by omega
      subst hjl
      have HP : Hid (putL x l = l ++ [x]) := by
        show _ = _
        have := putL_lt (b := []) (x := x) (fun y hy => hrel y (by simpa using hy))
        simpa [putL] using this
      have HI : Hid (∀ y ∈ l ++ [x], i64B y) := by
        intro y hy
        rcases List.mem_append.1 hy with h | h
        · exact hi y h
        · simp at h; subst h; exact hx
      have B0 : Below wr.heap.size wr wr := Below.refl _ _
      rcases ao with _ | ad
      · obtain rfl : l = [] := hc.cons_none
        obtain rfl : cap = 0 := hn rfl
        clear hrel hc hc0 hi
        go_wp2_with (at_builtin; first | (refine wpList_append_own_none rfl (.tmp 34) (.tmp 37) 33 rfl wr.heap.size 3 i0 1 Try.underlying33 hi0 _ 0 [] rfl (World.ownsRow_nil _ _ _ _) rfl ?_) | (refine wpList_append_own _ rfl (.tmp 39) (.tmp 41) 33 rfl wr.heap.size 3 i0 _ 1 8 Try.underlying33 hi0 hz0 hz1 hz2 rfl (by decide) _ 0 [] rfl (World.ownsRow_nil _ _ _ _) ⟨wr.heap.size, 0, none⟩ 1 1 [encI x] rfl rfl (new_cell _ _ _) (by simp [encI]; rfl) (by unfold maxLen; omega) (by omega) (by simp) ?_))
        intro v2 w2 hown2 hg2 _
        have B2 : Below wr.heap.size wr w2 := (B0.alloc (Nat.le_refl _) _).grown hg2 (by simp) (fun k e => by cases e)
        have hs2 := B2.size
        obtain ⟨a2, c2, rfl⟩ := slice_of_own hown2
        clear hg2
        go_wp2_with (at_builtin; refine wpList_append_own_none rfl (.tmp 43) (.tmp 46) 33 rfl wr.heap.size 3 i0 1 Try.underlying33 hi0 _ 1 [encI x] rfl hown2 rfl ?_)
        have HO : Hid (w2.ownsRow wr.heap.size 3 1 (.slice a2 1 c2) 1 [encI x]) := hown2
        clear hown2
        go_wp2_with fail
        go_ret
        refine ⟨_, rfl, ?_, .inr (apart_own HO.out), B2⟩
        rw [HP.out]
        exact sli_own (B := wr.heap.size) HO.out HI.out
      · have n1 : ∀ (j : Nat) (u : Value), (l.map encI)[j]? = some u → wr.cell? (ad.add j) = some u := by
          intro k u hk
          rw [List.getElem?_map] at hk
          obtain ⟨y, hy, rfl⟩ := Option.map_eq_some_iff.1 hk
          obtain ⟨b, off, e, _, h2⟩ := hc k y hy
          cases e
          rw [add_plain]; exact h2
        have m1 : (l.map encI).length = l.length * 1 := by simp
        have o1 := one_row l
        obtain ⟨TV, hTV⟩ : ∃ TV, l.map encI = TV := ⟨_, rfl⟩
        have HTV : Hid (l.map encI = TV) := hTV
        rw [hTV] at n1 o1 m1
        clear hTV hrel hc hc0 hi
        go_wp2_with (at_builtin; refine wpList_append_own _ rfl _ _ 33 rfl wr.heap.size 3 i0 _ 1 8 Try.underlying33 hi0 hz0 hz1 hz2 rfl (by decide) _ 0 [] rfl (World.ownsRow_nil _ _ _ _) ad l.length cap TV rfl m1 n1 o1 (by unfold maxLen; omega) (by omega) (Nat.le_refl _) ?_)
        intro v1 w1 hown1 hg1 _
        have B1 : Below wr.heap.size wr w1 := B0.grown hg1 (Nat.le_refl _) (fun k e => by cases e)
        have hs1 := B1.size
        obtain ⟨a1, c1, rfl⟩ := slice_of_own (show w1.ownsRow wr.heap.size 3 1 v1 l.length TV by simpa using hown1)
        have w1own : w1.ownsRow wr.heap.size 3 1 (.slice a1 l.length c1) l.length TV := by simpa using hown1
        clear hown1 hg1
        go_wp2_with (at_builtin; refine wpList_append_own _ rfl _ _ 33 rfl wr.heap.size 3 i0 _ 1 8 Try.underlying33 hi0 hz0 hz1 hz2 rfl (by decide) _ l.length TV rfl (World.ownsRow.alloc w1own _) ⟨w1.heap.size, 0, none⟩ 1 1 [encI x] rfl rfl (new_cell _ _ _) (by simp [encI]; rfl) (by unfold maxLen; omega) (by omega) (by simp; omega) ?_)
        intro v2 w2 hown2 hg2 _
        have B2 : Below wr.heap.size wr w2 := (B1.alloc hs1 _).grown hg2 (by simp; omega) (fun k e => (World.ownsRow.lt w1own k e).1)
        have hs2 := B2.size
        obtain ⟨a2, c2, rfl⟩ := slice_of_own hown2
        clear hg2 w1own n1
        by_cases hcl : cap = l.length
        · subst hcl
          go_wp2_with (at_builtin; refine wpList_append_own _ rfl (.tmp 43) (.tmp 46) 33 rfl wr.heap.size 3 i0 _ 1 8 Try.underlying33 hi0 hz0 hz1 hz2 rfl (by decide) _ (l.length + 1) (TV ++ [encI x]) rfl hown2 ad 0 0 [] rfl rfl (by simp) (by simp) (by unfold maxLen; omega) (by omega) hs2 ?_)
          intro v3 w3 hown3 hg3 _
          have B3 : Below wr.heap.size wr w3 := B2.grown hg3 hs2 (fun k e => (World.ownsRow.lt hown2 k e).1)
          have HO : Hid (w3.ownsRow wr.heap.size 3 1 v3 (l.length + 1) (TV ++ [encI x])) := by show World.ownsRow _ _ _ _ _ _ _; simpa using hown3
          clear hg3 hown3 hown2
          obtain ⟨a3, c3, rfl⟩ := slice_of_own HO.out
          go_wp2_with fail
          go_ret
          refine ⟨_, rfl, ?_, .inr (apart_own HO.out), B3⟩
          rw [HP.out]
          refine sli_own (B := wr.heap.size) ?_ HI.out
          have := HO.out
          unfold Own1
          rw [show (l ++ [x]).length = l.length + 1 by simp]
          simpa [HTV.out] using this
        · have hcl2 : ¬ cap - l.length = 0 := by omega
          have hcl3 : l.length < cap := by omega
          go_wp2_with (at_builtin; refine wpList_append_own _ rfl (.tmp 43) (.tmp 46) 33 rfl wr.heap.size 3 i0 _ 1 8 Try.underlying33 hi0 hz0 hz1 hz2 rfl (by decide) _ (l.length + 1) (TV ++ [encI x]) rfl hown2 (ad.add l.length) 0 (cap - l.length) [] rfl rfl (by simp) (by simp) (by unfold maxLen; omega) (by omega) hs2 ?_)
          intro v3 w3 hown3 hg3 _
          have B3 : Below wr.heap.size wr w3 := B2.grown hg3 hs2 (fun k e => (World.ownsRow.lt hown2 k e).1)
          have HO : Hid (w3.ownsRow wr.heap.size 3 1 v3 (l.length + 1) (TV ++ [encI x])) := by show World.ownsRow _ _ _ _ _ _ _; simpa using hown3
          clear hg3 hown3 hown2
          obtain ⟨a3, c3, rfl⟩ := slice_of_own HO.out
          go_wp2_with fail
          go_ret
          refine ⟨_, rfl, ?_, .inr (apart_own HO.out), B3⟩
          rw [HP.out]
          refine sli_own (B := wr.heap.size) ?_ HI.out
          have := HO.out
          unfold Own1
          rw [show (l ++ [x]).length = l.length + 1 by simp]
          simpa [HTV.out] using this


end Go.Proofs.Ytjpbfckdiojghaa
