/- The document's rising rows: put and Union. -/
import Derived.Test.YtckbfiigbckmeaaDoorBase
import Derived.Laws.AppendOwnNone
import Derived.Laws.OwnMore
import Derived.Deep.RegionHeld3
import Derived.Deep.AppendLies
import Derived.Deep.DrawnRows
namespace Go.Proofs.YtckbfiigbckmeaaDoor
open Go.RowKit

/-- A row of one-cell values that lies whole in a block of its own. -/
def Own1 {α : Type} (e : TypeId) (enc : α → Value) (B : Nat) (l : List α) (v : Value) (W : World) : Prop := W.ownsRow B e 1 v l.length (l.map enc)
theorem Own1.nil {α : Type} (e : TypeId) (enc : α → Value) (B : Nat) (W : World) : Own1 e enc B [] (.slice none 0 0) W := World.ownsRow_nil W B e 1
theorem Own1.at_ {α : Type} {e : TypeId} {enc : α → Value} {B : Nat} {l : List α} {v : Value} {W : World} (h : Own1 e enc B l v W) :
    ∃ ao cap, v = .slice ao l.length cap ∧ RowAt enc l ao W ∧ (ao = none → cap = 0) ∧ l.length ≤ cap ∧ (ao = none ∨ ∃ g, ao = some ⟨g, 0, none⟩ ∧ B ≤ g ∧ g < W.heap.size) := by
  have h0 := h
  obtain ⟨h1, h2⟩ := h
  rcases h2 with ⟨rfl, hn⟩ | ⟨g, cap, cur, rfl, hB, hg, hcap, hm, hsz, hx⟩
  · obtain rfl : l = [] := List.eq_nil_of_length_eq_zero hn
    exact ⟨none, 0, by simp, RowAt.nil _ _ _, fun _ => rfl, by simp, .inl rfl⟩
  · have hgl : g < W.heap.size := by
      rcases Nat.lt_or_ge g W.heap.size with h | h
      · exact h
      · rw [Array.getElem?_eq_none h] at hg; cases hg
    refine ⟨some ⟨g, 0, none⟩, cap, rfl, fun i x hi => ⟨g, 0, rfl, hgl, ?_⟩, (fun h => by cases h), hcap, .inr ⟨g, rfl, hB, hgl⟩⟩
    have := World.ownsRow.cells h0 (g := g) rfl i (enc x) (by simp [hi])
    rw [add_plain] at this
    exact this

theorem info3 : (Tryd.prog.info? 3).map (fun i => (i.zero, i.size, i.bytes)) = some (some (.int .i64 0), 1, 8) := by kernel_rfl
theorem info_parts {P : Program} {t : TypeId} {z : Option Value} {s b : Nat} (h : (P.info? t).map (fun i => (i.zero, i.size, i.bytes)) = some (z, s, b)) : ∃ i, P.info? t = some i ∧ i.zero = z ∧ i.size = s ∧ i.bytes = b := by
  cases hi : P.info? t with
  | none => rw [hi] at h; cases h
  | some i => rw [hi] at h; simp at h; exact ⟨i, rfl, h.1, h.2.1, h.2.2⟩

theorem news_row {l : List Int} {b off : Nat} {W : World} (h : RowAt encI l (some ⟨b, off, none⟩) W) (i n : Nat) : ∀ (j : Nat) (u : Value), (((l.drop i).take n).map encI)[j]? = some u → W.cell? ((⟨b, off + i, none⟩ : Addr).add j) = some u := by
  intro j u hj
  rw [List.getElem?_map] at hj
  obtain ⟨x, hx, rfl⟩ := Option.map_eq_some_iff.1 hj
  have hx2 : l[i + j]? = some x := by
    rw [List.getElem?_take] at hx
    split at hx
    · rw [List.getElem?_drop] at hx; exact hx
    · cases hx
  obtain ⟨b', o', e, _, h2⟩ := h (i + j) x hx2
  cases e
  rw [add_plain, Nat.add_assoc]
  exact h2
theorem one_row (l : List Int) : ∀ u ∈ l.map encI, u.oneCell' = true := by
  intro u hu
  obtain ⟨x, _, rfl⟩ := List.mem_map.1 hu
  rfl

theorem slice_of_own {W : World} {B n : Nat} {e : TypeId} {v : Value} {xs : List Value} (h : W.ownsRow B e 1 v n xs) : ∃ a c, v = .slice a n c := by
  rcases h.2 with ⟨rfl, h'⟩ | ⟨g, c, cur, rfl, _⟩
  · exact ⟨none, 0, by rw [h']⟩
  · exact ⟨_, _, rfl⟩
theorem apart_own {W : World} {B n : Nat} {e : TypeId} {v : Value} {xs : List Value} (h : W.ownsRow B e 1 v n xs) : Apart B v := by
  intro ad k c hv
  rcases h.2 with ⟨rfl, _⟩ | ⟨g, c, cur, rfl, hb, _⟩
  · cases hv
  · cases hv; exact hb
theorem new_cell (W : World) (x : Value) (t : TypeId) : ∀ (k : Nat) (u : Value), [x][k]? = some u → (W.alloc (Obj.cells #[x] t)).cell? ((⟨W.heap.size, 0, none⟩ : Addr).add k) = some u := by
  intro k u hk
  cases k with
  | zero => simp at hk; subst hk; rw [add_plain]; simp
  | succ k => simp at hk
theorem own1_news {W W' : World} {l : List Value} {b off : Nat} (h : ∀ (j : Nat) (u : Value), l[j]? = some u → W.cell? ((⟨b, off, none⟩ : Addr).add j) = some u) (hb : b < W.heap.size) (B : Below W.heap.size W W') : ∀ (j : Nat) (u : Value), l[j]? = some u → W'.cell? ((⟨b, off, none⟩ : Addr).add j) = some u := by
  intro j u hj
  have := h j u hj
  rw [add_plain] at this ⊢
  exact (B.cell (p := ⟨b, off + j, none⟩) hb).trans this
theorem sli_own {l : List Int} {B : Nat} {v : Value} {W : World} (h : Own1 3 encI B l v W) (hi : ∀ y ∈ l, i64B y) : SlI l v W := by
  obtain ⟨ao, cap, h0, h1, h2, h3, _⟩ := h.at_
  exact ⟨ao, cap, h0, h1, h2, h3, hi⟩

theorem putL_lt {x : Int} : ∀ {a b : List Int}, (∀ y ∈ a, y < x) → putL x (a ++ b) = a ++ putL x b
  | [], _, _ => rfl
  | y :: a, b, h => by
    rw [List.cons_append, putL, if_pos (h y (by simp)), putL_lt (fun z hz => h z (by simp [hz]))]
    rfl

set_option maxHeartbeats 1600000 in
theorem put_any (l : List Int) (x : Int) (v : Value) (w : World) (hc : SlI l v w) (hx : i64B x) (hl : l.length ≤ 1000000) :
    Calls Tryd.prog 53 #[v, .int .i64 x] w fun e w' => ∃ v', e = .returned v' ∧ SlI (putL x l) v' w' ∧ (v' = v ∨ Apart w.heap.size v') ∧ Below w.heap.size w w' := by
  have hc0 := hc
  obtain ⟨i0, hi0, hz0, hz1, hz2⟩ := info_parts info3
  obtain ⟨ao, cap, rfl, hc, hn, hcap, hi⟩ := hc
  go_enter Tryd.func53, Tryd.ntmps53
  go_wp2
  go_loopw [5] (fun i wr => ∃ (j : Nat), i = .int .i64 j ∧ j ≤ l.length ∧ (∀ y ∈ l.take j, y < x) ∧ wr = w) (fun i _ => l.length - (intOf i).toNat)
  case atStart => exact ⟨0, rfl, Nat.zero_le _, by simp, rfl⟩
  case round =>
    obtain ⟨j, rfl, hj, hrel, rfl⟩ := hrel
    by_cases hlt : j < l.length
    · obtain ⟨b, off, rfl, hbl, c0⟩ := hc.at (Below.refl _ _) hlt
      have HT : Hid (l = l.take j ++ (l[j] :: l.drop (j + 1)) ∧ l.take (j + 1) = l.take j ++ [l[j]]) := by
        refine ⟨?_, List.take_succ_eq_append_getElem hlt⟩
        rw [← List.drop_eq_getElem_cons hlt, List.take_append_drop]
      generalize l[j] = r at *
      have HR : Hid (∀ y ∈ l.take j, y < x) := hrel
      simp only [encI] at c0
      have hc2 := hc
      clear hrel hc
      by_cases h1 : r < x
      · have HR2 : Hid (∀ y ∈ l.take (j + 1), y < x) := by
          show ∀ _, _
          rw [HT.out.2]
          intro y hy
          rcases List.mem_append.1 hy with h | h
          · exact HR.out y h
          · simp at h; omega
        clear HT HR hc0
        go_wp2
        exact ⟨⟨j + 1, by go_num, by omega, HR2.out, trivial⟩, by simp [intOf]; omega⟩
      · by_cases h2 : r = x
        · have HP : Hid (putL x l = l) := by
            show _ = _
            rw [HT.out.1, putL_lt HR.out, putL, if_neg (by omega), if_pos h2]
          clear HT HR
          subst h2
          go_wp2
          go_ret
          exact ⟨_, rfl, by rw [HP.out]; exact hc0, .inl rfl, Below.refl _ _⟩
        · have HP : Hid (putL x l = l.take j ++ x :: l.drop j) := by
            show _ = _
            have e := HT.out.1
            have hd : l.drop j = r :: l.drop (j + 1) := by
              have := congrArg (List.drop j) e
              rw [List.drop_append_of_le_length (by simp; omega)] at this
              simpa using this
            rw [hd]
            rw [e] 
            rw [putL_lt HR.out, putL, if_neg (by omega), if_neg h2, ← e]
          clear HT HR
          have k1 : (r == x) = false := by simpa using h2
          have k2 : (j : Int) ≤ l.length := by omega
          have B0 : Below wr.heap.size wr wr := Below.refl _ _
          have n1 := news_row hc2 0 j
          have n3 := news_row hc2 j (l.length - j)
          rw [List.drop_zero, Nat.add_zero] at n1
          rw [List.take_of_length_le (by simp)] at n3
          obtain ⟨T, hT⟩ : ∃ T, l.take j = T := ⟨_, rfl⟩
          obtain ⟨D, hD⟩ : ∃ D, l.drop j = D := ⟨_, rfl⟩
          have e1 : T.length = j := by rw [← hT]; simp; omega
          have e3 : D.length = l.length - j := by rw [← hD]; simp
          have HI : Hid (∀ y ∈ T ++ x :: D, i64B y) := by
            intro y hy
            rcases List.mem_append.1 hy with h | h
            · exact hi y (by rw [← hT] at h; exact List.mem_of_mem_take h)
            · rcases List.mem_cons.1 h with rfl | h
              · exact hx
              · exact hi y (by rw [← hD] at h; exact List.mem_of_mem_drop h)
          have HP2 : Hid (putL x l = T ++ x :: D) := by show _ = _; rw [← hT, ← hD]; exact HP.out
          rw [hT] at n1
          rw [hD] at n3
          clear HP hT hD hi hc0 hc2
          have m1 : (T.map encI).length = j * 1 := by simp [e1]
          have m3 : (D.map encI).length = (l.length - j) * 1 := by simp [e3]
          have o1 := one_row T
          have o3 := one_row D
          obtain ⟨TV, hTV⟩ : ∃ TV, T.map encI = TV := ⟨_, rfl⟩
          obtain ⟨DV, hDV⟩ : ∃ DV, D.map encI = DV := ⟨_, rfl⟩
          have HTV : Hid (T.map encI = TV) := hTV
          have HDV : Hid (D.map encI = DV) := hDV
          rw [hTV] at n1 o1 m1
          rw [hDV] at n3 o3 m3
          clear hTV hDV
          go_wp2_with (at_builtin; refine wpList_append_own _ rfl _ _ 27 rfl wr.heap.size 3 i0 _ 1 8 Tryd.underlying27 hi0 hz0 hz1 hz2 rfl (by decide) _ 0 [] rfl (World.ownsRow_nil _ _ _ _) ⟨b, off, none⟩ j cap TV rfl m1 n1 o1 (by unfold maxLen; omega) (by omega) (Nat.le_refl _) ?_)
          intro v1 w1 hown1 hg1 _
          have B1 : Below wr.heap.size wr w1 := B0.grown hg1 (Nat.le_refl _) (fun k e => by cases e)
          have hs1 := B1.size
          obtain ⟨a1, c1, rfl⟩ := slice_of_own (show w1.ownsRow wr.heap.size 3 1 v1 j TV by simpa using hown1)
          have w1own : w1.ownsRow wr.heap.size 3 1 (.slice a1 j c1) j TV := by simpa using hown1
          clear hown1 hg1
          go_wp2_with (at_builtin; refine wpList_append_own _ rfl _ _ 27 rfl wr.heap.size 3 i0 _ 1 8 Tryd.underlying27 hi0 hz0 hz1 hz2 rfl (by decide) _ j TV rfl (World.ownsRow.alloc w1own _) ⟨w1.heap.size, 0, none⟩ 1 1 [encI x] rfl rfl (new_cell _ _ _) (by simp [encI]; rfl) (by unfold maxLen; omega) (by omega) (by simp; omega) ?_)
          intro v2 w2 hown2 hg2 _
          have B2 : Below wr.heap.size wr w2 := (B1.alloc hs1 _).grown hg2 (by simp; omega) (fun k e => (World.ownsRow.lt w1own k e).1)
          have hs2 := B2.size
          obtain ⟨a2, c2, rfl⟩ := slice_of_own hown2
          have n4 := own1_news n3 hbl B2
          clear hg2 w1own n1 n3
          go_wp2_with (at_builtin; refine wpList_append_own _ rfl _ _ 27 rfl wr.heap.size 3 i0 _ 1 8 Tryd.underlying27 hi0 hz0 hz1 hz2 rfl (by decide) _ (j + 1) (TV ++ [encI x]) rfl hown2 ⟨b, off + j, none⟩ (l.length - j) (cap - j) DV rfl m3 n4 o3 (by unfold maxLen; omega) (by omega) hs2 ?_)
          intro v3 w3 hown3 hg3 _
          have B3 : Below wr.heap.size wr w3 := B2.grown hg3 hs2 (fun k e => (World.ownsRow.lt hown2 k e).1)
          have HO : Hid (w3.ownsRow wr.heap.size 3 1 v3 (j + 1 + (l.length - j)) (TV ++ encI x :: DV)) := hown3
          clear hg3 hown3 hown2
          obtain ⟨a3, c3, rfl⟩ := slice_of_own HO.out
          go_wp2_with fail
          go_ret
          refine ⟨_, rfl, ?_, .inr (apart_own HO.out), B3⟩
          rw [HP2.out]
          refine sli_own (B := wr.heap.size) ?_ HI.out
          have := HO.out
          unfold Own1
          have q1 : (T ++ x :: D).length = j + 1 + (l.length - j) := by simp [e1, e3]; omega
          rw [q1]
          simpa [HTV.out, HDV.out] using this
    · have hjl : j = l.length := by omega
      subst hjl
      have HP : Hid (putL x l = l ++ [x]) := by
        show _ = _
        have := putL_lt (b := []) (x := x) (fun y hy => hrel y (by simpa using hy))
        simpa [putL] using this
      have HI : Hid (∀ y ∈ l ++ [x], i64B y) := by
        intro y hy
        rcases List.mem_append.1 hy with h | h
        · exact hi y h
        · simp at h; subst h; exact hx
      have B0 : Below wr.heap.size wr wr := Below.refl _ _
      rcases ao with _ | ad
      · obtain rfl : l = [] := hc.cons_none
        obtain rfl : cap = 0 := hn rfl
        clear hrel hc hc0 hi
        go_wp2_with (at_builtin; first | (refine wpList_append_own_none rfl (.tmp 34) (.tmp 37) 27 rfl wr.heap.size 3 i0 1 Tryd.underlying27 hi0 _ 0 [] rfl (World.ownsRow_nil _ _ _ _) rfl ?_) | (refine wpList_append_own _ rfl (.tmp 39) (.tmp 41) 27 rfl wr.heap.size 3 i0 _ 1 8 Tryd.underlying27 hi0 hz0 hz1 hz2 rfl (by decide) _ 0 [] rfl (World.ownsRow_nil _ _ _ _) ⟨wr.heap.size, 0, none⟩ 1 1 [encI x] rfl rfl (new_cell _ _ _) (by simp [encI]; rfl) (by unfold maxLen; omega) (by omega) (by simp) ?_))
        intro v2 w2 hown2 hg2 _
        have B2 : Below wr.heap.size wr w2 := (B0.alloc (Nat.le_refl _) _).grown hg2 (by simp) (fun k e => by cases e)
        have hs2 := B2.size
        obtain ⟨a2, c2, rfl⟩ := slice_of_own hown2
        clear hg2
        go_wp2_with (at_builtin; refine wpList_append_own_none rfl (.tmp 43) (.tmp 46) 27 rfl wr.heap.size 3 i0 1 Tryd.underlying27 hi0 _ 1 [encI x] rfl hown2 rfl ?_)
        have HO : Hid (w2.ownsRow wr.heap.size 3 1 (.slice a2 1 c2) 1 [encI x]) := hown2
        clear hown2
        go_wp2_with fail
        go_ret
        refine ⟨_, rfl, ?_, .inr (apart_own HO.out), B2⟩
        rw [HP.out]
        exact sli_own (B := wr.heap.size) HO.out HI.out
      · have n1 : ∀ (j : Nat) (u : Value), (l.map encI)[j]? = some u → wr.cell? (ad.add j) = some u := by
          intro k u hk
          rw [List.getElem?_map] at hk
          obtain ⟨y, hy, rfl⟩ := Option.map_eq_some_iff.1 hk
          obtain ⟨b, off, e, _, h2⟩ := hc k y hy
          cases e
          rw [add_plain]; exact h2
        have m1 : (l.map encI).length = l.length * 1 := by simp
        have o1 := one_row l
        obtain ⟨TV, hTV⟩ : ∃ TV, l.map encI = TV := ⟨_, rfl⟩
        have HTV : Hid (l.map encI = TV) := hTV
        rw [hTV] at n1 o1 m1
        clear hTV hrel hc hc0 hi
        go_wp2_with (at_builtin; refine wpList_append_own _ rfl _ _ 27 rfl wr.heap.size 3 i0 _ 1 8 Tryd.underlying27 hi0 hz0 hz1 hz2 rfl (by decide) _ 0 [] rfl (World.ownsRow_nil _ _ _ _) ad l.length cap TV rfl m1 n1 o1 (by unfold maxLen; omega) (by omega) (Nat.le_refl _) ?_)
        intro v1 w1 hown1 hg1 _
        have B1 : Below wr.heap.size wr w1 := B0.grown hg1 (Nat.le_refl _) (fun k e => by cases e)
        have hs1 := B1.size
        obtain ⟨a1, c1, rfl⟩ := slice_of_own (show w1.ownsRow wr.heap.size 3 1 v1 l.length TV by simpa using hown1)
        have w1own : w1.ownsRow wr.heap.size 3 1 (.slice a1 l.length c1) l.length TV := by simpa using hown1
        clear hown1 hg1
        go_wp2_with (at_builtin; refine wpList_append_own _ rfl _ _ 27 rfl wr.heap.size 3 i0 _ 1 8 Tryd.underlying27 hi0 hz0 hz1 hz2 rfl (by decide) _ l.length TV rfl (World.ownsRow.alloc w1own _) ⟨w1.heap.size, 0, none⟩ 1 1 [encI x] rfl rfl (new_cell _ _ _) (by simp [encI]; rfl) (by unfold maxLen; omega) (by omega) (by simp; omega) ?_)
        intro v2 w2 hown2 hg2 _
        have B2 : Below wr.heap.size wr w2 := (B1.alloc hs1 _).grown hg2 (by simp; omega) (fun k e => (World.ownsRow.lt w1own k e).1)
        have hs2 := B2.size
        obtain ⟨a2, c2, rfl⟩ := slice_of_own hown2
        clear hg2 w1own n1
        by_cases hcl : cap = l.length
        · subst hcl
          go_wp2_with (at_builtin; refine wpList_append_own _ rfl (.tmp 43) (.tmp 46) 27 rfl wr.heap.size 3 i0 _ 1 8 Tryd.underlying27 hi0 hz0 hz1 hz2 rfl (by decide) _ (l.length + 1) (TV ++ [encI x]) rfl hown2 ad 0 0 [] rfl rfl (by simp) (by simp) (by unfold maxLen; omega) (by omega) hs2 ?_)
          intro v3 w3 hown3 hg3 _
          have B3 : Below wr.heap.size wr w3 := B2.grown hg3 hs2 (fun k e => (World.ownsRow.lt hown2 k e).1)
          have HO : Hid (w3.ownsRow wr.heap.size 3 1 v3 (l.length + 1) (TV ++ [encI x])) := by show World.ownsRow _ _ _ _ _ _ _; simpa using hown3
          clear hg3 hown3 hown2
          obtain ⟨a3, c3, rfl⟩ := slice_of_own HO.out
          go_wp2_with fail
          go_ret
          refine ⟨_, rfl, ?_, .inr (apart_own HO.out), B3⟩
          rw [HP.out]
          refine sli_own (B := wr.heap.size) ?_ HI.out
          have := HO.out
          unfold Own1
          rw [show (l ++ [x]).length = l.length + 1 by simp]
          simpa [HTV.out] using this
        · have hcl2 : ¬ cap - l.length = 0 := by omega
          have hcl3 : l.length < cap := by omega
          go_wp2_with (at_builtin; refine wpList_append_own _ rfl (.tmp 43) (.tmp 46) 27 rfl wr.heap.size 3 i0 _ 1 8 Tryd.underlying27 hi0 hz0 hz1 hz2 rfl (by decide) _ (l.length + 1) (TV ++ [encI x]) rfl hown2 (ad.add l.length) 0 (cap - l.length) [] rfl rfl (by simp) (by simp) (by unfold maxLen; omega) (by omega) hs2 ?_)
          intro v3 w3 hown3 hg3 _
          have B3 : Below wr.heap.size wr w3 := B2.grown hg3 hs2 (fun k e => (World.ownsRow.lt hown2 k e).1)
          have HO : Hid (w3.ownsRow wr.heap.size 3 1 v3 (l.length + 1) (TV ++ [encI x])) := by show World.ownsRow _ _ _ _ _ _ _; simpa using hown3
          clear hg3 hown3 hown2
          obtain ⟨a3, c3, rfl⟩ := slice_of_own HO.out
          go_wp2_with fail
          go_ret
          refine ⟨_, rfl, ?_, .inr (apart_own HO.out), B3⟩
          rw [HP.out]
          refine sli_own (B := wr.heap.size) ?_ HI.out
          have := HO.out
          unfold Own1
          rw [show (l ++ [x]).length = l.length + 1 by simp]
          simpa [HTV.out] using this

theorem length_putL_le (x : Int) (l : List Int) : (putL x l).length ≤ l.length + 1 := (length_putL x l).2

set_option maxHeartbeats 1600000 in
theorem union_any (a b : List Int) (u v : Value) (w : World) (ha : SlI a u w) (hb : SlI b v w) (hl : a.length + b.length ≤ 1000000) :
    Calls Tryd.prog 31 #[u, v] w fun e w' => ∃ v', e = .returned v' ∧ SlI (unionL a b) v' w' ∧ (v' = u ∨ Apart w.heap.size v') ∧ Below w.heap.size w w' := by
  obtain ⟨bo, bc, rfl, hb, hbn, hbc, hbi⟩ := hb
  have hu : ∃ ua ul uc, u = .slice ua ul uc := by obtain ⟨ao, cap, h, _⟩ := ha; exact ⟨_, _, _, h⟩
  obtain ⟨ua, ul, uc, rfl⟩ := hu
  have HA : Hid (SlI a (.slice ua ul uc) w) := ha
  clear ha
  go_enter Tryd.func31, Tryd.ntmps31
  go_wp2
  go_loopw [0, 5] (fun s i wr => ∃ (j : Nat) (A : List Int), i = .int .i64 j ∧ j ≤ b.length ∧ SlI A s wr ∧ (s = .slice ua ul uc ∨ Apart w.heap.size s) ∧ A.length ≤ a.length + j ∧ unionL a b = unionL A (b.drop j) ∧ Below w.heap.size w wr) (fun _ i _ => b.length - (intOf i).toNat)
  case atStart => exact ⟨0, a, rfl, Nat.zero_le _, HA.out, .inl rfl, by omega, by simp, Below.refl _ _⟩
  case round =>
    clear HA
    obtain ⟨j, A, rfl, hj, hA, hap, hAl, hrel, B1⟩ := hrel
    obtain ⟨sa, sc, rfl, _⟩ := id hA
    have HAP : Hid (Value.slice sa A.length sc = .slice ua ul uc ∨ Apart w.heap.size (.slice sa A.length sc)) := hap
    clear hap
    have HA : Hid (SlI A (.slice sa A.length sc) wr) := hA
    clear hA
    by_cases hlt : j < b.length
    · obtain ⟨bb, off, rfl, _, c0⟩ := hb.at B1 hlt
      have hxi := hbi _ (List.getElem_mem hlt)
      have HR : Hid (unionL a b = unionL (putL b[j] A) (b.drop (j + 1))) := by
        show _ = _
        rw [hrel, List.drop_eq_getElem_cons hlt]
        rfl
      generalize b[j] = r at *
      simp only [encI] at c0
      have HC : Hid (Calls Tryd.prog 53 #[.slice sa A.length sc, .int .i64 r] wr fun e w' => ∃ v', e = .returned v' ∧ SlI (putL r A) v' w' ∧ (v' = .slice sa A.length sc ∨ Apart wr.heap.size v') ∧ Below wr.heap.size wr w') := put_any A r _ wr HA.out hxi (by omega)
      have hAl2 := length_putL_le r A
      clear hrel HA hb hbi
      go_wp2_with fail
      refine HC.out.mono ?_
      rintro e w1 ⟨v', rfl, hv, hap2, hb1⟩
      obtain ⟨va, vc, rfl, _⟩ := id hv
      have HAP2 : Hid (Value.slice va (putL r A).length vc = .slice ua ul uc ∨ Apart w.heap.size (.slice va (putL r A).length vc)) := by
        rcases hap2 with e | e
        · rw [e]; exact HAP.out
        · exact .inr (e.mono B1.size)
      clear hap2 HAP
      have HV : Hid (SlI (putL r A) (.slice va (putL r A).length vc) w1) := hv
      have B2 := below_then B1 hb1 B1.size
      clear hv HC
      generalize putL r A = A2 at *
      go_wp2_with fail
      exact ⟨⟨j + 1, A2, by go_num, by omega, HV.out, HAP2.out, by omega, HR.out, B2⟩, by simp [intOf]; omega⟩
    · have HS : Hid (unionL a b = A) := by
        show _ = _
        rw [hrel, List.drop_of_length_le (by omega)]
        rfl
      clear hrel hb hbi
      go_wp2
      go_ret
      exact ⟨_, rfl, by rw [HS.out]; exact HA.out, HAP.out, B1⟩
end Go.Proofs.YtckbfiigbckmeaaDoor
