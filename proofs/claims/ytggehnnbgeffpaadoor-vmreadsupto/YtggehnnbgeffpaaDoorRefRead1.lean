/- The document's functions beneath its Parse: fault, num, kind, made. -/
import Derived.Test.YtggehnnbgeffpaaDoorBackMath
import Derived.Test.YtggehnnbgeffpaaDoorReadMath
namespace Go.Proofs.YtggehnnbgeffpaaDoor
open Go.Shelf Go.RowKit Go.Lib Go.Proofs

theorem fault_any (e a : Int) (w : World) : Calls Tryd.prog 23 #[.int .i64 e, .int .i64 a] w fun r w' => r = .returned (.agg #[.int .i64 e, .int .i64 a]) ∧ Below w.heap.size w w' := by
  go_enter Tryd.func23, Tryd.ntmps23
  go_wp2
  refine bodyPost_ret (v := .agg #[.int .i64 e, .int .i64 a]) (by simp [results, Tryd.f23, go_sem]) rfl ⟨rfl, ?_⟩
  exact (Below.refl _ _).alloc (Nat.le_refl _) _

theorem val_snoc (l : List UInt8) (c : UInt8) : valN (l ++ [c]) = valN l * 10 + (c.toNat - 48) := by simp [valN, List.foldl_append]
theorem take_snoc (s : ByteArray) (k : Nat) (hk : k < s.size) : s.data.toList.take (k + 1) = s.data.toList.take k ++ [s[k]'hk] := by
  rw [List.take_add_one, List.getElem?_eq_getElem (by simpa using hk)]
  rfl
theorem toL_len (s : ByteArray) : s.data.toList.length = s.size := by simp

def NumR (l : List UInt8) (e : Ending) : Prop := ∃ v ok, e = .returned (.tuple #[.int .i64 v, .bool ok]) ∧ ((ok = true ∧ rnumN l = some v) ∨ (ok = false ∧ rnumN l = none))
set_option maxRecDepth 100000 in
set_option maxHeartbeats 4000000 in
theorem num_any (s : ByteArray) (w : World) : Calls Tryd.prog 25 #[.string s] w fun e w' => NumR s.data.toList e ∧ w' = w := by
  go_enter Tryd.func25, Tryd.ntmps25
  go_wp2
  go_loop [4, 5] (fun n i => ∃ k : Nat, i = .int .i64 k ∧ n = .int .i64 (valN (s.data.toList.take k)) ∧ k ≤ s.size ∧ k ≤ 3 ∧ valN (s.data.toList.take k) + 1 ≤ 10 ^ k ∧ Hid ((s.data.toList.take k).all digB = true)) (fun _ i => s.size - (intOf i).toNat)
  case atStart => exact ⟨0, rfl, rfl, Nat.zero_le _, Nat.zero_le _, by simp [valN], (rfl : ([] : List UInt8).all digB = true)⟩
  case round =>
    obtain ⟨k, rfl, rfl, hk, hk3, hv, HD⟩ := hrel
    by_cases hlt : k < s.size
    · have hsn := take_snoc s k hlt
      obtain ⟨c, hc⟩ : ∃ c : UInt8, s[k]'hlt = c := ⟨_, rfl⟩
      rw [hc] at hsn
      have hmem : c ∈ s.data.toList := by
        have : c ∈ s.data.toList.take (k + 1) := by rw [hsn]; simp
        exact List.mem_of_mem_take this
      have q0 : (k : Int) < s.size := by omega
      have hcb := c.toNat_lt
      by_cases hg : 48 ≤ c.toNat ∧ c.toNat ≤ 57 ∧ k < 3
      · have hdc : digB c = true := by simp [digB, hg.1, hg.2.1]
        have hvs : valN (s.data.toList.take (k + 1)) = valN (s.data.toList.take k) * 10 + (c.toNat - 48) := by rw [hsn, val_snoc]
        have HD2 : Hid ((s.data.toList.take (k + 1)).all digB = true) := by
          show _ = _
          rw [hsn, List.all_append, HD.out]
          simp [hdc]
        have hb : valN (s.data.toList.take k) ≤ 99 := by
          have : 10 ^ k ≤ 10 ^ 2 := Nat.pow_le_pow_right (by omega) (by omega)
          omega
        have hb2 : valN (s.data.toList.take (k + 1)) + 1 ≤ 10 ^ (k + 1) := by
          rw [hvs, Nat.pow_succ]
          omega
        have HV2 : Hid (valN (s.data.toList.take (k + 1)) = valN (s.data.toList.take k) * 10 + (c.toNat - 48)) := hvs
        generalize hnv : valN (s.data.toList.take k) = nv at *
        clear hnv hsn hv hvs hmem hdc
        obtain ⟨g1, g2, g3⟩ := hg
        have a1 : ¬ (c.toNat : Int) < 48 := by omega
        have a2 : ¬ (57 : Int) < c.toNat := by omega
        have a3 : ¬ (3 : Int) ≤ k := by omega
        go_wp2
        refine ⟨⟨k + 1, by go_num, ?_, by omega, by omega, hb2, HD2⟩, by simp [intOf]; omega⟩
        rw [HV2.out]
        go_num
      · have HN : Hid (rnumN s.data.toList = none) := by
          show _ = _
          unfold rnumN
          rw [if_neg]
          rintro ⟨h1, h2, _⟩
          rw [toL_len] at h2
          have := List.all_eq_true.1 h1 c hmem
          simp [digB] at this
          omega
        have hcase : (c.toNat : Int) < 48 ∨ (¬ (c.toNat : Int) < 48 ∧ (57 : Int) < c.toNat) ∨ (¬ (c.toNat : Int) < 48 ∧ ¬ (57 : Int) < c.toNat ∧ (3 : Int) ≤ k) := by omega
        generalize valN (s.data.toList.take k) = nv at *
        clear hsn hv hmem hg HD
        rcases hcase with a1 | ⟨a1, a2⟩ | ⟨a1, a2, a3⟩
        all_goals
          go_wp2
        all_goals
          refine bodyPost_ret (v := .tuple #[.int .i64 0, .bool false]) (by simp [results, Tryd.f25, go_sem]) rfl ⟨⟨_, _, rfl, .inr ⟨rfl, HN.out⟩⟩, rfl⟩
    · obtain rfl : k = s.size := by omega
      have q0 : ¬ (s.size : Int) < s.size := by omega
      have ht : s.data.toList.take s.size = s.data.toList := List.take_of_length_le (by simp)
      rw [ht] at HD hv
      rw [ht]
      by_cases h0 : s.size = 0
      · have hnil : s.data.toList = [] := List.length_eq_zero_iff.1 (by rw [toL_len]; exact h0)
        have HN : Hid (rnumN s.data.toList = none) := by
          show _ = _
          unfold rnumN
          rw [if_neg]
          rintro ⟨_, _, h, _⟩
          exact h hnil
        have hemp : s.toList.isEmpty = true := by rw [Lib.toList_data, hnil]; rfl
        clear HD hv hnil ht
        go_wp2
        all_goals
          refine bodyPost_ret (v := .tuple #[.int .i64 (valN s.data.toList), .bool false]) (by simp [results, Tryd.f25, go_sem]) rfl ⟨⟨_, _, rfl, .inr ⟨rfl, HN.out⟩⟩, rfl⟩
      · obtain ⟨c, hc⟩ : ∃ c : UInt8, s[0]'(by omega) = c := ⟨_, rfl⟩
        have hc0 : s.data.toList[0]? = some c := by rw [← hc]; exact Lib.data_getElem? s 0 (by omega)
        have hne : s.data.toList ≠ [] := fun h => by rw [h] at hc0; simp at hc0
        have hemp : s.toList.isEmpty = false := by rw [Lib.toList_data]; cases h : s.data.toList with | nil => exact absurd h hne | cons _ _ => rfl
        have hpos : (0 : Int) < s.size := by omega
        have hcb := c.toNat_lt
        have key : ∀ b, b = decide (valN s.data.toList ≤ 255 ∧ (c ≠ 48 ∨ s.size = 1)) → (b = true ∧ rnumN s.data.toList = some (valN s.data.toList : Int)) ∨ (b = false ∧ rnumN s.data.toList = none) := fun b hb => by
          subst hb
          unfold rnumN
          by_cases hq : valN s.data.toList ≤ 255 ∧ (c ≠ 48 ∨ s.size = 1)
          · exact .inl ⟨decide_eq_true hq, if_pos ⟨HD.out, by rw [toL_len]; omega, hne, hq.1, by rw [hc0, toL_len]; rcases hq.2 with h | h; exact .inl (by simp [h]); exact .inr h⟩⟩
          · refine .inr ⟨decide_eq_false hq, if_neg ?_⟩
            rintro ⟨_, _, _, h4, h5⟩
            rw [hc0, toL_len] at h5
            exact hq ⟨h4, h5.imp (fun h e => h (by rw [e])) id⟩
        have KEY : Hid (∀ b, b = decide (valN s.data.toList ≤ 255 ∧ (c ≠ 48 ∨ s.size = 1)) → (b = true ∧ rnumN s.data.toList = some (valN s.data.toList : Int)) ∨ (b = false ∧ rnumN s.data.toList = none)) := key
        generalize hvn : valN s.data.toList = nv at *
        clear HD hv ht hne hc0 key
        by_cases b1 : (nv : Int) ≤ 255
        · by_cases b2 : (c.toNat : Int) = 48
          · have hc48 : c = 48 := by rw [← UInt8.toNat_inj]; simpa using (by omega : c.toNat = 48)
            by_cases b3 : (s.size : Int) = 1
            · go_wp2
              refine bodyPost_ret (v := .tuple #[.int .i64 nv, .bool true]) (by simp [results, Tryd.f25, go_sem]) rfl ⟨⟨_, _, rfl, KEY.out true ?_⟩, rfl⟩
              exact (decide_eq_true ⟨by omega, .inr (by omega)⟩).symm
            · have b3' : ((s.size : Int) == 1) = false := beq_eq_false_iff_ne.2 b3
              go_wp2
              refine bodyPost_ret (v := .tuple #[.int .i64 nv, .bool false]) (by simp [results, Tryd.f25, go_sem]) rfl ⟨⟨_, _, rfl, KEY.out false ?_⟩, rfl⟩
              refine (decide_eq_false ?_).symm
              rintro ⟨_, h | h⟩
              · exact h hc48
              · omega
          · have b2' : ((c.toNat : Int) == 48) = false := beq_eq_false_iff_ne.2 b2
            have hc48 : c ≠ 48 := fun h => b2 (by rw [h]; rfl)
            go_wp2
            refine bodyPost_ret (v := .tuple #[.int .i64 nv, .bool true]) (by simp [results, Tryd.f25, go_sem]) rfl ⟨⟨_, _, rfl, KEY.out true ?_⟩, rfl⟩
            exact (decide_eq_true ⟨by omega, .inl hc48⟩).symm
        · go_wp2
          refine bodyPost_ret (v := .tuple #[.int .i64 nv, .bool false]) (by simp [results, Tryd.f25, go_sem]) rfl ⟨⟨_, _, rfl, KEY.out false ?_⟩, rfl⟩
          refine (decide_eq_false ?_).symm
          rintro ⟨h, _⟩
          omega

/-- The kind and how many numbers it takes. -/
def kindR (l : List UInt8) : Value := match kindN l with
  | some k => if k = 0 then .tuple #[.int .i64 0, .int .i64 0] else .tuple #[.int .i64 k, .int .i64 (takersN k).length]
  | none => .tuple #[.int .i64 0, .int .i64 0]
theorem kindR_some {l : List UInt8} {k : Nat} (hk : k < 8) (h1 : 1 ≤ k) (hne : wordL k ≠ []) (h : wordL k = l) (hb : ∀ j, 1 ≤ j → j < k → wordL j ≠ l) : kindR l = .tuple #[.int .i64 k, .int .i64 (takersN k).length] := by
  unfold kindR
  rw [kind_some hk h (fun j hj => by
    by_cases e : j = 0
    · subst e
      intro h'
      rw [← h'] at h
      exact hne h
    · exact hb j (by omega) hj)]
  simp only
  rw [if_neg (by omega)]
theorem kindR_none {l : List UInt8} (hb : ∀ j, 1 ≤ j → j < 8 → wordL j ≠ l) : kindR l = .tuple #[.int .i64 0, .int .i64 0] := by
  unfold kindR
  by_cases e : l = []
  · subst e
    rfl
  · rw [kind_none (fun j hj => by
      by_cases e' : j = 0
      · subst e'
        exact fun h => e h.symm
      · exact hb j (by omega) hj)]
theorem kind_cells (w : World) (W0 : World) (hW : ((w.alloc (Obj.cells #[Value.string { data := #[] }, Value.string { data := #[99, 104, 97, 114] }, Value.string { data := #[105, 115] }, Value.string { data := #[115, 101, 116] }, Value.string { data := #[97, 100, 100] }, Value.string { data := #[103, 111, 116, 111] }, Value.string { data := #[121, 101, 115] }, Value.string { data := #[110, 111] }] 9)).alloc (Obj.cells #[Value.int IntKind.i64 0, Value.int IntKind.i64 3, Value.int IntKind.i64 2, Value.int IntKind.i64 1, Value.int IntKind.i64 1, Value.int IntKind.i64 1, Value.int IntKind.i64 0, Value.int IntKind.i64 0] 3)) = W0) :
    (∀ j, j < 8 → W0.cell? ⟨w.heap.size, j, none⟩ = some (.string ⟨(wordL j).toArray⟩)) ∧ (∀ j, j < 8 → W0.cell? ⟨w.heap.size + 1, j, none⟩ = some (.int .i64 (takersN j).length)) ∧ w.heap.size + 1 < W0.heap.size ∧ Below w.heap.size w W0 := by
  subst hW
  refine ⟨fun j hj => ?_, fun j hj => ?_, by simp, ((Below.refl _ _).alloc (Nat.le_refl _) _).alloc (by simp) _⟩
  · rw [cell_of_obj ((Below.heap_alloc _ _ _ (by simp)).trans (World.alloc_heap_new _ _))]
    have hq : j = 0 ∨ j = 1 ∨ j = 2 ∨ j = 3 ∨ j = 4 ∨ j = 5 ∨ j = 6 ∨ j = 7 := by omega
    rcases hq with rfl | rfl | rfl | rfl | rfl | rfl | rfl | rfl <;> rfl
  · have e : w.heap.size + 1 = (w.alloc (Obj.cells #[Value.string { data := #[] }, Value.string { data := #[99, 104, 97, 114] }, Value.string { data := #[105, 115] }, Value.string { data := #[115, 101, 116] }, Value.string { data := #[97, 100, 100] }, Value.string { data := #[103, 111, 116, 111] }, Value.string { data := #[121, 101, 115] }, Value.string { data := #[110, 111] }] 9)).heap.size := by simp
    rw [e, cell_of_obj (World.alloc_heap_new _ _)]
    have hq : j = 0 ∨ j = 1 ∨ j = 2 ∨ j = 3 ∨ j = 4 ∨ j = 5 ∨ j = 6 ∨ j = 7 := by omega
    rcases hq with rfl | rfl | rfl | rfl | rfl | rfl | rfl | rfl <;> rfl
theorem wordL_ne : ∀ k : Fin 8, 1 ≤ k.1 → wordL k.1 ≠ [] := by decide
set_option maxRecDepth 100000 in
set_option maxHeartbeats 8000000 in
theorem kindR_any (s : ByteArray) (w : World) : Calls Tryd.prog 24 #[.string s] w fun e w' => e = .returned (kindR s.data.toList) ∧ Below w.heap.size w w' := by
  go_enter Tryd.func24, Tryd.ntmps24
  go_wp2
  generalize hW : ((w.alloc (Obj.cells #[Value.string { data := #[] }, Value.string { data := #[99, 104, 97, 114] }, Value.string { data := #[105, 115] }, Value.string { data := #[115, 101, 116] }, Value.string { data := #[97, 100, 100] }, Value.string { data := #[103, 111, 116, 111] }, Value.string { data := #[121, 101, 115] }, Value.string { data := #[110, 111] }] 9)).alloc (Obj.cells #[Value.int IntKind.i64 0, Value.int IntKind.i64 3, Value.int IntKind.i64 2, Value.int IntKind.i64 1, Value.int IntKind.i64 1, Value.int IntKind.i64 1, Value.int IntKind.i64 0, Value.int IntKind.i64 0] 3)) = W0
  obtain ⟨hn, ht, hz, hB⟩ := kind_cells w W0 hW
  have HN : Hid (∀ j, j < 8 → W0.cell? ⟨w.heap.size, j, none⟩ = some (.string ⟨(wordL j).toArray⟩)) := hn
  have HT : Hid (∀ j, j < 8 → W0.cell? ⟨w.heap.size + 1, j, none⟩ = some (.int .i64 (takersN j).length)) := ht
  clear hW hn ht
  go_loop [6] (fun c => ∃ j : Nat, c = .int .i64 j ∧ 1 ≤ j ∧ j ≤ 8 ∧ Hid (∀ k, 1 ≤ k → k < j → wordL k ≠ s.data.toList)) (fun c => 8 - (intOf c).toNat)
  case atStart => exact ⟨1, rfl, by omega, by omega, fun k h1 h2 => by omega⟩
  case round =>
    obtain ⟨j, rfl, hj1, hj, HA⟩ := hrel
    by_cases hlt : j < 8
    · have hnj := HN.out j hlt
      have htj := HT.out j hlt
      have k1 : (j : Int) < 8 := by omega
      have hne := wordL_ne ⟨j, hlt⟩ hj1
      simp only at hne
      by_cases hw : wordL j = s.data.toList
      · have HK : Hid (kindR s.data.toList = .tuple #[.int .i64 j, .int .i64 (takersN j).length]) := kindR_some hlt hj1 hne hw HA.out
        have hs : (⟨(wordL j).toArray⟩ : ByteArray) = s := by rw [hw]
        rw [hs] at hnj
        generalize ((takersN j).length : Int) = tl at *
        clear HA HN HT hne hs hw
        go_wp2_with fail
        go_quiet (fail)
        go_wp2_with fail
        refine bodyPost_ret (v := .tuple #[.int .i64 j, .int .i64 tl]) (by simp [results, Tryd.f24, go_sem]) rfl ⟨?_, below_drewN hB _⟩
        rw [HK.out]
      · have HA2 : Hid (∀ k, 1 ≤ k → k < j + 1 → wordL k ≠ s.data.toList) := fun k h1 h2 => by
          by_cases e : k = j
          · rw [e]; exact hw
          · exact HA.out k h1 (by omega)
        have hs' : ¬ (⟨(wordL j).toArray⟩ : ByteArray).toList = s.toList := by
          rw [Lib.toList_data, Lib.toList_data]
          simpa using hw
        generalize (⟨(wordL j).toArray⟩ : ByteArray) = wd at *
        have hs2 : (wd.toList == s.toList) = false := beq_eq_false_iff_ne.2 hs'
        clear HA HN HT hne hw htj
        go_wp2_with fail
        exact ⟨⟨j + 1, by go_num, by omega, by omega, HA2⟩, by simp [intOf]; omega⟩
    · obtain rfl : j = 8 := by omega
      have HK : Hid (kindR s.data.toList = .tuple #[.int .i64 0, .int .i64 0]) := kindR_none HA.out
      clear HA HN HT
      go_wp2_with fail
      refine bodyPost_ret (v := .tuple #[.int .i64 0, .int .i64 0]) (by simp [results, Tryd.f24, go_sem]) rfl ⟨?_, hB⟩
      rw [HK.out]

/-- The operation of its numbers, as far as they are read. -/
def insN (k : Nat) (l : List Int) : Ins := match k with
  | 1 => ⟨1, l.getD 0 0, l.getD 1 0, l.getD 2 0⟩
  | 2 => ⟨2, l.getD 0 0, 0, l.getD 1 0⟩
  | 3 => ⟨3, l.getD 0 0, 0, 0⟩
  | 4 => ⟨4, l.getD 0 0, 0, 0⟩
  | 5 => ⟨5, 0, 0, l.getD 0 0⟩
  | k => ⟨k, 0, 0, 0⟩
def IntsAt (l : List Int) (ao : Option Addr) (W : World) : Prop := ∀ (i : Nat) (v : Int), l[i]? = some v → ∃ b, ao = some ⟨b, 0, none⟩ ∧ b < W.heap.size ∧ W.cell? ⟨b, i, none⟩ = some (.int .i64 v)
set_option maxRecDepth 100000 in
set_option maxHeartbeats 8000000 in
theorem made_any (k : Nat) (h1 : 1 ≤ k) (h7 : k ≤ 7) (nums : List Int) (hn : nums.length = (takersN k).length) (ao : Option Addr) (n cap : Nat) (hnl : n = nums.length) (w : World) (hI : IntsAt nums ao w) :
    Calls Tryd.prog 26 #[.int .i64 k, .slice ao n cap] w fun e w' => e = .returned (aggI (insN k nums)) ∧ Below w.heap.size w w' := by
  subst hnl
  have hk : k = 1 ∨ k = 2 ∨ (k = 3 ∨ k = 4) ∨ k = 5 ∨ (k = 6 ∨ k = 7) := by omega
  rcases hk with rfl | rfl | hk | rfl | hk
  · obtain ⟨a, b, c, rfl⟩ : ∃ a b c, nums = [a, b, c] := by
      match nums, hn with
      | [a, b, c], _ => exact ⟨a, b, c, rfl⟩
    obtain ⟨g, rfl, hg, c0⟩ := hI 0 a rfl
    obtain ⟨_, e1, _, c1⟩ := hI 1 b rfl
    cases e1
    obtain ⟨_, e2, _, c2⟩ := hI 2 c rfl
    cases e2
    clear hI hn
    go_enter Tryd.func26, Tryd.ntmps26
    go_wp2_with fail
    go_big_region
    go_wp2_with fail
    refine bodyPost_ret (v := aggI (insN 1 [a, b, c])) (by simp [results, Tryd.f26, go_sem, insN]) rfl ⟨rfl, ?_⟩
    exact below_drewN (((Below.refl _ _).alloc (Nat.le_refl _) _).alloc (by simp) _) 1
  · obtain ⟨a, b, rfl⟩ : ∃ a b, nums = [a, b] := by
      match nums, hn with
      | [a, b], _ => exact ⟨a, b, rfl⟩
    obtain ⟨g, rfl, hg, c0⟩ := hI 0 a rfl
    obtain ⟨_, e1, _, c1⟩ := hI 1 b rfl
    cases e1
    clear hI hn
    go_enter Tryd.func26, Tryd.ntmps26
    go_wp2_with fail
    go_big_region
    go_wp2_with fail
    refine bodyPost_ret (v := aggI (insN 2 [a, b])) (by simp [results, Tryd.f26, go_sem, insN]) rfl ⟨rfl, ?_⟩
    exact below_drewN (((Below.refl _ _).alloc (Nat.le_refl _) _).alloc (by simp) _) 1
  · obtain ⟨a, rfl⟩ : ∃ a, nums = [a] := by
      rcases hk with rfl | rfl
      all_goals
        match nums, hn with
        | [a], _ => exact ⟨a, rfl⟩
    obtain ⟨g, rfl, hg, c0⟩ := hI 0 a rfl
    clear hI hn
    rcases hk with rfl | rfl
    all_goals
      go_enter Tryd.func26, Tryd.ntmps26
      go_wp2_with fail
    · refine bodyPost_ret (v := aggI (insN 3 [a])) (by simp [results, Tryd.f26, go_sem, insN]) rfl ⟨rfl, ?_⟩
      exact ((Below.refl _ _).alloc (Nat.le_refl _) _).alloc (by simp) _
    · refine bodyPost_ret (v := aggI (insN 4 [a])) (by simp [results, Tryd.f26, go_sem, insN]) rfl ⟨rfl, ?_⟩
      exact ((Below.refl _ _).alloc (Nat.le_refl _) _).alloc (by simp) _
  · obtain ⟨a, rfl⟩ : ∃ a, nums = [a] := by
      match nums, hn with
      | [a], _ => exact ⟨a, rfl⟩
    obtain ⟨g, rfl, hg, c0⟩ := hI 0 a rfl
    clear hI hn
    go_enter Tryd.func26, Tryd.ntmps26
    go_wp2_with fail
    refine bodyPost_ret (v := aggI (insN 5 [a])) (by simp [results, Tryd.f26, go_sem, insN]) rfl ⟨rfl, ?_⟩
    exact ((Below.refl _ _).alloc (Nat.le_refl _) _).alloc (by simp) _
  · clear hI hn
    rcases hk with rfl | rfl
    all_goals
      go_enter Tryd.func26, Tryd.ntmps26
      go_wp2_with fail
    · refine bodyPost_ret (v := aggI (insN 6 nums)) (by simp [results, Tryd.f26, go_sem, insN]) rfl ⟨rfl, ?_⟩
      exact ((Below.refl _ _).alloc (Nat.le_refl _) _).alloc (by simp) _
    · refine bodyPost_ret (v := aggI (insN 7 nums)) (by simp [results, Tryd.f26, go_sem, insN]) rfl ⟨rfl, ?_⟩
      exact ((Below.refl _ _).alloc (Nat.le_refl _) _).alloc (by simp) _

/-- Steps of the reader on lists, as the document's Parse takes them. -/
theorem take_op_none {p : List Ins} {ends : List Int} {a : Int} {w : List UInt8} (h : kindN w = none) : (takeN ⟨p, ends, [.op]⟩ a w).1 = 10 := by
  simp [takeN, tkN, h]
theorem take_op_many {p : List Ins} {ends : List Int} {a : Int} {w : List UInt8} {k : Nat} (h : kindN w = some k) (h64 : p.length = 64) : (takeN ⟨p, ends, [.op]⟩ a w).1 = 15 := by
  simp [takeN, tkN, h, h64]
theorem take_op_ok {p : List Ins} {ends : List Int} {a : Int} {w : List UInt8} {k : Nat} (h : kindN w = some k) (h64 : p.length ≠ 64) : takeN ⟨p, ends, [.op]⟩ a w = (0, ⟨p ++ [⟨k, 0, 0, 0⟩], ends ++ [a], takersN k⟩) := by
  simp [takeN, tkN, h, h64]
theorem insN_nil {k : Nat} (h1 : 1 ≤ k) (h7 : k ≤ 7) : insN k [] = ⟨k, 0, 0, 0⟩ := by
  have hk : k = 1 ∨ k = 2 ∨ k = 3 ∨ k = 4 ∨ k = 5 ∨ k = 6 ∨ k = 7 := by omega
  rcases hk with rfl | rfl | rfl | rfl | rfl | rfl | rfl <;> rfl
def badNum (k : Nat) (l : List Int) (w : List UInt8) : Prop := rnumN w = none ∨ ∃ v, rnumN w = some v ∧ k = 1 ∧ l.length = 1 ∧ v < l.getD 0 0
theorem take_num {p : List Ins} {ends : List Int} {a a0 : Int} {w : List UInt8} {k : Nat} {l : List Int} (h1 : 1 ≤ k) (h7 : k ≤ 7) (hl : l.length < (takersN k).length) (h0 : 0 ≤ l.getD 0 0) :
    (badNum k l w → (takeN ⟨p ++ [insN k l], ends ++ [a0], (takersN k).drop l.length⟩ a w).1 = 10) ∧
    (∀ v, ¬ badNum k l w → rnumN w = some v → takeN ⟨p ++ [insN k l], ends ++ [a0], (takersN k).drop l.length⟩ a w = (0, ⟨p ++ [insN k (l ++ [v])], ends ++ [a], (takersN k).drop (l.length + 1)⟩)) := by
  have z := numV_least w 0 (Int.le_refl _)
  have hrr : ∀ v, rnumN w = some v → 0 ≤ v := fun v hv => (rnum_back hv).2.1
  have hk : k = 1 ∨ k = 2 ∨ k = 3 ∨ k = 4 ∨ k = 5 ∨ k = 6 ∨ k = 7 := by omega
  rcases hk with rfl | rfl | rfl | rfl | rfl | rfl | rfl
  case inl =>
    match l, hl with
    | [], _ =>
      constructor
      · rintro (h | ⟨v, h, _, h2, _⟩)
        · rw [h] at z
          simp [takersN, useX, useY, useZ, takeN, tkN, z]
        · simp at h2
      · intro v _ hv
        have := hrr v hv
        rw [hv] at z
        simp only [if_neg (show ¬ v < 0 by omega)] at z
        simp [takersN, useX, useY, useZ, takeN, tkN, z, insN, updL_snoc]
    | [b], _ =>
      have y := numV_least w b (by simpa using h0)
      constructor
      · rintro (h | ⟨v, h, _, h2, h3⟩)
        · rw [h] at y
          simp [takersN, useX, useY, useZ, takeN, tkN, insN, lastX_snoc, y]
        · rw [h] at y
          simp only [show v < b by simpa using h3, if_true] at y
          simp [takersN, useX, useY, useZ, takeN, tkN, insN, lastX_snoc, y]
      · intro v hb hv
        rw [hv] at y
        have hvb : ¬ v < b := fun h => hb (.inr ⟨v, hv, rfl, rfl, by simpa using h⟩)
        simp only [if_neg hvb] at y
        simp [takersN, useX, useY, useZ, takeN, tkN, insN, lastX_snoc, updL_snoc, y]
    | [b, c], _ =>
      constructor
      · rintro (h | ⟨v, h, _, h2, _⟩)
        · rw [h] at z
          simp [takersN, useX, useY, useZ, takeN, tkN, z]
        · simp at h2
      · intro v _ hv
        have := hrr v hv
        rw [hv] at z
        simp only [if_neg (show ¬ v < 0 by omega)] at z
        simp [takersN, useX, useY, useZ, takeN, tkN, z, insN, updL_snoc]
    | _ :: _ :: _ :: _, hl => simp [takersN, useX, useY, useZ] at hl; omega
  case inr.inl =>
    match l, hl with
    | [], _ =>
      constructor
      · rintro (h | ⟨v, h, h2, _⟩)
        · rw [h] at z
          simp [takersN, useX, useY, useZ, takeN, tkN, z]
        · simp at h2
      · intro v _ hv
        have := hrr v hv
        rw [hv] at z
        simp only [if_neg (show ¬ v < 0 by omega)] at z
        simp [takersN, useX, useY, useZ, takeN, tkN, z, insN, updL_snoc]
    | [b], _ =>
      constructor
      · rintro (h | ⟨v, h, h2, _⟩)
        · rw [h] at z
          simp [takersN, useX, useY, useZ, takeN, tkN, z]
        · simp at h2
      · intro v _ hv
        have := hrr v hv
        rw [hv] at z
        simp only [if_neg (show ¬ v < 0 by omega)] at z
        simp [takersN, useX, useY, useZ, takeN, tkN, z, insN, updL_snoc]
    | _ :: _ :: _, hl => simp [takersN, useX, useY, useZ] at hl; try omega
  all_goals
    match l, hl with
    | [], _ =>
      constructor
      · rintro (h | ⟨v, h, h2, _⟩)
        · rw [h] at z
          first | (simp [takersN, useX, useY, useZ, takeN, tkN, z]; done) | (simp [takersN, useX, useY, useZ] at hl; done)
        · simp at h2
      · intro v _ hv
        have := hrr v hv
        rw [hv] at z
        simp only [if_neg (show ¬ v < 0 by omega)] at z
        first | (simp [takersN, useX, useY, useZ, takeN, tkN, z, insN, updL_snoc]; done) | (simp [takersN, useX, useY, useZ] at hl; done)
    | _ :: _, hl => simp [takersN, useX, useY, useZ] at hl
theorem take_semi {p : List Ins} {ends : List Int} {a : Int} {w : List UInt8} : (w = [59] → takeN ⟨p, ends, []⟩ a w = (0, ⟨p, ends, [.op]⟩)) ∧ (w ≠ [59] → (takeN ⟨p, ends, []⟩ a w).1 = 10) := by
  constructor
  · rintro rfl; simp [takeN]
  · intro h; simp [takeN, h]
end Go.Proofs.YtggehnnbgeffpaaDoor
