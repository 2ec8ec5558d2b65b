/- IndexAny of a blank and a semicolon at a short text of whatever bytes. -/
import Derived.Test.YtggehnnbgeffpaaDoorWords
import Derived.Laws.RangeAny
import Derived.Laws.Runes
import Derived.Deep.LoopGhost
import Derived.RangeFuncRecord
import Derived.WalkMore
namespace Go.Proofs.YtggehnnbgeffpaaDoor
open Go.Shelf Go.RowKit Go.Lib Go.Proofs

theorem run_next_at {P : Program} (W : World) (b : Nat) (s : ByteArray) (pos : Nat) (ty : TypeId) (hb : W.heap[b]? = some (.stringIter s pos)) (h : pos < s.size) :
    (Instr.next (.pointer (some ⟨b, 0, none⟩)) true ty).run P W = .ok (.tuple #[.bool true, .int .i64 pos, .int .i32 (Utf8.decode s pos).1]) (W.putObj b (.stringIter s (pos + (Utf8.decode s pos).2))) := by
  simp only [Instr.next, getObj, setObj, Sem.run_bind, Sem.run, hb, Result.andThen, h, if_true]
  simp [goInt]
  rfl
theorem run_next_out {P : Program} (W : World) (b : Nat) (s : ByteArray) (pos : Nat) (ty : TypeId) (hb : W.heap[b]? = some (.stringIter s pos)) (h : ¬ pos < s.size) :
    (Instr.next (.pointer (some ⟨b, 0, none⟩)) true ty).run P W = .ok (.tuple #[.bool false]) W := by
  simp [Instr.next, getObj, Sem.run, hb, h]
theorem below_put {n : Nat} {w W : World} (h : Below n w W) (b : Nat) (o : Obj) (hb : n ≤ b) : Below n w (W.putObj b o) :=
  ⟨h.os, h.tape, h.output, by simpa [World.putObj] using h.size, fun k hk => (World.putObj_heap_other (by omega)).trans (h.block k hk)⟩
/-- What a sign beyond ASCII takes: bytes beyond ASCII alone. -/
theorem decode_span (s : ByteArray) (pos : Nat) (h : pos < s.size) (ha : 128 ≤ (s[pos]'h).toNat) : 1 ≤ (Utf8.decode s pos).2 ∧ pos + (Utf8.decode s pos).2 ≤ s.size ∧ ∀ k, k < (Utf8.decode s pos).2 → 128 ≤ (s.get! (pos + k)).toNat := by
  have hn : ¬ (s[pos]'h).toNat < 128 := by omega
  have h0 : 128 ≤ (s.get! (pos + 0)).toNat := by rw [get_at s pos h]; exact ha
  have one : ∀ k, k < 1 → 128 ≤ (s.get! (pos + k)).toNat := fun k hk => by
    obtain rfl : k = 0 := by omega
    exact h0
  simp only [Utf8.decode, get_at s pos h, hn, if_false]
  split
  · rename_i hc
    simp only [Bool.and_eq_true, decide_eq_true_eq, beq_iff_eq] at hc
    split
    · refine ⟨by simp, by simp; omega, fun k hk => ?_⟩
      simp at hk
      have : k = 0 ∨ k = 1 := by omega
      rcases this with rfl | rfl
      · exact h0
      · omega
    · exact ⟨by simp, by simp; omega, fun k hk => one k (by simpa using hk)⟩
  · split
    · rename_i hc
      simp only [Bool.and_eq_true, decide_eq_true_eq, beq_iff_eq] at hc
      split
      · refine ⟨by simp, by simp; omega, fun k hk => ?_⟩
        simp at hk
        have : k = 0 ∨ k = 1 ∨ k = 2 := by omega
        rcases this with rfl | rfl | rfl
        · exact h0
        · omega
        · omega
      · exact ⟨by simp, by simp; omega, fun k hk => one k (by simpa using hk)⟩
    · split
      · rename_i hc
        simp only [Bool.and_eq_true, decide_eq_true_eq, beq_iff_eq] at hc
        split
        · refine ⟨by simp, by simp; omega, fun k hk => ?_⟩
          simp at hk
          have : k = 0 ∨ k = 1 ∨ k = 2 ∨ k = 3 := by omega
          rcases this with rfl | rfl | rfl | rfl
          · exact h0
          · omega
          · omega
          · omega
        · exact ⟨by simp, by simp; omega, fun k hk => one k (by simpa using hk)⟩
      · exact ⟨by simp, by simp; omega, fun k hk => one k (by simpa using hk)⟩
theorem encode_high (r : Int) (h : 128 ≤ r) : (2 < (Utf8.encode r).size ∧ (Utf8.encode r).size ≤ 4) ∨ ((Utf8.encode r).size = 2 ∧ ∃ a b : UInt8, Utf8.encode r = ⟨#[a, b]⟩ ∧ 128 ≤ b.toNat) := by
  unfold Utf8.encode
  generalize hc : (if Utf8.valid r = true then r.toNat else Utf8.runeError) = c
  have h128 : 128 ≤ c := by
    rw [← hc]
    split
    · omega
    · simp [Utf8.runeError]
  simp only
  rw [if_neg (by omega)]
  split
  · refine .inr ⟨rfl, _, _, rfl, ?_⟩
    rw [UInt8.toNat_ofNat']
    omega
  · split
    · exact .inl ⟨(by show 2 < 3; omega), (by show 3 ≤ 4; omega)⟩
    · exact .inl ⟨(by show 2 < 4; omega), (by show 4 ≤ 4; omega)⟩

def SomeB (e : Ending) : Prop := ∃ b : Bool, e = .returned (.bool b)
theorem validRune_any (r : Int) (w : World) : Calls Tryd.prog 73 #[.int .i32 r] w fun e w' => SomeB e ∧ w' = w := by
  go_enter Tryd.func73, Tryd.ntmps73
  go_wp2
  all_goals
    go_ret
    exact ⟨⟨_, rfl⟩, rfl⟩
def sep2 : ByteArray := ⟨#[32, 59]⟩
theorem byteIn_none (c : Int) (w : World) (s : ByteArray) (hs : s.size = 0) : Calls Tryd.prog 72 #[.string s, .int .u8 c] w fun e w' => e = .returned (.int .i64 (-1)) ∧ w' = w := by
  have h := Any.strings_IndexByte { Tryd.indexAny with } s c w
  change Calls Tryd.prog 72 _ _ _ at h
  refine h.mono ?_
  rintro e w' ⟨rfl, rfl⟩
  have hn : s.data.toList = [] := List.length_eq_zero_iff.1 (by rw [← Lib.size_eq]; exact hs)
  rw [hn]
  exact ⟨rfl, rfl⟩
set_option maxRecDepth 1000000 in
set_option maxHeartbeats 8000000 in
theorem indexRune_high (r : Int) (h : 128 ≤ r) (hr : r ≤ 2147483647) (w : World) : Calls Tryd.prog 64 #[.string ⟨#[32, 59]⟩, .int .i32 r] w fun e w' => e = .returned (.int .i64 (-1)) ∧ Below w.heap.size w w' := by
  have k1 : ¬ r < 128 := by omega
  have k0 : 0 ≤ r := by omega
  by_cases he : r = 65533
  · subst he
    go_enter Tryd.func64, Tryd.ntmps64
    go_wp2_with fail
    go_loopw [5, 6] (fun _ _ wx => ∃ i : Nat, i ≤ 2 ∧ wx = w.iter ⟨#[32, 59]⟩ i) (fun _ _ wx => 2 - wx.iterPos w.heap.size)
    case atStart => exact ⟨0, by omega, rfl⟩
    case round =>
      obtain ⟨i, hi, rfl⟩ := hrel
      have hc : i = 0 ∨ i = 1 ∨ i = 2 := by omega
      rcases hc with rfl | rfl | rfl
      · have hnx := fun ty => run_next_ascii (P := Tryd.prog) w ⟨#[32, 59]⟩ 0 ty (by decide) (by decide)
        go_wp2_with fail
        exact ⟨⟨1, by omega, rfl⟩, by simp⟩
      · have hnx := fun ty => run_next_ascii (P := Tryd.prog) w ⟨#[32, 59]⟩ 1 ty (by decide) (by decide)
        go_wp2_with fail
        exact ⟨⟨2, by omega, rfl⟩, by simp⟩
      · have hnx := fun ty => run_next_end (P := Tryd.prog) w ⟨#[32, 59]⟩ 2 ty (by decide)
        go_wp2_with fail
        go_ret
        exact ⟨rfl, (Below.refl _ _).alloc (Nat.le_refl _) _⟩
  · have k2 : (r == 65533) = false := beq_eq_false_iff_ne.2 he
    have hen := encode_high r h
    have hvr := validRune_any r w
    go_enter Tryd.func64, Tryd.ntmps64
    go_wp2_with fail
    refine hvr.mono ?_
    rintro e w' ⟨⟨b, rfl⟩, rfl⟩
    cases b with
    | false =>
      go_wp2_with fail
      go_ret
      exact ⟨rfl, Below.refl _ _⟩
    | true =>
      clear hvr
      rcases hen with ⟨h2, h5⟩ | ⟨h2, a, b, h3, h4⟩
      · go_wp2_with fail
        go_step3
        go_wp2_with fail
        generalize Utf8.encode r = rs at *
        have q1 : ¬ ((rs.size : Int) - 1 < 2) := by omega
        go_loopw [9, 10] (fun v9 _ wx => v9 = .int .i64 ((rs.size : Int) - 1) ∧ wx = w') (fun _ _ _ => 0)
        case atStart => exact ⟨rfl, rfl⟩
        case round =>
          obtain ⟨rfl, rfl⟩ := hrel
          go_wp2_with fail
          go_ret
          exact ⟨rfl, Below.refl _ _⟩
      · have hb := b.toNat_lt
        have q2 : ((59 : Int) == (b.toNat : Int)) = false := beq_eq_false_iff_ne.2 (by omega)
        have q3 : ((59 : Int) != (b.toNat : Int)) = true := by rw [bne, q2]; rfl
        have hib := fun (c : Int) (W : World) => byteIn_none c W ((⟨#[32, 59]⟩ : ByteArray).extract 2 2) rfl
        have q4 : ((((⟨#[32, 59]⟩ : ByteArray)[1]'(by decide)).toNat : Int) != (((⟨#[a, b]⟩ : ByteArray)[1]'(by show 1 < 2; decide)).toNat : Int)) = true := q3
        go_wp2_with fail
        go_step3
        go_wp2_with fail
        generalize Utf8.encode r = rs at *
        subst h3
        go_loopw [9, 10] (fun v9 _ wx => v9 = .int .i64 1 ∧ wx = w') (fun _ _ _ => 0)
        case atStart => exact ⟨rfl, rfl⟩
        case round =>
          obtain ⟨rfl, rfl⟩ := hrel
          go_wp2_with fail
          go_step3
          go_wp2_with fail
          go_quiet (fail)
          go_wp2_with fail
          go_region_with (go_at_call 72; refine (hib _ _).mono ?_; rintro e w5 ⟨rfl, rfl⟩)
          all_goals
            go_wp2_with fail
          all_goals
            rw [Exit.noGoto_ret]
            go_wp2_with fail
            rw [Exit.noGoto_ret]
            go_wp2_with fail
            go_ret
            exact ⟨rfl, below_drewN (Below.refl _ _) _⟩
theorem noAny_jump {s : ByteArray} {i n : Nat} (h : Lib.NoAny s.data.toList [32, 59] i) (hs : i + n ≤ s.size) (hn : ∀ k, k < n → 128 ≤ (s.get! (i + k)).toNat) : Lib.NoAny s.data.toList [32, 59] (i + n) := fun j b hj hb => by
  by_cases e : j < i
  · exact h j b e hb
  · have := hn (j - i) (by omega)
    rw [show i + (j - i) = j by omega] at this
    have hjs : j < s.size := by omega
    have e2 : s.get! j = b := by
      have h1 := Lib.data_getElem? s j hjs
      rw [h1] at hb
      have h3 := get_at s j hjs
      cases hb
      exact h3
    rw [e2] at this
    simp only [List.contains_cons, List.contains_nil, Bool.or_false, Bool.or_eq_false_iff, beq_eq_false_iff_ne, ne_eq]
    exact ⟨fun e => by rw [e] at this; simp at this, fun e => by rw [e] at this; simp at this⟩
theorem shouldUse_any (n : Int) (w : World) : Calls Tryd.prog 65 #[.int .i64 n] w fun e w' => e = .returned (.bool (decide (8 < n))) ∧ w' = w := by
  have h := Any.strings_shouldUseASCIISet { Tryd.indexAny with } n w
  change Calls Tryd.prog 65 _ _ _ at h
  exact h
theorem indexRune_low (r : Int) (w : World) (h0 : 0 ≤ r) (h1 : r < 128) : Calls Tryd.prog 64 #[.string ⟨#[32, 59]⟩, .int .i32 r] w fun e w' => e = .returned (.int .i64 (Lib.indexByte [32, 59] r.toNat.toUInt8)) ∧ w' = w := by
  have h := Any.strings_IndexRune_ascii { Tryd.indexAny with } ⟨#[32, 59]⟩ r w h0 h1
  change Calls Tryd.prog 64 _ _ _ at h
  exact h
set_option maxRecDepth 1000000 in
set_option maxHeartbeats 8000000 in
theorem indexAny_short (s : ByteArray) (w : World) (h8 : s.size ≤ 8) :
    Calls Tryd.prog 51 #[.string s, .string ⟨#[32, 59]⟩] w fun e w' => e = .returned (.int .i64 (Lib.indexAny s.data.toList [32, 59])) ∧ Below w.heap.size w w' := by
  have hsu := shouldUse_any s.size w
  rw [decide_eq_false (show ¬ (8 : Int) < s.size by omega)] at hsu
  go_enter Tryd.func51, Tryd.ntmps51
  go_wp2_with (go_at_call 65; refine hsu.mono ?_; rintro e w1 ⟨rfl, hw⟩; rw [hw])
  clear hsu
  go_loopg [9, 10] s.size (fun g _ _ wx => ∃ i : Nat, i + g = s.size ∧ wx.heap[w.heap.size]? = some (.stringIter s i) ∧ Below w.heap.size w wx ∧ Hid (Lib.NoAny s.data.toList [32, 59] i))
  case atStart => exact ⟨0, by omega, World.iter_heap _ _ _, (Below.refl _ _).alloc (Nat.le_refl _) _, Lib.NoAny.zero _ _⟩
  case round =>
    obtain ⟨i, hig, hit, hB, HN⟩ := hrel
    have hlt0 : w.heap.size < wr.heap.size := (Array.getElem?_eq_some_iff.1 hit).1
    cases gk with
    | zero =>
      obtain rfl : i = s.size := by omega
      have hnx := fun ty => run_next_out (P := Tryd.prog) wr w.heap.size s s.size ty hit (by omega)
      have HE : Hid (Lib.indexAny s.data.toList [32, 59] = -1) := Lib.indexAny_none (by rw [← Lib.size_eq]; exact HN.out)
      clear HN
      go_wp2_with fail
      go_ret
      exact ⟨by rw [HE.out]; rfl, hB⟩
    | succ g =>
      have hi : i < s.size := by omega
      obtain ⟨x, hx⟩ : ∃ x : UInt8, s[i]'hi = x := ⟨_, rfl⟩
      have hxl : s.data.toList[i]? = some x := by rw [← hx]; exact Lib.data_getElem? s i hi
      have hnx := fun ty => run_next_at (P := Tryd.prog) wr w.heap.size s i ty hit hi
      have hB2 : ∀ o, Below w.heap.size w (wr.putObj w.heap.size o) := fun o => below_put hB _ _ (Nat.le_refl _)
      have hit2 : ∀ o, (wr.putObj w.heap.size o).heap[w.heap.size]? = some o := fun o => World.putObj_heap_same hlt0
      by_cases hx128 : x.toNat < 128
      · rw [decode_ascii s i hi (by rw [hx]; exact hx128), hx] at hnx
        have hcon := Lib.contains_iff_indexByte [32, 59] x
        have hback : ((x.toNat : Int)).toNat.toUInt8 = x := by simp
        have hcall := fun W => indexRune_low (x.toNat : Int) W (by omega) (by omega)
        rw [hback] at hcall
        simp only at hnx
        generalize Lib.indexByte [32, 59] x = ib at *
        cases hin : List.contains [(32 : UInt8), 59] x
        · rw [hin] at hcon
          have hlt : ¬ ((0 : Int) ≤ ib) := of_decide_eq_false hcon.symm
          have HN2 : Hid (Lib.NoAny s.data.toList [32, 59] (i + 1)) := HN.out.succ hxl hin
          have hB3 := hB2 (.stringIter s (i + 1))
          have hit3 := hit2 (.stringIter s (i + 1))
          clear hcon HN hB hit hB2 hit2 hxl hin hback hx
          go_wp2_with (go_at_call 64; refine (hcall _).mono ?_; rintro e w2 ⟨rfl, hw⟩; rw [hw])
          go_roundg g
          case measure => omega
          case rel => exact ⟨i + 1, by omega, hit3, hB3, HN2⟩
        · rw [hin] at hcon
          have hge : (0 : Int) ≤ ib := of_decide_eq_true hcon.symm
          have HE : Hid (Lib.indexAny s.data.toList [32, 59] = (i : Int)) := Lib.indexAny_hit HN.out hxl hin
          have hB3 := hB2 (.stringIter s (i + 1))
          clear hcon HN hB hit hB2 hit2 hxl hin hback hx
          go_wp2_with (go_at_call 64; refine (hcall _).mono ?_; rintro e w2 ⟨rfl, hw⟩; rw [hw])
          go_ret
          exact ⟨by rw [HE.out]; rfl, hB3⟩
      · have hsp := decode_span s i hi (by rw [hx]; omega)
        have hhi := decode_high s i hi (by rw [hx]; omega)
        have hle := decode_le s i
        have HN2 : Hid (Lib.NoAny s.data.toList [32, 59] (i + (Utf8.decode s i).2)) := noAny_jump HN.out hsp.2.1 hsp.2.2
        have hB3 := hB2 (.stringIter s (i + (Utf8.decode s i).2))
        have hit3 := hit2 (.stringIter s (i + (Utf8.decode s i).2))
        have hcall := fun W => indexRune_high ((Utf8.decode s i).1 : Int) (by have := hhi.1; omega) (by omega) W
        obtain ⟨sp1, sp2, -⟩ := hsp
        generalize (Utf8.decode s i).1 = rn at *
        generalize (Utf8.decode s i).2 = sz at *
        clear HN hB hit hB2 hit2 hxl hx hhi hle hx128
        go_wp2_with (go_at_call 64; refine (hcall _).mono ?_; rintro e w2 ⟨rfl, hb2⟩)
        have hlt3 : w.heap.size < (wr.putObj w.heap.size (.stringIter s (i + sz))).heap.size := (Array.getElem?_eq_some_iff.1 hit3).1
        go_roundg (s.size - (i + sz))
        case measure => omega
        case rel => exact ⟨i + sz, by omega, (hb2.block _ hlt3).trans hit3, hB3.trans (hb2.mono (by omega)), HN2⟩
theorem ixOk_all (s : ByteArray) (hs : s.size < 4294967281) : IxOk s := fun k W _ => by
  have e := ex_tail' s k
  by_cases h8 : (s.extract k s.size).size ≤ 8
  · have := indexAny_short (s.extract k s.size) W h8
    rw [e] at this
    exact this
  · have := indexAny_long (s.extract k s.size) W (by omega) (by rw [ByteArray.size_extract]; omega)
    rw [e] at this
    exact this
end Go.Proofs.YtggehnnbgeffpaaDoor
