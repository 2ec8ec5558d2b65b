/- The iterator over a text's words. -/
import Derived.Test.YtggehnnbgeffpaaDoorWritten
import Derived.RangeFuncNested
import Derived.RangeFuncBound
import Derived.RangeFuncCalls
import Derived.RangeFuncLeaves
import Derived.Shelf.Abstract
import Derived.Shelf.RegionOpen
import Derived.WalkKit
import Derived.OwnWalkIn
import Derived.TacticsInMore
import Derived.LoopNIn
import Derived.LoopIn
import Derived.Scope
import Derived.Laws.Externs
namespace Go.Proofs.YtggehnnbgeffpaaDoor
open Go.Shelf Go.RowKit Go.Lib Go.Proofs
attribute [local go_sem] Oper.semAt_some

def wlenN (l : List UInt8) : Nat := if Lib.indexAny l [32, 59] < 0 then l.length else max (Lib.indexAny l [32, 59]).toNat 1
def wordsF : Nat → List UInt8 → Nat → List (Nat × List UInt8)
  | 0, _, _ => []
  | f + 1, l, k => match l with
    | [] => []
    | c :: _ => if c = 32 then wordsF f (l.drop (wlenN l)) (k + wlenN l) else (k, l.take (wlenN l)) :: wordsF f (l.drop (wlenN l)) (k + wlenN l)
def wordsN (s : List UInt8) : List (Nat × List UInt8) := wordsF s.length s 0
theorem wordsF_nil (f k : Nat) : wordsF f [] k = [] := by cases f <;> rfl

/-- The library finds a blank or a semicolon in each end of the text. -/
def IxOk (s : ByteArray) : Prop := ∀ (k : Nat) (W : World), k < s.size →
  Calls Tryd.prog 51 #[.string (s.extract k s.size), .string ⟨#[32, 59]⟩] W fun e w' => e = .returned (.int .i64 (Lib.indexAny (s.data.toList.drop k) [32, 59])) ∧ Below W.heap.size W w'
theorem ex_tail' (s : ByteArray) (k : Nat) : (s.extract k s.size).data.toList = s.data.toList.drop k := by
  rw [ByteArray.data_extract]
  simp
  rw [List.take_of_length_le (by simp)]
theorem ixOk_ascii (s : ByteArray) (hs : s.size < 4294967281) (h : ∀ b ∈ s.data.toList, b.toNat < 128) : IxOk s := fun k W _ => by
  have := indexAny_ascii (s.extract k s.size) W (by rw [ByteArray.size_extract]; omega) (fun j b hb => by
    rw [ex_tail'] at hb
    exact h b (List.mem_of_mem_drop (List.mem_of_getElem? hb)))
  rw [ex_tail'] at this
  exact this

theorem indexAny_lt (chars : List UInt8) : ∀ l : List UInt8, Lib.indexAny l chars < l.length ∨ l = [] ∧ Lib.indexAny l chars = -1
  | [] => .inr ⟨rfl, rfl⟩
  | b :: l => by
    refine .inl ?_
    have := indexAny_lt chars l
    have h0 := Lib.indexAny_ge chars l
    simp only [Lib.indexAny, List.length_cons]
    split
    · omega
    · split
      · omega
      · rcases this with h | ⟨rfl, h⟩
        · omega
        · simp [h] at *
theorem wlen_pos {l : List UInt8} (h : l ≠ []) : 1 ≤ wlenN l ∧ wlenN l ≤ l.length := by
  have hp := List.length_pos_iff.2 h
  have := indexAny_lt [32, 59] l
  unfold wlenN
  split
  · omega
  · rcases this with h1 | ⟨h1, _⟩
    · omega
    · exact absurd h1 h

set_option maxHeartbeats 1000000 in
theorem wordLen_any (t : ByteArray) (l : List UInt8) (W : World) (hl : l.length = t.size) (_hl2 : l.length ≤ 9223372036854775807) (hix : Calls Tryd.prog 51 #[.string t, .string ⟨#[32, 59]⟩] W fun e w' => e = .returned (.int .i64 (Lib.indexAny l [32, 59])) ∧ Below W.heap.size W w') :
    Calls Tryd.prog 38 #[.string t] W fun e w' => e = .returned (.int .i64 (wlenN l)) ∧ Below W.heap.size W w' := by
  have hge := Lib.indexAny_ge [32, 59] l
  have hlt := indexAny_lt [32, 59] l
  have HW : Hid (wlenN l = if Lib.indexAny l [32, 59] < 0 then l.length else max (Lib.indexAny l [32, 59]).toNat 1) := rfl
  generalize Lib.indexAny l [32, 59] = n at *
  go_enter Tryd.func38, Tryd.ntmps38
  go_wp2_with (go_at_call 51; refine hix.mono ?_; rintro e w1 ⟨rfl, hb⟩)
  all_goals
    go_ret
    refine ⟨ret_int ?_, hb⟩
    rw [HW.out]
    simp_all
    try (rw [if_neg (by omega)]; omega)

abbrev encW (x : Nat × List UInt8) : Array Value := #[.int .i64 x.1, .string (⟨x.2.toArray⟩ : ByteArray)]
/-- The box of the text lies as it lay. -/
def KpS (Bs : Nat) (A B : World) : Prop := ∀ v, A.cell? ⟨Bs, 0, none⟩ = some v → B.cell? ⟨Bs, 0, none⟩ = some v
theorem kpS_t {Bs : Nat} {A B C : World} (h : KpS Bs A B) (k : KpS Bs B C) : KpS Bs A C := fun v hv => k v (h v hv)
theorem kpS_b {Bs : Nat} (W : World) (l : Nat) (o o' : Obj) (h : W.heap[l]? = some o) (hc : o.isCells = false) : KpS Bs W (W.putObj l o') := fun _ hv =>
  cell_kept hv (grownBy_putObj' W l o') (fun r e => by cases e; exact ⟨o, h, hc⟩)

theorem words_step {s : ByteArray} {k f : Nat} (hk : k < s.size) : ∃ n, wlenN (s.data.toList.drop k) = n ∧ 1 ≤ n ∧ k + n ≤ s.size ∧
    wordsF (f + 1) (s.data.toList.drop k) k = if s[k]'hk = 32 then wordsF f (s.data.toList.drop (k + n)) (k + n) else (k, (s.extract k (k + n)).data.toList) :: wordsF f (s.data.toList.drop (k + n)) (k + n) := by
  have hk' : k < s.data.toList.length := by simpa using hk
  have hne : s.data.toList.drop k ≠ [] := by
    intro h
    have := congrArg List.length h
    simp at this
    omega
  obtain ⟨h1, h2⟩ := wlen_pos hne
  simp at h2
  refine ⟨_, rfl, h1, by omega, ?_⟩
  have hd := List.drop_eq_getElem_cons hk'
  generalize hn : wlenN (s.data.toList.drop k) = n at *
  have e : wordsF (f + 1) (s.data.toList.drop k) k = if s.data.toList[k] = 32 then wordsF f ((s.data.toList.drop k).drop n) (k + n) else (k, (s.data.toList.drop k).take n) :: wordsF f ((s.data.toList.drop k).drop n) (k + n) := by
    rw [← hn]
    conv => lhs; rw [hd]
    simp only [wordsF]
    rw [← hd]
  rw [e, List.drop_drop]
  have e2 : s.data.toList[k] = s[k]'hk := rfl
  have e3 : (s.extract k (k + n)).data.toList = (s.data.toList.drop k).take n := by
    rw [ByteArray.data_extract]
    simp [List.extract_eq_take_drop]
  rw [e2, e3]

set_option maxRecDepth 100000 in
set_option maxHeartbeats 2000000 in
theorem words1_in (n : Nat) (hn : 1 ≤ n) (l Bs : Nat) (s : ByteArray) (hs : s.size ≤ 9223372036854775806) (hix : IxOk s) (J Jx : List (Nat × List UInt8) → World → Prop)
    (hJ : ∀ pre W W', J pre W → Below W.heap.size W W' → J pre W')
    (hY : ∀ pre x W, J pre W → pre.length < s.size + 1 → x.2.length ≤ s.size → YieldAt Fence.wide (n - 1) Tryd.prog l (encW x) W fun e W' =>
      (e = .returned (.bool true) ∧ J (pre ++ [x]) W' ∧ KpS Bs W W') ∨ (e = .returned (.bool false) ∧ Jx (pre ++ [x]) W'))
    (W : World) (hBs : W.cell? ⟨Bs, 0, none⟩ = some (.string s)) (h0 : J [] W) :
    CallsIn Fence.wide n Tryd.prog 37 #[.func (.yield l) #[] #[], .pointer (some ⟨Bs, 0, none⟩)] W fun e W' => (∃ v, e = .returned v) ∧
      ((∃ ys, ys = wordsN s.data.toList ∧ J ys W') ∨ (∃ pre, pre <+: wordsN s.data.toList ∧ Jx pre W')) := by
  refine callsIn_of_wp Tryd.func37 rfl trivial ?_ rfl
  simp only [Tryd.ntmps37, List.size_toArray, List.length_cons, List.length_nil, Nat.reduceAdd, Nat.reduceSub, Array.replicate_succ, Array.replicate_zero, List.push_toArray, List.append_toArray, List.nil_append, List.cons_append]
  gi_wp2
  gi_loopw [3] (fun c wr => ∃ (pre : List (Nat × List UInt8)) (k f : Nat), c = .int .i64 k ∧ k ≤ s.size ∧ pre.length ≤ k ∧ s.size - k ≤ f ∧ wordsN s.data.toList = pre ++ wordsF f (s.data.toList.drop k) k ∧ wr.cell? ⟨Bs, 0, none⟩ = some (.string s) ∧ J pre wr)
    (fun c _ => s.size - (intOf c).toNat)
  case atStart =>
    exact ⟨[], 0, s.size, rfl, Nat.zero_le _, Nat.le_refl _, by omega, by simp [wordsN], hBs, h0⟩
  case round =>
    obtain ⟨pre, k, f, rfl, hk, hpl, hf, hx, hc, hJp⟩ := hrel
    by_cases hlt : k < s.size
    · obtain ⟨f, rfl⟩ : ∃ f', f = f' + 1 := ⟨f - 1, by omega⟩
      obtain ⟨m, hm, hm1, hm2, hst⟩ := words_step (s := s) (k := k) (f := f) hlt
      have hz : (s.extract k s.size).size = s.size - k := by rw [ByteArray.size_extract]; omega
      have hwl := wordLen_any (s.extract k s.size) (s.data.toList.drop k) wr (by rw [hz]; simp) (by simp; omega) (hix k wr hlt)
      rw [hm] at hwl
      rw [hst] at hx
      have k1 : (k : Int) < s.size := by omega
      have HX : Hid (wordsN s.data.toList = pre ++ if s[k]'hlt = 32 then wordsF f (s.data.toList.drop (k + m)) (k + m) else (k, (s.extract k (k + m)).data.toList) :: wordsF f (s.data.toList.drop (k + m)) (k + m)) := hx
      clear hx hst hm hz
      gi_wp2_with fail
      refine ⟨trivial, ?_⟩
      refine (callsIn_wide.2 hwl).mono ?_
      rintro e w1 ⟨rfl, hb1⟩
      have hJ1 := hJ _ _ _ hJp hb1
      have hc1 : w1.cell? ⟨Bs, 0, none⟩ = some (.string s) := (hb1.cell (World.block_lt_of_cell? wr _ hc)).trans hc
      clear hJp hc hwl
      by_cases hsp : s[k]'hlt = 32
      · have HX2 : Hid (wordsN s.data.toList = pre ++ wordsF f (s.data.toList.drop (k + m)) (k + m)) := by
          show _ = _
          rw [HX.out, if_pos hsp]
        have hsp2 : ((s[k]'hlt).toNat : Int) = 32 := by rw [hsp]; rfl
        clear HX hsp
        gi_wp2
        refine ⟨fun _ h => (by cases h), ?_⟩
        gi_wp2
        go_roundw
        case rel => exact ⟨pre, k + m, f, by go_num, by omega, by omega, by omega, HX2.out, hc1, hJ1⟩
        case measure => simp [intOf]; omega
      · have HX2 : Hid (wordsN s.data.toList = (pre ++ [(k, (s.extract k (k + m)).data.toList)]) ++ wordsF f (s.data.toList.drop (k + m)) (k + m)) := by
          show _ = _
          rw [HX.out, if_neg hsp]
          simp
        have hsp2 : ¬ ((s[k]'hlt).toNat : Int) = 32 := fun h => hsp (by
          apply UInt8.toNat_inj.1
          have : (s[k]'hlt).toNat = 32 := by omega
          rw [this]; rfl)
        clear HX hsp
        have hxl : (s.extract k (k + m)).data.toList.length ≤ s.size := by
          have : (s.extract k (k + m)).data.toList.length = (s.extract k (k + m)).size := rfl
          rw [this, ByteArray.size_extract]
          omega
        obtain ⟨fn, tmps, assign, body, hy, hR⟩ := hY pre (k, (s.extract k (k + m)).data.toList) w1 hJ1 (by omega) hxl
        dsimp only [encW] at hy
        gi_wp2
        refine hR.mono ?_
        rintro e W3 (⟨rfl, hJ3, hk3⟩ | ⟨rfl, hJx3⟩)
        · have hc3 := hk3 _ hc1
          gi_wp2
          go_roundw
          case rel => exact ⟨_, k + m, f, by go_num, by omega, by simp; omega, by omega, HX2.out, hc3, hJ3⟩
          case measure => simp [intOf]; omega
        · gi_wp2
          refine bodyPost_ret (results_none rfl _ _ _) rfl ?_
          exact ⟨⟨_, rfl⟩, .inr ⟨_, by rw [HX2.out]; exact List.prefix_append _ _, hJx3⟩⟩
    · have hkk : k = s.size := by omega
      have HX : Hid (wordsN s.data.toList = pre) := by
        show _ = _
        rw [hx, List.drop_of_length_le (by simp; omega), wordsF_nil]
        simp
      have k1 : ¬ (k : Int) < s.size := by omega
      clear hx
      gi_wp2
      refine bodyPost_end (results_none rfl _ _ _) rfl ?_
      exact ⟨⟨_, rfl⟩, .inl (by rw [HX.out]; exact hJp)⟩
end Go.Proofs.YtggehnnbgeffpaaDoor
