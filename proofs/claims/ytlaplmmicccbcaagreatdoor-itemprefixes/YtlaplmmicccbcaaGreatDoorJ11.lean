/- Sets that are maps: isNew of the program. -/
import Derived.Test.YtlaplmmicccbcaaGreatDoorJ02
import Derived.Test.YtlaplmmicccbcaaGreatDoorJ06
import Derived.Test.YtlaplmmicccbcaaGreatDoorJ07
import Derived.Test.YtlaplmmicccbcaaGreatDoorJ09
import Derived.Maps.OwnSet
import Derived.Maps.Views
import Derived.DeepKeys4
import Derived.Carry
namespace Go.Proofs.YtlaplmmicccbcaaGreatDoor
open Go.RowKit Go.Maps

theorem laidOutM : laidOutB Tryz.prog = true := by kernel_rfl
theorem lawLr : Keyed Tryz.prog 30 := Keyed.of_law (deep_law_laid laidOutM (m := 2) (by omega) (of_decide_eq_true (by kernel_rfl)) (by kernel_rfl) (by kernel_rfl))
theorem lawCore : Keyed Tryz.prog 130 := Keyed.of_law (deep_law_laid laidOutM (m := 2) (by omega) (of_decide_eq_true (by kernel_rfl)) (by kernel_rfl) (by kernel_rfl))
theorem lawStart : Keyed Tryz.prog 110 := Keyed.of_law (deep_law_laid laidOutM (m := 2) (by omega) (of_decide_eq_true (by kernel_rfl)) (by kernel_rfl) (by kernel_rfl))
theorem lawStr : Keyed Tryz.prog 9 := string_keyed Tryz.underlying9
theorem wf64 {x : Int} (h : i64B x) : (Lit.int .i64 x).wf = true := WalkArith.wf_i64 (by unfold i64B at h; omega)
def val2 (x : Int × Int) : Value := .agg #[.int .i64 x.1, .int .i64 x.2]
def ok2 (x : Int × Int) : Prop := i64B x.1 ∧ i64B x.2
theorem sizeT : ∃ m, Tryz.prog.types.size = m + 1 := ⟨Tryz.prog.types.size - 1, by have : 0 < Tryz.prog.types.size := of_decide_eq_true (by kernel_rfl); omega⟩
theorem keyLr {x : Ir} (h : okR x) : ∃ kl, keyOf Tryz.prog 30 (valR x) = some kl := by
  obtain ⟨m, hm⟩ := sizeT
  have h0 := wf64 h.1
  have h1 := wf64 h.2.1
  have h2 := wf64 h.2.2
  have e1 : Tryz.prog.keyType 30 = true := by kernel_rfl
  have e2 : Tryz.prog.cellsOf 30 = 3 := by kernel_rfl
  have e3 : Tryz.prog.cellsOf 3 = 1 := by kernel_rfl
  unfold keyOf
  simp only [Tryz.underlying30]
  rw [if_pos (by simp [e1, Value.formed, Tryz.underlying30, e2, valR]), hm]
  unfold Program.keyLits
  simp [Tryz.underlying30, valR, Value.cells, e2, e3, Program.keyLits, Tryz.underlying3, h0, h1, h2]
theorem keyCore {x : Int × Int} (h : ok2 x) : ∃ kl, keyOf Tryz.prog 130 (val2 x) = some kl := by
  obtain ⟨m, hm⟩ := sizeT
  have h0 := wf64 h.1
  have h1 := wf64 h.2
  have e1 : Tryz.prog.keyType 130 = true := by kernel_rfl
  have e2 : Tryz.prog.cellsOf 130 = 2 := by kernel_rfl
  have e3 : Tryz.prog.cellsOf 3 = 1 := by kernel_rfl
  unfold keyOf
  simp only [Tryz.underlying130]
  rw [if_pos (by simp [e1, Value.formed, Tryz.underlying130, e2, val2]), hm]
  unfold Program.keyLits
  simp [Tryz.underlying130, val2, Value.cells, e2, e3, Program.keyLits, Tryz.underlying3, h0, h1]
theorem keyStart {x : Int × Int} (h : ok2 x) : ∃ kl, keyOf Tryz.prog 110 (val2 x) = some kl := by
  obtain ⟨m, hm⟩ := sizeT
  have h0 := wf64 h.1
  have h1 := wf64 h.2
  have e1 : Tryz.prog.keyType 110 = true := by kernel_rfl
  have e2 : Tryz.prog.cellsOf 110 = 2 := by kernel_rfl
  have e3 : Tryz.prog.cellsOf 3 = 1 := by kernel_rfl
  unfold keyOf
  simp only [Tryz.underlying110]
  rw [if_pos (by simp [e1, Value.formed, Tryz.underlying110, e2, val2]), hm]
  unfold Program.keyLits
  simp [Tryz.underlying110, val2, Value.cells, e2, e3, Program.keyLits, Tryz.underlying3, h0, h1]
theorem valR_inj {x y : Ir} (h : valR x = valR y) : x = y := by
  unfold valR at h
  simp at h
  exact ir_ext h.1 h.2.1 h.2.2
theorem val2_inj {x y : Int × Int} (h : val2 x = val2 y) : x = y := by
  unfold val2 at h
  simp at h
  exact Prod.ext h.1 h.2

/-- Block b is a map that has just the keys of L. -/
def MapSet {α : Type} (k : TypeId) (val : α → Value) (b : Nat) (L : List α) (W : World) : Prop :=
  ∃ D : DataW Unit, W.ownsMap Tryz.prog k unitElem b L.length D ∧ Maps.size D = L.length ∧ ∀ kl, Maps.has D kl = true ↔ ∃ x ∈ L, keyOf Tryz.prog k (val x) = some kl
theorem MapSet.made {α : Type} (k : TypeId) (val : α → Value) (W : World) : MapSet k val W.heap.size [] (W.alloc (.map #[] 0)) :=
  ⟨.map [], World.ownsMap_made W _ _ _, rfl, fun kl => by simp [Maps.has]⟩
theorem MapSet.lt {α : Type} {k : TypeId} {val : α → Value} {b : Nat} {L : List α} {W : World} (h : MapSet k val b L W) : b < W.heap.size := by
  obtain ⟨D, h, _⟩ := h; exact h.lt
theorem MapSet.kept {α : Type} {k : TypeId} {val : α → Value} {b : Nat} {L : List α} {W W' : World} (h : MapSet k val b L W) (hb : W'.heap[b]? = W.heap[b]?) : MapSet k val b L W' := by
  obtain ⟨D, ⟨es, clock, h1, h2⟩, h3⟩ := h
  exact ⟨D, ⟨es, clock, hb.trans h1, h2⟩, h3⟩
theorem MapSet.but {α : Type} {k : TypeId} {val : α → Value} {b : Nat} {L : List α} {W W' : World} {D : Nat → Prop} (h : MapSet k val b L W) (hb : But D W W') (hd : ¬ D b) : MapSet k val b L W' := h.kept (hb.block b h.lt hd)
theorem MapSet.notCells {α : Type} {k : TypeId} {val : α → Value} {b : Nat} {L : List α} {W : World} (h : MapSet k val b L W) : ∀ off v, W.cell? ⟨b, off, none⟩ ≠ some v := by
  obtain ⟨D, ⟨es, clock, h1, _⟩, _⟩ := h
  intro off v hv
  simp [World.cell?, h1] at hv
/-- Behind the store of a key. -/
theorem MapSet.put {α : Type} [BEq α] [LawfulBEq α] {k : TypeId} {val : α → Value} {b : Nat} {L : List α} {D : DataW Unit} {W' : World} (K : Keyed Tryz.prog k) {x : α} (hv : ∀ y ∈ L, val x = val y → x = y) (ht : Tidy D) (hs : Maps.size D = L.length)
    (hh : ∀ kl, Maps.has D kl = true ↔ ∃ x ∈ L, keyOf Tryz.prog k (val x) = some kl) {kl : Lit} (hk : keyOf Tryz.prog k (val x) = some kl) (ho : W'.ownsMap Tryz.prog k unitElem b (L.length + 1) (D.put kl (.agg []))) :
    Maps.has D kl = decide (x ∈ L) ∧ MapSet k val b (if x ∈ L then L else L ++ [x]) W' := by
  have h1 : Maps.has D kl = decide (x ∈ L) := by
    rw [Bool.eq_iff_iff, decide_eq_true_eq, hh]
    constructor
    · rintro ⟨y, hy, hyk⟩
      rw [hv y hy (K.inj hk hyk)]; exact hy
    · intro hx; exact ⟨x, hx, hk⟩
  have h2 := size_put (k := kl) ht (.agg [])
  rw [h1, hs] at h2
  have hlow : W'.ownsMap Tryz.prog k unitElem b (Maps.size (D.put kl (.agg []))) (D.put kl (.agg [])) := by
    obtain ⟨es, clock, k1, k2, k3, k4⟩ := ho
    refine ⟨es, clock, k1, k2, ?_, k4⟩
    rw [k4]
    simp [Maps.size, length_sorted]
  have hkey := K.key hk
  refine ⟨h1, D.put kl (.agg []), ?_, ?_, fun kl' => ?_⟩
  · rw [h2] at hlow
    split
    · rename_i hx; rw [if_pos (by simpa using hx)] at hlow; exact hlow
    · rename_i hx; rw [if_neg (by simpa using hx)] at hlow; simpa using hlow
  · rw [h2]; split
    · rename_i hx; rw [if_pos (by simpa using hx)]
    · rename_i hx; rw [if_neg (by simpa using hx)]; simp
  · by_cases e : kl' = kl
    · subst e
      rw [has_put_same ht.isMap hkey]
      simp only [true_iff]
      refine ⟨x, ?_, hk⟩
      split
      · assumption
      · simp
    · rw [has_put_other e, hh]
      split
      · exact Iff.rfl
      · constructor
        · rintro ⟨y, hy, hyk⟩; exact ⟨y, by simp [hy], hyk⟩
        · rintro ⟨y, hy, hyk⟩
          rcases List.mem_append.1 hy with hy | hy
          · exact ⟨y, hy, hyk⟩
          · simp at hy; subst hy
            rw [hk] at hyk; cases hyk; exact absurd rfl e
theorem new_gt {m n : Nat} {b : Bool} (h : m = if b = true then n else n + 1) : decide ((m : Int) > (n : Int)) = !b := by
  cases b <;> simp at h <;> subst h <;> simp <;> omega
/-- What isNew tells, and leaves. -/
def NewP {α : Type} [BEq α] [LawfulBEq α] (k : TypeId) (val : α → Value) (b : Nat) (L : List α) (x : α) (w : World) (e : Ending) (w' : World) : Prop :=
  e = .returned (.bool (!decide (x ∈ L))) ∧ MapSet k val b (if x ∈ L then L else L ++ [x]) w' ∧ But (fun k => k = b) w w'
theorem newP_of {α : Type} [BEq α] [LawfulBEq α] {k : TypeId} {val : α → Value} {b : Nat} {L : List α} {x : α} {w W1 w1 : World} {e : Ending} {D D2 : DataW Unit} {kl : Lit} (B1 : But (fun k => k = b) w W1) (hg1 : W1.grownBy w1 (some b)) (hP : Maps.has D kl = decide (x ∈ L) ∧ MapSet k val b (if x ∈ L then L else L ++ [x]) w1)
    (hZ : Maps.size D2 = if Maps.has D kl = true then Maps.size D else Maps.size D + 1) (he : e = .returned (.bool (decide ((Maps.size D2 : Int) > (Maps.size D : Int))))) : NewP k val b L x w e w1 := by
  refine ⟨?_, hP.2, ⟨hg1.os.trans B1.os, hg1.tape.trans B1.tape, hg1.output.trans B1.output, Nat.le_trans B1.size hg1.size, fun k hk' hd => (hg1.block k (Nat.lt_of_lt_of_le hk' B1.size) (fun e => hd (by cases e; rfl))).trans (B1.block k hk' hd)⟩⟩
  have := new_gt hZ
  rw [hP.1] at this
  rw [he, this]
/-- A kernel's items as bytes. -/
def byte2 (x : Int) : List UInt8 := [UInt8.ofNat (x.toNat / 256), UInt8.ofNat x.toNat]
def keyI (x : Ir) : List UInt8 := byte2 (x.1 + 1) ++ [UInt8.ofNat x.2.1.toNat] ++ byte2 x.2.2
def keyK (K : List Ir) : ByteArray := ⟨(K.flatMap keyI).toArray⟩
def valK (K : List Ir) : Value := .string (keyK K)

set_option maxRecDepth 100000 in
set_option maxHeartbeats 1000000 in
theorem isNewR_any (b : Nat) (L : List Ir) (x : Ir) (w : World) (hM : MapSet 30 valR b L w) (h : okR x) (hl : L.length < 100000000) :
    Calls Tryz.prog 73 #[.map (some b), valR x] w fun e w' => NewP 30 valR b L x w e w' := by
  obtain ⟨kl, hk⟩ := keyLr h
  obtain ⟨D, ho, hs, hh⟩ := hM
  have ht := ho.tidy lawLr
  have HP : Hid (∀ W', W'.ownsMap Tryz.prog 30 unitElem b (L.length + 1) (D.put kl (.agg [])) → Maps.has D kl = decide (x ∈ L) ∧ MapSet 30 valR b (if x ∈ L then L else L ++ [x]) W') := fun W' h' => MapSet.put lawLr (fun _ _ => valR_inj) ht hs hh hk h'
  have HSZ : Hid (Maps.size (D.put kl (.agg [])) = if Maps.has D kl = true then Maps.size D else Maps.size D + 1) := size_put (k := kl) ht (.agg [])
  clear hs hh ht
  have ho1 := ho.alloc (Obj.cells #[.int .i64 x.1, .int .i64 x.2.1, .int .i64 x.2.2] 30)
  have B1 : But (fun k => k = b) w (w.alloc (Obj.cells #[.int .i64 x.1, .int .i64 x.2.1, .int .i64 x.2.2] 30)) := But.of_next ((Below.refl _ _).alloc (Nat.le_refl _) _)
  clear ho
  have hk2 : keyOf Tryz.prog 30 (.agg #[.int .i64 x.1, .int .i64 x.2.1, .int .i64 x.2.2]) = some kl := hk
  show Calls Tryz.prog 73 #[.map (some b), .agg #[.int .i64 x.1, .int .i64 x.2.1, .int .i64 x.2.2]] w _
  clear hk h
  go_enter Tryz.func73, Tryz.ntmps73
  go_wp2_with (first
    | (at_len; first
        | refine wpList_len_own _ rfl _ 99 rfl 30 95 Tryz.underlying99 _ b _ _ rfl ho2 ?_
        | refine wpList_len_own _ rfl _ 99 rfl 30 95 Tryz.underlying99 _ b _ _ rfl ho1 ?_)
    | (at_mapUpdate; refine wpList_mapUpdate_own _ rfl _ _ _ 99 rfl 30 95 lawLr Tryz.underlying99 _ b L.length _ rfl ho1 (by unfold maxLen; omega) _ _ _ rfl rfl hk2 _ [] unitElem_mk ?_; intro w1 ho2 hg1))
  go_ret
  exact newP_of B1 hg1 (HP.out _ ho2) HSZ.out (ret_bool (by first | rfl | (simp; done)))

set_option maxRecDepth 100000 in
set_option maxHeartbeats 1000000 in
theorem isNewC_any (b : Nat) (L : List (Int × Int)) (x : (Int × Int)) (w : World) (hM : MapSet 130 val2 b L w) (h : ok2 x) (hl : L.length < 100000000) :
    Calls Tryz.prog 93 #[.map (some b), val2 x] w fun e w' => NewP 130 val2 b L x w e w' := by
  obtain ⟨kl, hk⟩ := keyCore h
  obtain ⟨D, ho, hs, hh⟩ := hM
  have ht := ho.tidy lawCore
  have HP : Hid (∀ W', W'.ownsMap Tryz.prog 130 unitElem b (L.length + 1) (D.put kl (.agg [])) → Maps.has D kl = decide (x ∈ L) ∧ MapSet 130 val2 b (if x ∈ L then L else L ++ [x]) W') := fun W' h' => MapSet.put lawCore (fun _ _ => val2_inj) ht hs hh hk h'
  have HSZ : Hid (Maps.size (D.put kl (.agg [])) = if Maps.has D kl = true then Maps.size D else Maps.size D + 1) := size_put (k := kl) ht (.agg [])
  clear hs hh ht
  have ho1 := ho.alloc (Obj.cells #[.int .i64 x.1, .int .i64 x.2] 130)
  have B1 : But (fun k => k = b) w (w.alloc (Obj.cells #[.int .i64 x.1, .int .i64 x.2] 130)) := But.of_next ((Below.refl _ _).alloc (Nat.le_refl _) _)
  clear ho
  have hk2 : keyOf Tryz.prog 130 (.agg #[.int .i64 x.1, .int .i64 x.2]) = some kl := hk
  show Calls Tryz.prog 93 #[.map (some b), .agg #[.int .i64 x.1, .int .i64 x.2]] w _
  clear hk h
  go_enter Tryz.func93, Tryz.ntmps93
  go_wp2_with (first
    | (at_len; first
        | refine wpList_len_own _ rfl _ 100 rfl 130 95 Tryz.underlying100 _ b _ _ rfl ho2 ?_
        | refine wpList_len_own _ rfl _ 100 rfl 130 95 Tryz.underlying100 _ b _ _ rfl ho1 ?_)
    | (at_mapUpdate; refine wpList_mapUpdate_own _ rfl _ _ _ 100 rfl 130 95 lawCore Tryz.underlying100 _ b L.length _ rfl ho1 (by unfold maxLen; omega) _ _ _ rfl rfl hk2 _ [] unitElem_mk ?_; intro w1 ho2 hg1))
  go_ret
  exact newP_of B1 hg1 (HP.out _ ho2) HSZ.out (ret_bool (by first | rfl | (simp; done)))

set_option maxRecDepth 100000 in
set_option maxHeartbeats 1000000 in
theorem isNewS_any (b : Nat) (L : List (Int × Int)) (x : (Int × Int)) (w : World) (hM : MapSet 110 val2 b L w) (h : ok2 x) (hl : L.length < 100000000) :
    Calls Tryz.prog 95 #[.map (some b), val2 x] w fun e w' => NewP 110 val2 b L x w e w' := by
  obtain ⟨kl, hk⟩ := keyStart h
  obtain ⟨D, ho, hs, hh⟩ := hM
  have ht := ho.tidy lawStart
  have HP : Hid (∀ W', W'.ownsMap Tryz.prog 110 unitElem b (L.length + 1) (D.put kl (.agg [])) → Maps.has D kl = decide (x ∈ L) ∧ MapSet 110 val2 b (if x ∈ L then L else L ++ [x]) W') := fun W' h' => MapSet.put lawStart (fun _ _ => val2_inj) ht hs hh hk h'
  have HSZ : Hid (Maps.size (D.put kl (.agg [])) = if Maps.has D kl = true then Maps.size D else Maps.size D + 1) := size_put (k := kl) ht (.agg [])
  clear hs hh ht
  have ho1 := ho.alloc (Obj.cells #[.int .i64 x.1, .int .i64 x.2] 110)
  have B1 : But (fun k => k = b) w (w.alloc (Obj.cells #[.int .i64 x.1, .int .i64 x.2] 110)) := But.of_next ((Below.refl _ _).alloc (Nat.le_refl _) _)
  clear ho
  have hk2 : keyOf Tryz.prog 110 (.agg #[.int .i64 x.1, .int .i64 x.2]) = some kl := hk
  show Calls Tryz.prog 95 #[.map (some b), .agg #[.int .i64 x.1, .int .i64 x.2]] w _
  clear hk h
  go_enter Tryz.func95, Tryz.ntmps95
  go_wp2_with (first
    | (at_len; first
        | refine wpList_len_own _ rfl _ 101 rfl 110 95 Tryz.underlying101 _ b _ _ rfl ho2 ?_
        | refine wpList_len_own _ rfl _ 101 rfl 110 95 Tryz.underlying101 _ b _ _ rfl ho1 ?_)
    | (at_mapUpdate; refine wpList_mapUpdate_own _ rfl _ _ _ 101 rfl 110 95 lawStart Tryz.underlying101 _ b L.length _ rfl ho1 (by unfold maxLen; omega) _ _ _ rfl rfl hk2 _ [] unitElem_mk ?_; intro w1 ho2 hg1))
  go_ret
  exact newP_of B1 hg1 (HP.out _ ho2) HSZ.out (ret_bool (by first | rfl | (simp; done)))

set_option maxRecDepth 100000 in
set_option maxHeartbeats 1000000 in
theorem isNewT_any (b : Nat) (L : List (List Ir)) (x : (List Ir)) (w : World) (hM : MapSet 9 valK b L w) (h : (keyK x).size ≤ maxLen ∧ ∀ y ∈ L, keyK x = keyK y → x = y) (hl : L.length < 100000000) :
    Calls Tryz.prog 57 #[.map (some b), valK x] w fun e w' => NewP 9 valK b L x w e w' := by
  obtain ⟨kl, hk⟩ := (⟨_, WideMaps.keyOf_string_mk Tryz.underlying9 h.1⟩ : ∃ kl, keyOf Tryz.prog 9 (valK x) = some kl)
  obtain ⟨D, ho, hs, hh⟩ := hM
  have ht := ho.tidy lawStr
  have HP : Hid (∀ W', W'.ownsMap Tryz.prog 9 unitElem b (L.length + 1) (D.put kl (.agg [])) → Maps.has D kl = decide (x ∈ L) ∧ MapSet 9 valK b (if x ∈ L then L else L ++ [x]) W') := fun W' h' => MapSet.put lawStr (fun y hy e => h.2 y hy (Value.string.inj e)) ht hs hh hk h'
  have HSZ : Hid (Maps.size (D.put kl (.agg [])) = if Maps.has D kl = true then Maps.size D else Maps.size D + 1) := size_put (k := kl) ht (.agg [])
  clear hs hh ht
  have ho1 := ho
  have B1 : But (fun k => k = b) w w := But.refl _ _
  clear ho
  have hk2 : keyOf Tryz.prog 9 (.string (keyK x)) = some kl := hk
  show Calls Tryz.prog 57 #[.map (some b), .string (keyK x)] w _
  clear hk h
  go_enter Tryz.func57, Tryz.ntmps57
  go_wp2_with (first
    | (at_len; first
        | refine wpList_len_own _ rfl _ 76 rfl 9 95 Tryz.underlying76 _ b _ _ rfl ho2 ?_
        | refine wpList_len_own _ rfl _ 76 rfl 9 95 Tryz.underlying76 _ b _ _ rfl ho1 ?_)
    | (at_mapUpdate; refine wpList_mapUpdate_own _ rfl _ _ _ 76 rfl 9 95 lawStr Tryz.underlying76 _ b L.length _ rfl ho1 (by unfold maxLen; omega) _ _ _ rfl rfl hk2 _ [] unitElem_mk ?_; intro w1 ho2 hg1))
  go_ret
  exact newP_of B1 hg1 (HP.out _ ho2) HSZ.out (ret_bool (by first | rfl | (simp; done)))
end Go.Proofs.YtlaplmmicccbcaaGreatDoor
/- An append of one onto a row of one's own: where the row lies behind it. -/
namespace Go.Proofs.YtlaplmmicccbcaaGreatDoor
open Go.RowKit

theorem inB_own {v : Value} {k : Nat} (h : inB v k) : v.ownBlock = some k := by
  obtain ⟨off, n, c, rfl, _⟩ := h
  rfl
theorem run_append_ownq {P : Program} {w : World} (base : Nat) (t ty e : TypeId) (i : TypeInfo) (z : Value) (size bytes : Nat) (ht : P.underlying t = some (.slice e)) (hi : P.info? e = some i) (hz : i.zero = some z)
    (hsize : i.size = size) (hby : i.bytes = bytes) (hzs : z.cells.size = size) (hsz : 0 < size)
    (v : Value) (n : Nat) (xs : List Value) (hown : w.ownsRow base e size v n xs)
    (a : Addr) (c : Nat) (news : List Value) (hl : news.length = size) (hnews : ∀ j u, news[j]? = some u → w.cell? (a.add j) = some u) (h1 : ∀ u ∈ news, u.oneCell' = true)
    (h63 : n + 1 ≤ maxLen) (hbytes : (n + 1) * bytes ≤ 140737488355328) (hbase : base ≤ w.heap.size) :
    ∃ v' w', (Builtin.append_ #[t, t] ty #[v, .slice (some a) 1 c]).run P w = .ok v' w' ∧ w'.ownsRow base e size v' (n + 1) (xs ++ news) ∧ w.grownBy w' v.ownBlock ∧
      ∀ k, v'.ownBlock = some k → v.ownBlock = some k ∨ w.heap.size ≤ k := by
  obtain ⟨v', w', r1, o1, g1, _⟩ := run_append_own (P := P) w base t ty e i z size bytes ht hi hz hsize hby hzs hsz v n xs hown a 1 c news (by omega) hnews h1 h63 hbytes hbase
  have hq : QRow (fun k => v.ownBlock = some k ∨ w.heap.size ≤ k) size v n xs w := ((QRow.of_own (D := fun k => base ≤ k) hown (fun _ h => h)).exact).mono (fun k _ h => .inl (inB_own h.2.1))
  obtain ⟨v2, w2, r2, q2, _⟩ := run_append_q (P := P) (w := w) t ty e i z size bytes ht hi hz hsize hby hzs hsz hq (fun k hk => .inr hk) a c news hl hnews h1 h63 hbytes
  rw [r1] at r2
  cases r2
  refine ⟨v', w', r1, o1, g1, fun k hk => ?_⟩
  obtain ⟨ao, b, off, cap, rfl, hc, hD⟩ := q2
  have hcp : 0 < cap := by have := hc.le; omega
  obtain rfl := hc.addr hcp
  cases hk
  exact hD hcp
theorem wp_append_ownq {P : Program} {w : World} {o : Oper} {a : Act} {K : Act → World → Prop} {Q : Exit → Act → World → Prop} (s x : Operand) (t : TypeId)
    (ho : o.op = .call { callee := .builtin .append, args := #[s, x], argTypes := #[t, t] })
    (base : Nat) (e : TypeId) (i : TypeInfo) (z : Value) (size bytes : Nat) (ht : P.underlying t = some (.slice e)) (hi : P.info? e = some i) (hz : i.zero = some z)
    (hsize : i.size = size) (hby : i.bytes = bytes) (hzs : z.cells.size = size) (hsz : 0 < size)
    (v : Value) (n : Nat) (xs : List Value) (hs : a.eval s = v) (hown : w.ownsRow base e size v n xs)
    (ad : Addr) (c : Nat) (news : List Value) (hx : a.eval x = .slice (some ad) 1 c) (hl : news.length = size) (hnews : ∀ j u, news[j]? = some u → w.cell? (ad.add j) = some u) (h1 : ∀ u ∈ news, u.oneCell' = true)
    (h63 : n + 1 ≤ maxLen) (hbytes : (n + 1) * bytes ≤ 140737488355328) (hbase : base ≤ w.heap.size)
    (h : ∀ v' w', w'.ownsRow base e size v' (n + 1) (xs ++ news) → w.grownBy w' v.ownBlock → (∀ k, v'.ownBlock = some k → v.ownBlock = some k ∨ w.heap.size ≤ k) → K (a.put o.dst v') w') : o.wp P a w K Q := by
  obtain ⟨v', w', hr, h2, h3, h4⟩ := run_append_ownq (P := P) (w := w) base t o.type e i z size bytes ht hi hz hsize hby hzs hsz v n xs hown ad c news hl hnews h1 h63 hbytes hbase
  unfold Oper.wp execOp
  simp only [ho, resolve, invoke, builtin, Sem.run_bind, Sem.run_pure, Result.andThen_ok, List.map_toArray, List.map_cons, List.map_nil, hs, hx, hr]
  exact h v' w' h2 h3 h4
end Go.Proofs.YtlaplmmicccbcaaGreatDoor
/- The grower of the program: what it holds; newGrower, put. -/
namespace Go.Proofs.YtlaplmmicccbcaaGreatDoor
open Go.RowKit

/-- The grower is block G, its maps are blocks Bi, Bc, Bb; its list has the items L, which are the map's, too; its other maps have C and S. -/
structure GS (Bi Bc Bb G V : Nat) (lv : Value) (L : List Ir) (C S : List (Int × Int)) (W : World) : Prop where
  o1 : Bi < Bc
  o2 : Bc < Bb
  o3 : Bb < G
  lt : G < W.heap.size
  g0 : W.cell? ⟨G, 0, none⟩ = some (.pointer (some ⟨V, 0, none⟩))
  g1 : W.cell? ⟨G, 1, none⟩ = some (.map (some Bi))
  g2 : W.cell? ⟨G, 2, none⟩ = some lv
  g3 : W.cell? ⟨G, 3, none⟩ = some (.map (some Bc))
  g4 : W.cell? ⟨G, 4, none⟩ = some (.map (some Bb))
  fz : W.frozen? ⟨G, 2, none⟩ = false
  mi : MapSet 30 valR Bi L W
  mc : MapSet 130 val2 Bc C W
  mb : MapSet 110 val2 Bb S W
  own : OwnL (G + 1) L lv W
theorem ownsRow_but {W W' : World} {B n k : Nat} {e : TypeId} {v : Value} {xs : List Value} {D : Nat → Prop} (h : W.ownsRow B e k v n xs) (hb : But D W W') (hd : ∀ j, D j → j < W.heap.size → j < B) : W'.ownsRow B e k v n xs := by
  obtain ⟨h1, h2⟩ := h
  refine ⟨h1, ?_⟩
  rcases h2 with ⟨rfl, hn⟩ | ⟨g, cap, cur, rfl, hB, hg, h3⟩
  · exact .inl ⟨rfl, hn⟩
  · have hlt : g < W.heap.size := (Array.getElem?_eq_some_iff.1 hg).1
    exact .inr ⟨g, cap, cur, rfl, hB, (hb.block g hlt (fun h => by have := hd g h hlt; omega)).trans hg, h3⟩
/-- What writes to blocks ahead of the grower's, or to new ones, leaves it. -/
theorem GS.but {Bi Bc Bb G V : Nat} {lv : Value} {L : List Ir} {C S : List (Int × Int)} {W W' : World} {D : Nat → Prop} (h : GS Bi Bc Bb G V lv L C S W) (hb : But D W W') (hd : ∀ k, D k → k < W.heap.size → k < Bi) : GS Bi Bc Bb G V lv L C S W' := by
  have hl := h.lt
  have h1 := h.o1
  have h2 := h.o2
  have h3 := h.o3
  have nd : ∀ k, Bi ≤ k → k < W.heap.size → ¬ D k := fun k hk hlt hdk => by have := hd k hdk hlt; omega
  have c : ∀ {o v}, W.cell? ⟨G, o, none⟩ = some v → W'.cell? ⟨G, o, none⟩ = some v := fun {o v} hv => (hb.cell (p := ⟨G, o, none⟩) hl (nd G (by omega) hl)).trans hv
  exact ⟨h.o1, h.o2, h.o3, Nat.lt_of_lt_of_le hl hb.size, c h.g0, c h.g1, c h.g2, c h.g3, c h.g4, (hb.frozen (p := ⟨G, 2, none⟩) hl (nd G (by omega) hl)).trans h.fz, h.mi.but hb (nd _ (by omega) (by omega)), h.mc.but hb (nd _ (by omega) (by omega)), h.mb.but hb (nd _ (by omega) (by omega)), ownsRow_but h.own hb (fun j hj hlt => by have := hd j hj hlt; omega)⟩
theorem GS.next {Bi Bc Bb G V : Nat} {lv : Value} {L : List Ir} {C S : List (Int × Int)} {W W' : World} (h : GS Bi Bc Bb G V lv L C S W) (hb : Below W.heap.size W W') : GS Bi Bc Bb G V lv L C S W' :=
  h.but (D := fun _ => False) (But.of_next hb) (fun _ h => h.elim)
def addI (L : List Ir) (x : Ir) : List Ir := if x ∈ L then L else L ++ [x]
/-- Blocks of P are none of the grower's, and are left. -/
def Apt (P : Nat → Prop) (Bi Bc Bb G : Nat) (lv : Value) (w : World) : Prop := (∀ k, P k → k < w.heap.size ∧ k ≠ Bi ∧ k ≠ Bc ∧ k ≠ Bb ∧ k ≠ G) ∧ ∀ k, lv.ownBlock = some k → ¬ P k
def Grown (P : Nat → Prop) (Bi Bc Bb G V : Nat) (L : List Ir) (C S : List (Int × Int)) (w : World) (e : Ending) (w' : World) : Prop := e = .returned (.tuple #[]) ∧ ∃ lv', GS Bi Bc Bb G V lv' L C S w' ∧ Apt P Bi Bc Bb G lv' w' ∧ But (fun k => ¬ P k) w w'
theorem Apt.next {P : Nat → Prop} {Bi Bc Bb G : Nat} {lv : Value} {w w' : World} (h : Apt P Bi Bc Bb G lv w) (hs : w.heap.size ≤ w'.heap.size) : Apt P Bi Bc Bb G lv w' := ⟨fun k hk => ⟨Nat.lt_of_lt_of_le (h.1 k hk).1 hs, (h.1 k hk).2⟩, h.2⟩

set_option maxRecDepth 100000 in
set_option maxHeartbeats 2000000 in
theorem gput_any (P : Nat → Prop) (Bi Bc Bb G V : Nat) (lv : Value) (L : List Ir) (C S : List (Int × Int)) (x : Ir) (w : World) (h : GS Bi Bc Bb G V lv L C S w) (hx : okR x) (hP : Apt P Bi Bc Bb G lv w) (hl : L.length < 100000000) :
    Calls Tryz.prog 61 #[.pointer (some ⟨G, 0, none⟩), valR x] w fun e w' => Grown P Bi Bc Bb G V (addI L x) C S w e w' := by
  obtain ⟨i0, hi0, hz0, hz1, hz2⟩ := info_parts infoLr
  obtain ⟨la, lc, rfl⟩ := slice_of_ownK h.own
  have Bx : Below w.heap.size w (w.alloc (Obj.cells #[.int .i64 x.1, .int .i64 x.2.1, .int .i64 x.2.2] 30)) := (Below.refl _ _).alloc (Nat.le_refl _) _
  have X0 := RBox.new x 30 w
  have hG := h.lt
  have hBi : Bi < G := by have := h.o1; have := h.o2; have := h.o3; omega
  have hdst := And.intro h.o1 (And.intro h.o2 h.o3)
  have HH : Hid (GS Bi Bc Bb G V (.slice la L.length lc) L C S (w.alloc (Obj.cells #[.int .i64 x.1, .int .i64 x.2.1, .int .i64 x.2.2] 30))) := h.next Bx
  have HX : Hid (okR x) := hx
  have HOL : Hid (∀ k, (Value.slice la L.length lc).ownBlock = some k → G + 1 ≤ k ∧ k < w.heap.size) := fun k e => World.ownsRow.lt h.own k e
  have HAP : Hid (Apt P Bi Bc Bb G (.slice la L.length lc) w) := hP
  clear h hx hP
  obtain ⟨x0, x1, x2⟩ := x
  unfold valR
  simp only at *
  go_enter Tryz.func61, Tryz.ntmps61
  go_wp2_with fail
  generalize w.alloc (Obj.cells #[.int .i64 x0, .int .i64 x1, .int .i64 x2] 30) = w0 at *
  obtain ⟨hwl, y0, y1, y2⟩ := X0
  simp only at y0 y1 y2
  have HS0 : (w0.drew.cell? ⟨G, 1, none⟩ = some (.map (some Bi)) ∧ w0.drew.cell? ⟨w.heap.size, 0, none⟩ = some (.int .i64 x0) ∧ w0.drew.cell? ⟨w.heap.size, 1, none⟩ = some (.int .i64 x1) ∧ w0.drew.cell? ⟨w.heap.size, 2, none⟩ = some (.int .i64 x2)) := ⟨HH.out.g1, y0, y1, y2⟩
  have hg2 := HH.out.g2
  have hfz := HH.out.fz
  have HN := isNewR_any Bi L (x0, x1, x2) w0.drew (HH.out.next (Below.refl _ _).drew).mi HX.out hl
  unfold valR at HN
  simp only at HN
  have hsz := Bx.size
  refine wp_region_L (fun W => W.cell? ⟨G, 1, none⟩ = some (.map (some Bi)) ∧ W.cell? ⟨w.heap.size, 0, none⟩ = some (.int .i64 x0) ∧ W.cell? ⟨w.heap.size, 1, none⟩ = some (.int .i64 x1) ∧ W.cell? ⟨w.heap.size, 2, none⟩ = some (.int .i64 x2)) 6 (by kernel_rfl) 6 rfl ?_
  refine tk (i := 0) (v := ?_) (oi := ⟨some 4, .move (.tmp 0), 82, "grower.go:37", #[], none⟩) HS0 ?_ ?_
  rotate_left
  · intro W hSW
    go_simp
    try with_reducible rfl
  simp only [Act.put, sA, s0, sS]
  refine tk (i := 1) (v := ?_) (oi := ⟨some 5, .nilCheck (.tmp 4), 0, "grower.go:37", #[⟨0, .data⟩], none⟩) HS0 ?_ ?_
  rotate_left
  · intro W hSW
    go_simp
    try with_reducible rfl
  simp only [Act.put, sA, s0, sS]
  refine tk (i := 2) (v := ?_) (oi := ⟨some 6, .fieldAddr 103 (.tmp 5) 1, 0, "grower.go:37", #[⟨1, .data⟩], none⟩) HS0 ?_ ?_
  rotate_left
  · intro W hSW
    go_simp
    try with_reducible rfl
  simp only [Act.put, sA, s0, sS]
  refine tk (i := 3) (v := ?_) (oi := ⟨some 7, .load 99 (.tmp 6), 99, "grower.go:37", #[⟨2, .data⟩], none⟩) HS0 ?_ ?_
  rotate_left
  · intro W hSW
    go_simp
    try with_reducible rfl
  simp only [Act.put, sA, s0, sS]
  refine tk (i := 4) (v := ?_) (oi := ⟨some 8, .load 30 (.tmp 3), 30, "grower.go:37", #[], none⟩) HS0 ?_ ?_
  rotate_left
  · intro W hSW
    go_simp
    try with_reducible rfl
  simp only [Act.put, sA, s0, sS]
  refine wpAnyL_one' (i := 5) (o := ⟨some 9, .call ⟨.value (.func 73), #[.tmp 7, .tmp 8], #[99, 30]⟩, 4, "grower.go:37", #[⟨3, .data⟩, ⟨4, .data⟩], none⟩) (by kernel_rfl) rfl rfl (fun K hK => ?_)
  go_simp
  refine HN.mono ?_
  rintro e W1 ⟨rfl, hM1, hb1⟩
  have hb1' : But (fun k => k = Bi) w0 W1 := (But.refl _ _).drew.trans hb1
  have cw : ∀ {b o : Nat} {v : Value}, b ≠ Bi → w0.cell? ⟨b, o, none⟩ = some v → W1.cell? ⟨b, o, none⟩ = some v := fun {b o v} hbn hv => (hb1'.cell (p := ⟨b, o, none⟩) (World.block_lt_of_cell? _ _ hv) hbn).trans hv
  have hS1 : (W1.cell? ⟨G, 1, none⟩ = some (.map (some Bi)) ∧ W1.cell? ⟨w.heap.size, 0, none⟩ = some (.int .i64 x0) ∧ W1.cell? ⟨w.heap.size, 1, none⟩ = some (.int .i64 x1) ∧ W1.cell? ⟨w.heap.size, 2, none⟩ = some (.int .i64 x2)) := ⟨cw (by omega) HH.out.g1, cw (by omega) y0, cw (by omega) y1, cw (by omega) y2⟩
  refine hK.out _ _ (fun _ => hS1) ?_
  clear hK HN
  refine wpAnyL_done (by kernel_rfl) ?_ _
  have GS1 : ∀ L', MapSet 30 valR Bi L' W1 → OwnL (G + 1) L (.slice la L.length lc) W1 ∧ (OwnL (G + 1) L' (.slice la L.length lc) W1 → GS Bi Bc Bb G V (.slice la L.length lc) L' C S W1) := fun L' hm => by
    have h := HH.out
    have nd : ∀ k, k ≠ Bi → ¬ (fun k => k = Bi) k := fun k hk e => hk e
    refine ⟨?_, fun ho => ⟨h.o1, h.o2, h.o3, Nat.lt_of_lt_of_le h.lt hb1'.size, cw (by omega) h.g0, cw (by omega) h.g1, cw (by omega) h.g2, cw (by omega) h.g3, cw (by omega) h.g4, (hb1'.frozen (p := ⟨G, 2, none⟩) h.lt (by simp only; omega)).trans h.fz, hm, h.mc.but hb1' (by omega), h.mb.but hb1' (by omega), ho⟩⟩
    exact ownsRow_but h.own hb1' (fun j hj _ => by omega)
  have HB1 : Hid (But (fun k => ¬ P k) w W1) := (But.of_next Bx).trans (hb1'.mono (fun k _ hk hp => (HAP.out.1 k hp).2.1 hk))
  by_cases hin : (x0, x1, x2) ∈ L
  · rw [if_pos hin] at hM1
    have hadd : addI L (x0, x1, x2) = L := by unfold addI; rw [if_pos hin]
    have HF : Hid (GS Bi Bc Bb G V (.slice la L.length lc) L C S W1) := (GS1 L hM1).2 (GS1 L hM1).1
    have hdc : decide ((x0, x1, x2) ∈ L) = true := by simpa using hin
    rw [hdc]
    clear GS1 hS1 cw hM1 HH HS0 hdc hin hb1 hb1' hg2 hfz
    go_wp2_with fail
    go_end0
    exact ⟨rfl, _, by rw [hadd]; exact HF.out, HAP.out.next HB1.out.size, HB1.out⟩
  rw [if_neg hin] at hM1
  have hadd : addI L (x0, x1, x2) = L ++ [(x0, x1, x2)] := by unfold addI; rw [if_neg hin]
  have hdc : decide ((x0, x1, x2) ∈ L) = false := by simpa using hin
  rw [hdc]
  have HM1 : Hid (MapSet 30 valR Bi (L ++ [(x0, x1, x2)]) W1) := hM1
  have HO1 : Hid (OwnL (G + 1) L (.slice la L.length lc) W1) := (GS1 _ hM1).1
  have HG1 : Hid (∀ {o : Nat} {v : Value}, w0.cell? ⟨G, o, none⟩ = some v → W1.cell? ⟨G, o, none⟩ = some v) := fun {o v} hv => cw (by omega) hv
  have hfz1 : W1.frozen? ⟨G, 2, none⟩ = false := (hb1'.frozen (p := ⟨G, 2, none⟩) HH.out.lt (by simp only; omega)).trans hfz
  have hg21 : W1.cell? ⟨G, 2, none⟩ = some (.slice la L.length lc) := cw (by omega) hg2
  have HMC : Hid (MapSet 130 val2 Bc C W1) := HH.out.mc.but hb1' (by omega)
  have HMB : Hid (MapSet 110 val2 Bb S W1) := HH.out.mb.but hb1' (by omega)
  have hG1 : G < W1.heap.size := Nat.lt_of_lt_of_le HH.out.lt hb1'.size
  have hw1 : w.heap.size < W1.heap.size := Nat.lt_of_lt_of_le hwl hb1'.size
  have z0 := hS1.2.1
  have z1 := hS1.2.2.1
  have z2 := hS1.2.2.2
  have HS2 : Hid (∀ W, But (fun k => (Value.slice la L.length lc).ownBlock = some k) W1 W → (W.cell? ⟨G, 2, none⟩ = some (.slice la L.length lc) ∧ W.cell? ⟨w.heap.size, 0, none⟩ = some (.int .i64 x0) ∧ W.cell? ⟨w.heap.size, 1, none⟩ = some (.int .i64 x1) ∧ W.cell? ⟨w.heap.size, 2, none⟩ = some (.int .i64 x2))) := fun W hb => ⟨(hb.cell (p := ⟨G, 2, none⟩) hG1 (fun e => by have := HOL.out _ e; simp only at this; omega)).trans hg21, (hb.cell (p := ⟨w.heap.size, 0, none⟩) hw1 (fun e => by have := HOL.out _ e; simp only at this; omega)).trans z0, (hb.cell (p := ⟨w.heap.size, 1, none⟩) hw1 (fun e => by have := HOL.out _ e; simp only at this; omega)).trans z1, (hb.cell (p := ⟨w.heap.size, 2, none⟩) hw1 (fun e => by have := HOL.out _ e; simp only at this; omega)).trans z2⟩
  have HSD := HS2.out W1.drew (But.refl _ _).drew
  have Bn : Below W1.heap.size W1 (W1.drew.alloc (Obj.cells #[.int .i64 x0, .int .i64 x1, .int .i64 x2] 30)) := (Below.refl _ _).drew.alloc (Nat.le_refl _) _
  have HSN := HS2.out (W1.drew.alloc (Obj.cells #[.int .i64 x0, .int .i64 x1, .int .i64 x2] 30)) (But.of_next Bn)
  have HON : Hid ((W1.drew.alloc (Obj.cells #[.int .i64 x0, .int .i64 x1, .int .i64 x2] 30)).ownsRow (G + 1) 30 3 (.slice la L.length lc) L.length (L.flatMap encR)) := ownsRow_next (show W1.ownsRow (G + 1) 30 3 (.slice la L.length lc) L.length (L.flatMap encR) from HO1.out) Bn
  have hszn : G + 1 ≤ (W1.drew.alloc (Obj.cells #[.int .i64 x0, .int .i64 x1, .int .i64 x2] 30)).heap.size := Nat.le_trans hG1 Bn.size
  have HGG : Hid (w0.cell? ⟨G, 0, none⟩ = some (.pointer (some ⟨V, 0, none⟩)) ∧ w0.cell? ⟨G, 1, none⟩ = some (.map (some Bi)) ∧ w0.cell? ⟨G, 3, none⟩ = some (.map (some Bc)) ∧ w0.cell? ⟨G, 4, none⟩ = some (.map (some Bb))) := ⟨HH.out.g0, HH.out.g1, HH.out.g3, HH.out.g4⟩
  clear GS1 hM1 HS0 hdc hb1 hg2 hfz hS1 cw HH hin hb1'
  go_wp2_with fail
  refine wp_region_L (fun W => W.cell? ⟨G, 2, none⟩ = some (.slice la L.length lc) ∧ W.cell? ⟨w.heap.size, 0, none⟩ = some (.int .i64 x0) ∧ W.cell? ⟨w.heap.size, 1, none⟩ = some (.int .i64 x1) ∧ W.cell? ⟨w.heap.size, 2, none⟩ = some (.int .i64 x2)) 10 (by kernel_rfl) 11 rfl ?_
  refine tk (i := 0) (v := ?_) (oi := ⟨some 10, .move (.tmp 0), 82, "grower.go:38", #[], none⟩) HSD ?_ ?_
  rotate_left
  · intro W hSW
    go_simp
    try with_reducible rfl
  simp only [Act.put, sA, s0, sS]
  refine tk (i := 1) (v := ?_) (oi := ⟨some 11, .move (.tmp 0), 82, "grower.go:38", #[], none⟩) HSD ?_ ?_
  rotate_left
  · intro W hSW
    go_simp
    try with_reducible rfl
  simp only [Act.put, sA, s0, sS]
  refine tk (i := 2) (v := ?_) (oi := ⟨some 12, .nilCheck (.tmp 11), 0, "grower.go:38", #[⟨1, .data⟩], none⟩) HSD ?_ ?_
  rotate_left
  · intro W hSW
    go_simp
    try with_reducible rfl
  simp only [Act.put, sA, s0, sS]
  refine tk (i := 3) (v := ?_) (oi := ⟨some 13, .fieldAddr 103 (.tmp 12) 2, 0, "grower.go:38", #[⟨2, .data⟩], none⟩) HSD ?_ ?_
  rotate_left
  · intro W hSW
    go_simp
    try with_reducible rfl
  simp only [Act.put, sA, s0, sS]
  refine tk (i := 4) (v := ?_) (oi := ⟨some 14, .load 26 (.tmp 13), 26, "grower.go:38", #[⟨3, .data⟩], none⟩) HSD ?_ ?_
  rotate_left
  · intro W hSW
    go_simp
    try with_reducible rfl
  simp only [Act.put, sA, s0, sS]
  refine tk (i := 5) (v := ?_) (oi := ⟨some 15, .load 30 (.tmp 3), 30, "grower.go:38", #[], none⟩) HSD ?_ ?_
  rotate_left
  · intro W hSW
    go_simp
    try with_reducible rfl
  simp only [Act.put, sA, s0, sS]
  refine wpAnyL_one' (i := 6) (o := ⟨some 16, .buildSlice 26 1 #[(0, .tmp 15)], 26, "grower.go:38", #[⟨5, .data⟩], none⟩) (by kernel_rfl) rfl rfl (fun K hK => ?_)
  go_simp
  refine hK.out _ _ (fun _ => HSN) ?_
  clear hK
  refine wpAnyL_one' (i := 7) (o := ⟨some 17, .call ⟨.builtin .append, #[.tmp 14, .tmp 16], #[26, 26]⟩, 26, "grower.go:38", #[⟨4, .data⟩, ⟨6, .data⟩], none⟩) (by kernel_rfl) rfl rfl (fun K hK => ?_)
  rw [if_pos (by rfl)]
  refine wp_append_ownq (.tmp 14) (.tmp 16) 26 rfl (G + 1) 30 i0 _ 3 24 Tryz.underlying26 hi0 hz0 hz1 hz2 rfl (by decide) _ L.length _ rfl HON.out ⟨W1.heap.size, 0, none⟩ 1 (encR (x0, x1, x2)) rfl rfl (new_cellR W1.drew (x0, x1, x2) _) (one_encR _) (by unfold maxLen; omega) (by omega) hszn ?_
  intro v5 w5 hown5 hg5 hv5
  obtain ⟨a5, c5, rfl⟩ := slice_of_ownK hown5
  have hg5' : (W1.drew.alloc (Obj.cells #[.int .i64 x0, .int .i64 x1, .int .i64 x2] 30)).grownBy w5 (Value.slice la L.length lc).ownBlock := hg5
  have BT : But (fun k => (Value.slice la L.length lc).ownBlock = some k) W1 w5 := (But.of_next Bn).trans ⟨hg5'.os, hg5'.tape, hg5'.output, hg5'.size, fun k hk hd => hg5'.block k hk (fun e => hd e.symm)⟩
  have HV5 : Hid (∀ k, (Value.slice a5 (L.length + 1) c5).ownBlock = some k → (Value.slice la L.length lc).ownBlock = some k ∨ W1.heap.size ≤ k) := fun k e => (hv5 k e).imp id (fun h => Nat.le_trans (Bn.size) h)
  clear hv5
  have HO5 : Hid (OwnL (G + 1) (L ++ [(x0, x1, x2)]) (.slice a5 (L.length + 1) c5) w5) := OwnL.more hown5
  have hS5 := HS2.out _ BT
  have fz5 : w5.frozen? ⟨G, 2, none⟩ = false := (BT.frozen (p := ⟨G, 2, none⟩) hG1 (fun e => by have := HOL.out _ e; simp only at this; omega)).trans hfz1
  refine hK.out _ _ (fun _ => hS5) ?_
  clear hK hown5 hg5
  simp only [Act.put, sA, s0, sS]
  refine wpAnyL_one' (i := 8) (o := ⟨some 18, .nilCheck (.tmp 10), 0, "grower.go:38", #[⟨0, .data⟩, ⟨0, .phase⟩, ⟨1, .phase⟩, ⟨2, .phase⟩, ⟨3, .phase⟩, ⟨4, .phase⟩, ⟨5, .phase⟩, ⟨6, .phase⟩, ⟨7, .phase⟩], none⟩) (by kernel_rfl) rfl rfl (fun K hK => ?_)
  go_simp
  refine hK.out _ _ (fun _ => hS5) ?_
  clear hK
  refine wpAnyL_one' (i := 9) (o := ⟨some 19, .fieldAddr 103 (.tmp 18) 2, 0, "grower.go:38", #[⟨8, .data⟩, ⟨0, .phase⟩, ⟨1, .phase⟩, ⟨2, .phase⟩, ⟨3, .phase⟩, ⟨4, .phase⟩, ⟨5, .phase⟩, ⟨6, .phase⟩, ⟨7, .phase⟩], none⟩) (by kernel_rfl) rfl rfl (fun K hK => ?_)
  go_simp
  refine hK.out _ _ (fun _ => hS5) ?_
  clear hK
  refine wpAnyL_one' (i := 10) (o := ⟨none, .store 26 (.tmp 19) (.tmp 17), 0, "grower.go:38", #[⟨9, .data⟩, ⟨7, .data⟩, ⟨7, .chain⟩, ⟨0, .phase⟩, ⟨1, .phase⟩, ⟨2, .phase⟩, ⟨3, .phase⟩, ⟨4, .phase⟩, ⟨5, .phase⟩, ⟨6, .phase⟩, ⟨7, .phase⟩], none⟩) (by kernel_rfl) rfl rfl (fun K hK => ?_)
  go_simp
  refine hK.out _ _ (fun h => absurd h (by decide)) ?_
  clear hK
  refine wpAnyL_done (by kernel_rfl) ?_ _
  have hw5 : w5.heap.size ≤ (w5.setCell ⟨G, 2, none⟩ (.slice a5 (L.length + 1) c5)).heap.size := by simp [World.setCell]
  have BS : But (fun k => k = G) w5 (w5.setCell ⟨G, 2, none⟩ (.slice a5 (L.length + 1) c5)) := (But.refl _ _).setCell _ _ (.inr rfl)
  have HF : Hid (GS Bi Bc Bb G V (.slice a5 (L.length + 1) c5) (L ++ [(x0, x1, x2)]) C S (w5.setCell ⟨G, 2, none⟩ (.slice a5 (L.length + 1) c5)) ∧ Apt P Bi Bc Bb G (.slice a5 (L.length + 1) c5) (w5.setCell ⟨G, 2, none⟩ (.slice a5 (L.length + 1) c5)) ∧ But (fun k => ¬ P k) w (w5.setCell ⟨G, 2, none⟩ (.slice a5 (L.length + 1) c5))) := by
    have oc : ∀ {o : Nat} {v : Value}, o ≠ 2 → w0.cell? ⟨G, o, none⟩ = some v → (w5.setCell ⟨G, 2, none⟩ (.slice a5 (L.length + 1) c5)).cell? ⟨G, o, none⟩ = some v := fun {o v} ho hv => by
      rw [World.cell?_setCell_other _ _ _ _ (fun e => ho (by cases e; rfl)), BT.cell (p := ⟨G, o, none⟩) hG1 (fun e => by have := HOL.out _ e; simp only at this; omega)]
      exact HG1.out hv
    have hg := HGG.out
    exact ⟨⟨hdst.1, hdst.2.1, hdst.2.2, Nat.lt_of_lt_of_le (Nat.lt_of_lt_of_le hG1 BT.size) hw5, oc (by omega) hg.1, oc (by omega) hg.2.1, World.cell?_setCell_same _ _ _ hS5.1, oc (by omega) hg.2.2.1, oc (by omega) hg.2.2.2, by rw [World.frozen?_setCell]; exact fz5, (HM1.out.but BT (fun e => by have := HOL.out _ e; omega)).but BS (by omega), (HMC.out.but BT (fun e => by have := HOL.out _ e; omega)).but BS (by omega), (HMB.out.but BT (fun e => by have := HOL.out _ e; omega)).but BS (by omega), ownsRow_but HO5.out BS (fun j hj _ => by omega)⟩, ⟨fun k hk => ⟨Nat.lt_of_lt_of_le (HAP.out.1 k hk).1 (Nat.le_trans HB1.out.size (Nat.le_trans BT.size hw5)), (HAP.out.1 k hk).2⟩, fun k e hp => (HV5.out k e).elim (fun h => HAP.out.2 k h hp) (fun h => by have := (HAP.out.1 k hp).1; have := HB1.out.size; omega)⟩, (HB1.out.trans (BT.mono (fun k _ hk hp => HAP.out.2 k hk hp))).trans (BS.mono (fun k _ hk hp => (HAP.out.1 k hp).2.2.2.2 hk))⟩
  clear HS2 HON HGG HMC HMB HM1 HO1 HG1 HO5 BT BS hS5 fz5 HSN HSD hg5' hg21 hfz1 z0 z1 z2 Bn
  go_wp2_with fail
  go_end0
  exact ⟨rfl, _, by rw [hadd]; exact HF.out.1, HF.out.2⟩
end Go.Proofs.YtlaplmmicccbcaaGreatDoor
/- newGrower, begin. -/
namespace Go.Proofs.YtlaplmmicccbcaaGreatDoor
open Go.RowKit

def NewG (V : Nat) (w : World) (e : Ending) (w' : World) : Prop := ∃ Bi Bc Bb G, e = .returned (.pointer (some ⟨G, 0, none⟩)) ∧ w.heap.size ≤ Bi ∧ GS Bi Bc Bb G V (.slice none 0 0) [] [] [] w' ∧ Below w.heap.size w w'

theorem cells5 (W : World) (n : Nat) (a0 a1 a2 a3 a4 : Value) (ty : TypeId) (h : W.heap.size = n) :
    (W.alloc (Obj.cells #[a0, a1, a2, a3, a4] ty)).cell? ⟨n, 0, none⟩ = some a0 ∧ (W.alloc (Obj.cells #[a0, a1, a2, a3, a4] ty)).cell? ⟨n, 1, none⟩ = some a1 ∧ (W.alloc (Obj.cells #[a0, a1, a2, a3, a4] ty)).cell? ⟨n, 2, none⟩ = some a2 ∧ (W.alloc (Obj.cells #[a0, a1, a2, a3, a4] ty)).cell? ⟨n, 3, none⟩ = some a3 ∧ (W.alloc (Obj.cells #[a0, a1, a2, a3, a4] ty)).cell? ⟨n, 4, none⟩ = some a4 ∧ (W.alloc (Obj.cells #[a0, a1, a2, a3, a4] ty)).frozen? ⟨n, 2, none⟩ = false := by
  subst h
  refine ⟨?_, ?_, ?_, ?_, ?_, ?_⟩ <;> simp
set_option maxRecDepth 100000 in
set_option maxHeartbeats 1000000 in
theorem newGrower_any (V : Nat) (w : World) : Calls Tryz.prog 60 #[.pointer (some ⟨V, 0, none⟩)] w fun e w' => NewG V w e w' := by
  go_enter Tryz.func60, Tryz.ntmps60
  go_wp2_with fail
  simp only [run_makeMap, Result.andThen]
  go_wp2_with fail
  simp only [run_makeMap, Result.andThen]
  go_wp2_with fail
  simp only [run_makeMap, Result.andThen]
  go_wp2_with fail
  go_ret
  have hs1 : (w.alloc (Obj.map #[] 0)).heap.size = w.heap.size + 1 := by simp
  have hs2 : ((w.alloc (Obj.map #[] 0)).alloc (Obj.map #[] 0)).heap.size = w.heap.size + 1 + 1 := by simp
  have hs3 : (((w.alloc (Obj.map #[] 0)).alloc (Obj.map #[] 0)).alloc (Obj.map #[] 0)).heap.size = w.heap.size + 1 + 1 + 1 := by simp
  have m1 := MapSet.made 30 valR w
  have m2 := MapSet.made 130 val2 (w.alloc (Obj.map #[] 0))
  have m3 := MapSet.made 110 val2 ((w.alloc (Obj.map #[] 0)).alloc (Obj.map #[] 0))
  rw [hs1] at m2
  rw [hs2] at m3
  have al : ∀ (W : World) (o : Obj), But (fun _ => False) W (W.alloc o) := fun W o => But.of_next ((Below.refl _ _).alloc (Nat.le_refl _) _)
  have bl : ∀ (W : World) (o : Obj), w.heap.size ≤ W.heap.size → Below w.heap.size w W → Below w.heap.size w (W.alloc o) := fun W o hs hb => hb.alloc hs _
  have hc := cells5 (((w.alloc (Obj.map #[] 0)).alloc (Obj.map #[] 0)).alloc (Obj.map #[] 0)) _ (.pointer (some ⟨V, 0, none⟩)) (.map (some w.heap.size)) (.slice none 0 0) (.map (some (w.heap.size + 1))) (.map (some (w.heap.size + 1 + 1))) 103 hs3
  refine ⟨w.heap.size, w.heap.size + 1, w.heap.size + 1 + 1, w.heap.size + 1 + 1 + 1, rfl, Nat.le_refl _, ⟨by omega, by omega, by omega, by simp, hc.1, hc.2.1, hc.2.2.1, hc.2.2.2.1, hc.2.2.2.2.1, hc.2.2.2.2.2, ((m1.but (al _ _) id).but (al _ _) id).but (al _ _) id, (m2.but (al _ _) id).but (al _ _) id, m3.but (al _ _) id, OwnL.nil _ _⟩, ?_⟩
  exact bl _ _ (by simp; omega) (bl _ _ (by simp; omega) (bl _ _ (by simp) (bl _ _ (Nat.le_refl _) (Below.refl _ _))))
end Go.Proofs.YtlaplmmicccbcaaGreatDoor
/- begin. -/
namespace Go.Proofs.YtlaplmmicccbcaaGreatDoor
open Go.RowKit

/-- A symbol's productions, put behind. -/
def begI (f : Fl) (L : List Ir) (sy : Nat) (t : Int) : List Ir := (ofA f (sy : Int)).foldl (fun (L : List Ir) (q : Int) => addI L (q, 0, t)) L
def begL1 (f : Fl) (L : List Ir) (S : List (Int × Int)) (sy : Nat) (t : Int) : List Ir := if ((sy : Int), t) ∈ S then L else begI f L sy t
def begS (S : List (Int × Int)) (sy : Nat) (t : Int) : List (Int × Int) := if ((sy : Int), t) ∈ S then S else S ++ [((sy : Int), t)]
theorem addI_len (L : List Ir) (x : Ir) : (addI L x).length ≤ L.length + 1 := by unfold addI; split <;> simp
theorem foldI_len (t : Int) : ∀ (Q : List Int) (L : List Ir), (Q.foldl (fun (L : List Ir) (q : Int) => addI L (q, 0, t)) L).length ≤ L.length + Q.length
  | [], L => by simp
  | q :: Q, L => by
    rw [List.foldl_cons]
    have h1 := foldI_len t Q (addI L (q, 0, t))
    have h2 := addI_len L (q, 0, t)
    simp only [List.length_cons]
    omega
theorem foldI_take {Q : List Int} {t : Int} {L : List Ir} {j : Nat} (h : j < Q.length) : (Q.take (j + 1)).foldl (fun (L : List Ir) (q : Int) => addI L (q, 0, t)) L = addI ((Q.take j).foldl (fun (L : List Ir) (q : Int) => addI L (q, 0, t)) L) (Q[j], 0, t) := by
  rw [List.take_succ_eq_append_getElem h, List.foldl_append]
  rfl
theorem SBox (x y : Int) (ty : TypeId) (w : World) : w.heap.size < (w.alloc (Obj.cells #[.int .i64 x, .int .i64 y] ty)).heap.size ∧ (w.alloc (Obj.cells #[.int .i64 x, .int .i64 y] ty)).cell? ⟨w.heap.size, 0, none⟩ = some (.int .i64 x) ∧ (w.alloc (Obj.cells #[.int .i64 x, .int .i64 y] ty)).cell? ⟨w.heap.size, 1, none⟩ = some (.int .i64 y) := by
  refine ⟨?_, ?_, ?_⟩ <;> simp
theorem mem_ofA_ok {f : Fl} {s q : Int} (h : q ∈ ofA f s) (hf : f.prods.length ≤ 1000) : i64B q := by
  obtain ⟨k, p, rfl, hk, _⟩ := mem_ofA.1 h
  have := (List.getElem?_eq_some_iff.1 hk).1
  unfold i64B; omega
theorem ofsL_get {f : Fl} {s n : Nat} (h : s < n) : (ofsL f n)[s]? = some (ofA f (s : Int)) := by unfold ofsL; simp [h]
theorem ofA_short (f : Fl) (s : Int) : (ofA f s).length ≤ f.prods.length := by
  unfold ofA ofL
  rw [List.length_map]
  refine Nat.le_trans (List.length_filter_le _ _) ?_
  simp

set_option maxRecDepth 100000 in
set_option maxHeartbeats 2000000 in
theorem gbegin_any (P : Nat → Prop) (f : Fl) (a : FlA) (Le : List Bool) (R : List (List Int)) (wv : World) (Bi Bc Bb G V : Nat) (lv : Value) (L : List Ir) (C S : List (Int × Int)) (sy : Nat) (t : Int) (w : World)
    (h : GS Bi Bc Bb G V lv L C S w) (hv : VwAt f a V Le R wv) (hwv : wv.heap.size ≤ Bi) (hB : Below wv.heap.size wv w) (hPB : ∀ k, k < Bi → P k) (hP : Apt P Bi Bc Bb G lv w) (hsy : sy < f.n) (ht : i64B t) (hf : f.prods.length ≤ 1000) (hn : f.n ≤ 600) (hl : L.length + 1000 < 100000000) (hS : S.length < 100000000) :
    Calls Tryz.prog 75 #[.pointer (some ⟨G, 0, none⟩), .agg #[.int .i64 sy, .int .i64 t]] w fun e w' => Grown P Bi Bc Bb G V (begL1 f L S sy t) C (begS S sy t) w e w' := by
  have Bx : Below w.heap.size w (w.alloc (Obj.cells #[.int .i64 sy, .int .i64 t] 110)) := (Below.refl _ _).alloc (Nat.le_refl _) _
  have X0 := SBox (sy : Int) t 110 w
  have hG := h.lt
  have hdst := And.intro h.o1 (And.intro h.o2 h.o3)
  have HH : Hid (GS Bi Bc Bb G V lv L C S (w.alloc (Obj.cells #[.int .i64 sy, .int .i64 t] 110))) := h.next Bx
  have hok : ok2 ((sy : Int), t) := ⟨by unfold i64B; omega, ht⟩
  have HAP : Hid (Apt P Bi Bc Bb G lv w) := hP
  have HOL : Hid (∀ k, lv.ownBlock = some k → k < w.heap.size) := fun k e => (World.ownsRow.lt h.own k e).2
  have HPB : Hid (∀ k, k < Bi → P k) := hPB
  obtain ⟨hvb, ve, vf, vp, v3, v4, v5, _, _, v6⟩ := hv
  have hVl := hvb.1
  obtain ⟨pa', pc, rfl, hrows, _⟩ := v6
  rw [ofsL_len] at v5
  obtain ⟨pb, po, u, rfl, hpb, hrc, hru⟩ := hrows sy _ (ofsL_get hsy)
  obtain ⟨PL, hPL⟩ : ∃ PL, ofA f (sy : Int) = PL := ⟨_, rfl⟩
  have HLE : Hid (PL.length ≤ 1000) := by rw [← hPL]; exact Nat.le_trans (ofA_short _ _) hf
  have HOK : Hid (∀ q ∈ PL, i64B q) := by rw [← hPL]; exact fun q hq => mem_ofA_ok hq hf
  rw [hPL] at hru
  obtain ⟨ra, rc, rfl, hrow, _⟩ := hru
  have HBG : Hid (begI f L sy t = PL.foldl (fun (L : List Ir) (q : Int) => addI L (q, 0, t)) L) := by rw [← hPL]; rfl
  clear hPL h hP hPB hvb hrows v3 v4
  -- what the view has, in each world that leaves its blocks
  have HVW : Hid (∀ W, Below Bi w W → W.cell? ⟨V, 5, none⟩ = some (.slice (some ⟨pb, po, none⟩) f.n pc) ∧ W.cell? ⟨pb, po + sy, none⟩ = some (.slice ra PL.length rc) ∧ RowAt encI PL ra W ∧ V < Bi ∧ pb < Bi) := fun W hb => by
    have hb' : Below wv.heap.size wv W := hB.trans (hb.mono hwv)
    exact ⟨(hb'.cell (p := ⟨V, 5, none⟩) hVl).trans v5, (hb'.cell (p := ⟨pb, po + sy, none⟩) hpb).trans hrc, hrow.next hb', by omega, by omega⟩
  clear hrow hrc v5 hpb hVl hB
  go_enter Tryz.func75, Tryz.ntmps75
  go_wp2_with fail
  generalize w.alloc (Obj.cells #[.int .i64 sy, .int .i64 t] 110) = w0 at *
  obtain ⟨hwl, y0, y1⟩ := X0
  have HS0 : (w0.drew.cell? ⟨G, 4, none⟩ = some (.map (some Bb)) ∧ w0.drew.cell? ⟨w.heap.size, 0, none⟩ = some (.int .i64 sy) ∧ w0.drew.cell? ⟨w.heap.size, 1, none⟩ = some (.int .i64 t)) := ⟨HH.out.g4, y0, y1⟩
  have HN := isNewS_any Bb S ((sy : Int), t) w0.drew (HH.out.next (Below.refl _ _).drew).mb hok hS
  unfold val2 at HN
  simp only at HN
  have hsz := Bx.size
  refine wp_region_L (fun W => W.cell? ⟨G, 4, none⟩ = some (.map (some Bb)) ∧ W.cell? ⟨w.heap.size, 0, none⟩ = some (.int .i64 sy) ∧ W.cell? ⟨w.heap.size, 1, none⟩ = some (.int .i64 t)) 7 (by kernel_rfl) 7 rfl ?_
  refine tk (i := 0) (v := ?_) (oi := ⟨some 6, .move (.tmp 0), 82, "grower.go:60", #[], none⟩) HS0 ?_ ?_
  rotate_left
  · intro W hSW
    go_simp
    try with_reducible rfl
  simp only [Act.put, sA, s0, sS]
  refine tk (i := 1) (v := ?_) (oi := ⟨some 7, .nilCheck (.tmp 6), 0, "grower.go:60", #[⟨0, .data⟩], none⟩) HS0 ?_ ?_
  rotate_left
  · intro W hSW
    go_simp
    try with_reducible rfl
  simp only [Act.put, sA, s0, sS]
  refine tk (i := 2) (v := ?_) (oi := ⟨some 8, .fieldAddr 103 (.tmp 7) 4, 0, "grower.go:60", #[⟨1, .data⟩], none⟩) HS0 ?_ ?_
  rotate_left
  · intro W hSW
    go_simp
    try with_reducible rfl
  simp only [Act.put, sA, s0, sS]
  refine tk (i := 3) (v := ?_) (oi := ⟨some 9, .load 101 (.tmp 8), 101, "grower.go:60", #[⟨2, .data⟩], none⟩) HS0 ?_ ?_
  rotate_left
  · intro W hSW
    go_simp
    try with_reducible rfl
  simp only [Act.put, sA, s0, sS]
  refine tk (i := 4) (v := ?_) (oi := ⟨some 10, .load 110 (.tmp 3), 110, "grower.go:60", #[], none⟩) HS0 ?_ ?_
  rotate_left
  · intro W hSW
    go_simp
    try with_reducible rfl
  simp only [Act.put, sA, s0, sS]
  refine wpAnyL_one' (i := 5) (o := ⟨some 11, .call ⟨.value (.func 95), #[.tmp 9, .tmp 10], #[101, 110]⟩, 4, "grower.go:60", #[⟨3, .data⟩, ⟨4, .data⟩], none⟩) (by kernel_rfl) rfl rfl (fun K hK => ?_)
  go_simp
  refine HN.mono ?_
  rintro e W1 ⟨rfl, hM1, hb1⟩
  have hb1' : But (fun k => k = Bb) w0 W1 := (But.refl _ _).drew.trans hb1
  have cw : ∀ {b o : Nat} {v : Value}, b ≠ Bb → w0.cell? ⟨b, o, none⟩ = some v → W1.cell? ⟨b, o, none⟩ = some v := fun {b o v} hbn hv => (hb1'.cell (p := ⟨b, o, none⟩) (World.block_lt_of_cell? _ _ hv) hbn).trans hv
  have hS1 : (W1.cell? ⟨G, 4, none⟩ = some (.map (some Bb)) ∧ W1.cell? ⟨w.heap.size, 0, none⟩ = some (.int .i64 sy) ∧ W1.cell? ⟨w.heap.size, 1, none⟩ = some (.int .i64 t)) := ⟨cw (by omega) HH.out.g4, cw (by omega) y0, cw (by omega) y1⟩
  refine hK.out _ _ (fun _ => hS1) ?_
  clear hK HN
  refine tk (i := 6) (v := ?_) (oi := ⟨some 12, .unOp .not 4 (.tmp 11), 4, "grower.go:60", #[⟨5, .data⟩], none⟩) hS1 ?_ ?_
  rotate_left
  · intro W hSW
    go_simp
    try with_reducible rfl
  simp only [Act.put, sA, s0, sS]
  refine wpAnyL_done (by kernel_rfl) ?_ _
  have HG1 : Hid (GS Bi Bc Bb G V lv L C (begS S sy t) W1) := by
    have h := HH.out
    have hm : MapSet 110 val2 Bb (begS S sy t) W1 := hM1
    exact ⟨h.o1, h.o2, h.o3, Nat.lt_of_lt_of_le h.lt hb1'.size, cw (by omega) h.g0, cw (by omega) h.g1, cw (by omega) h.g2, cw (by omega) h.g3, cw (by omega) h.g4, (hb1'.frozen (p := ⟨G, 2, none⟩) h.lt (by simp only; omega)).trans h.fz, h.mi.but hb1' (by omega), h.mc.but hb1' (by omega), hm, ownsRow_but h.own hb1' (fun j hj _ => by omega)⟩
  have HB1 : Hid (But (fun k => ¬ P k) w W1) := (But.of_next Bx).trans (hb1'.mono (fun k _ hk hp => (HAP.out.1 k hp).2.2.2.1 hk))
  have HBW1 : Below Bi w W1 := (Bx.mono (by omega)).trans (hb1'.below (by omega) (fun k hk => by omega))
  have hs1 : w.heap.size < W1.heap.size := Nat.lt_of_lt_of_le hwl hb1'.size
  by_cases hin : ((sy : Int), t) ∈ S
  · have hdc : decide (((sy : Int), t) ∈ S) = true := by simpa using hin
    have e1 : begS S sy t = S := by unfold begS; rw [if_pos hin]
    have e2 : begL1 f L S sy t = L := by unfold begL1; rw [if_pos hin]
    have HF : Hid (GS Bi Bc Bb G V lv L C S W1 ∧ Apt P Bi Bc Bb G lv W1 ∧ But (fun k => ¬ P k) w W1) := ⟨by have := HG1.out; rwa [e1] at this, HAP.out.next HB1.out.size, HB1.out⟩
    rw [hdc]
    clear HG1 hS1 cw hM1 HH HS0 hdc hin hb1 hb1' HVW HBW1 HBG
    go_wp2_with fail
    refine bodyPost_ret (results_none rfl _ _ _) rfl ?_
    exact ⟨rfl, lv, by rw [e1, e2]; exact HF.out.1, HF.out.2.1, HF.out.2.2⟩
  have hdc : decide (((sy : Int), t) ∈ S) = false := by simpa using hin
  have e2 : Hid (begL1 f L S sy t = PL.foldl (fun (L : List Ir) (q : Int) => addI L (q, 0, t)) L) := by show begL1 f L S sy t = _; unfold begL1; rw [if_neg hin]; exact HBG.out
  rw [hdc]
  simp only [Bool.not_false]
  obtain ⟨k5, kr, _, hVB, hpB⟩ := HVW.out _ HBW1
  have z0 := hS1.2.1
  have z1 := hS1.2.2
  have hg0 := HG1.out.g0
  have hS2 : (W1.drew.cell? ⟨G, 0, none⟩ = some (.pointer (some ⟨V, 0, none⟩)) ∧ W1.drew.cell? ⟨V, 5, none⟩ = some (.slice (some ⟨pb, po, none⟩) f.n pc) ∧ W1.drew.cell? ⟨pb, po + sy, none⟩ = some (.slice ra PL.length rc) ∧ W1.drew.cell? ⟨w.heap.size, 0, none⟩ = some (.int .i64 sy) ∧ W1.drew.cell? ⟨w.heap.size, 1, none⟩ = some (.int .i64 t)) := ⟨hg0, k5, kr, z0, z1⟩
  have hsyn : (sy : Int) < f.n := by omega
  obtain ⟨S', hS'⟩ : ∃ S', begS S sy t = S' := ⟨_, rfl⟩
  have HSE : Hid (begS S sy t = S') := hS'
  rw [hS'] at HG1
  clear hS' hS1 cw hM1 HH HS0 hdc hin hb1 hb1' HBG
  have HAP1 : Hid (Apt (fun k => P k ∨ k = w.heap.size) Bi Bc Bb G lv W1) := ⟨fun k hk => by
      rcases hk with hk | hk
      · exact ⟨Nat.lt_of_lt_of_le (HAP.out.1 k hk).1 (by omega), (HAP.out.1 k hk).2⟩
      · subst hk; exact ⟨hs1, by omega, by omega, by omega, by omega⟩, fun k e hk => by
      rcases hk with hk | hk
      · exact HAP.out.2 k e hk
      · have := HOL.out k e; omega⟩
  go_wp2_with fail
  refine wp_region_L (fun W => W.cell? ⟨G, 0, none⟩ = some (.pointer (some ⟨V, 0, none⟩)) ∧ W.cell? ⟨V, 5, none⟩ = some (.slice (some ⟨pb, po, none⟩) f.n pc) ∧ W.cell? ⟨pb, po + sy, none⟩ = some (.slice ra PL.length rc) ∧ W.cell? ⟨w.heap.size, 0, none⟩ = some (.int .i64 sy) ∧ W.cell? ⟨w.heap.size, 1, none⟩ = some (.int .i64 t)) 13 (by kernel_rfl) 13 rfl ?_
  refine tk (i := 0) (v := ?_) (oi := ⟨some 13, .move (.tmp 0), 82, "grower.go:63", #[], none⟩) hS2 ?_ ?_
  rotate_left
  · intro W hSW
    go_simp
    try with_reducible rfl
  simp only [Act.put, sA, s0, sS]
  refine tk (i := 1) (v := ?_) (oi := ⟨some 14, .nilCheck (.tmp 13), 0, "grower.go:63", #[⟨0, .data⟩], none⟩) hS2 ?_ ?_
  rotate_left
  · intro W hSW
    go_simp
    try with_reducible rfl
  simp only [Act.put, sA, s0, sS]
  refine tk (i := 2) (v := ?_) (oi := ⟨some 15, .fieldAddr 103 (.tmp 14) 0, 0, "grower.go:63", #[⟨1, .data⟩], none⟩) hS2 ?_ ?_
  rotate_left
  · intro W hSW
    go_simp
    try with_reducible rfl
  simp only [Act.put, sA, s0, sS]
  refine tk (i := 3) (v := ?_) (oi := ⟨some 16, .load 65 (.tmp 15), 65, "grower.go:63", #[⟨2, .data⟩], none⟩) hS2 ?_ ?_
  rotate_left
  · intro W hSW
    go_simp
    try with_reducible rfl
  simp only [Act.put, sA, s0, sS]
  refine tk (i := 4) (v := ?_) (oi := ⟨some 17, .nilCheck (.tmp 16), 0, "grower.go:63", #[⟨3, .data⟩], none⟩) hS2 ?_ ?_
  rotate_left
  · intro W hSW
    go_simp
    try with_reducible rfl
  simp only [Act.put, sA, s0, sS]
  refine tk (i := 5) (v := ?_) (oi := ⟨some 18, .fieldAddr 75 (.tmp 17) 3, 0, "grower.go:63", #[⟨4, .data⟩], none⟩) hS2 ?_ ?_
  rotate_left
  · intro W hSW
    go_simp
    try with_reducible rfl
  simp only [Act.put, sA, s0, sS]
  refine tk (i := 6) (v := ?_) (oi := ⟨some 19, .load 61 (.tmp 18), 61, "grower.go:63", #[⟨5, .data⟩], none⟩) hS2 ?_ ?_
  rotate_left
  · intro W hSW
    go_simp
    try with_reducible rfl
  simp only [Act.put, sA, s0, sS]
  refine tk (i := 7) (v := ?_) (oi := ⟨some 20, .fieldAddr 110 (.tmp 3) 0, 0, "grower.go:63", #[], none⟩) hS2 ?_ ?_
  rotate_left
  · intro W hSW
    go_simp
    try with_reducible rfl
  simp only [Act.put, sA, s0, sS]
  refine tk (i := 8) (v := ?_) (oi := ⟨some 21, .load 3 (.tmp 20), 3, "grower.go:63", #[⟨7, .data⟩], none⟩) hS2 ?_ ?_
  rotate_left
  · intro W hSW
    go_simp
    try with_reducible rfl
  simp only [Act.put, sA, s0, sS]
  refine tk (i := 9) (v := ?_) (oi := ⟨some 22, .indexAddr 61 (.tmp 19) (.tmp 21), 0, "grower.go:63", #[⟨6, .data⟩, ⟨8, .data⟩], none⟩) hS2 ?_ ?_
  rotate_left
  · intro W hSW
    go_simp
    try with_reducible rfl
  simp only [Act.put, sA, s0, sS]
  refine tk (i := 10) (v := ?_) (oi := ⟨some 23, .load 47 (.tmp 22), 47, "grower.go:63", #[⟨9, .data⟩], none⟩) hS2 ?_ ?_
  rotate_left
  · intro W hSW
    go_simp
    try with_reducible rfl
  simp only [Act.put, sA, s0, sS]
  refine tk (i := 11) (v := ?_) (oi := ⟨some 24, .call ⟨.builtin .len, #[.tmp 23], #[47]⟩, 3, "grower.go:63", #[⟨10, .data⟩], none⟩) hS2 ?_ ?_
  rotate_left
  · intro W hSW
    go_simp
    try with_reducible rfl
  simp only [Act.put, sA, s0, sS]
  refine tk (i := 12) (v := ?_) (oi := ⟨some 25, .move (.const (.int .i64 0)), 3, "grower.go:63", #[], none⟩) hS2 ?_ ?_
  rotate_left
  · intro W hSW
    go_simp
    try with_reducible rfl
  simp only [Act.put, sA, s0, sS]
  refine wpAnyL_done (by kernel_rfl) ?_ _
  clear hS2 k5 kr hg0
  go_wp2_with fail
  go_loopw [25] (fun i wr => ∃ (j : Nat) (lv' : Value), i = .int .i64 j ∧ j ≤ PL.length ∧ GS Bi Bc Bb G V lv' ((PL.take j).foldl (fun (L : List Ir) (q : Int) => addI L (q, 0, t)) L) C S' wr ∧ Apt (fun k => P k ∨ k = w.heap.size) Bi Bc Bb G lv' wr ∧ But (fun k => ¬ (P k ∨ k = w.heap.size)) W1 wr) (fun i _ => PL.length - (intOf i).toNat)
  case atStart => exact ⟨0, lv, rfl, Nat.zero_le _, HG1.out.next (Below.refl _ _).drew, HAP1.out, (But.refl _ _).drew⟩
  case round =>
  obtain ⟨j, lv', rfl, hj, hGS, hAp, hBt⟩ := hrel
  have hBw : Below Bi w wr := HBW1.trans (hBt.below (by omega) (fun k hk => Nat.le_of_not_lt (fun h => hk (.inl (HPB.out k h)))))
  have x1 : wr.cell? ⟨w.heap.size, 1, none⟩ = some (.int .i64 t) := (hBt.cell (p := ⟨w.heap.size, 1, none⟩) hs1 (fun h => h (.inr rfl))).trans z1
  have hle := HLE.out
  by_cases hlt : j < PL.length
  · obtain ⟨_, _, hrow, _, _⟩ := HVW.out _ hBw
    obtain ⟨rb, ro, rfl, hrb, hc⟩ := hrow j PL[j] (by simp [hlt])
    have hT := foldI_take (t := t) (L := L) hlt
    have hLn := foldI_len t (PL.take j) L
    have hok := HOK.out PL[j] (by simp)
    generalize PL[j] = q at *
    have HT : Hid ((PL.take (j + 1)).foldl (fun (L : List Ir) (q : Int) => addI L (q, 0, t)) L = addI ((PL.take j).foldl (fun (L : List Ir) (q : Int) => addI L (q, 0, t)) L) (q, 0, t)) := hT
    have hP1 := gput_any _ Bi Bc Bb G V lv' _ C S' (q, 0, t) wr hGS ⟨hok, (show i64B 0 by unfold i64B; omega), ht⟩ hAp (by have h1 := HLE.out; have h2 : (PL.take j).length ≤ PL.length := (by rw [List.length_take]; exact Nat.min_le_right _ _); omega)
    unfold valR at hP1
    simp only at hP1
    rw [← hT] at hP1
    clear hT hrow hLn hGS hAp HG1 HAP1
    simp only [encI] at hc
    go_wp2_with fail
    refine hP1.mono ?_
    rintro e W3 ⟨rfl, lv2, g2, a2, b2⟩
    have HF : Hid (GS Bi Bc Bb G V lv2 ((PL.take (j + 1)).foldl (fun (L : List Ir) (q : Int) => addI L (q, 0, t)) L) C S' W3 ∧ Apt (fun k => P k ∨ k = w.heap.size) Bi Bc Bb G lv2 W3 ∧ But (fun k => ¬ (P k ∨ k = w.heap.size)) W1 W3) := ⟨g2, a2, hBt.trans b2⟩
    clear g2 a2 b2 hP1 hc
    go_wp2_with fail
    exact ⟨⟨j + 1, lv2, by go_num, by omega, HF.out⟩, by simp [intOf]; omega⟩
  · obtain rfl : j = PL.length := by omega
    rw [List.take_of_length_le (Nat.le_refl _)] at hGS
    have HF : Hid (GS Bi Bc Bb G V lv' (PL.foldl (fun (L : List Ir) (q : Int) => addI L (q, 0, t)) L) C S' wr ∧ Apt P Bi Bc Bb G lv' wr ∧ But (fun k => ¬ P k) w wr) := ⟨hGS, ⟨fun k hk => hAp.1 k (.inl hk), fun k e hk => hAp.2 k e (.inl hk)⟩, HB1.out.trans (hBt.mono (fun k _ hk hp => hk (.inl hp)))⟩
    clear hGS hAp HG1 HAP1
    go_wp2_with fail
    go_end0
    exact ⟨rfl, lv', by rw [e2.out, HSE.out]; exact HF.out.1, HF.out.2.1, HF.out.2.2⟩
end Go.Proofs.YtlaplmmicccbcaaGreatDoor
/- yieldAll: numbers are handed out, one by one. -/
namespace Go.Proofs.YtlaplmmicccbcaaGreatDoor
open Go.RowKit Go.Shelf
attribute [local go_sem] Oper.semAt_some

set_option maxRecDepth 100000 in
set_option maxHeartbeats 1000000 in
theorem yieldAll_in (n : Nat) (hn : 1 ≤ n) (l N : Nat) (xs : List Int) (xa : Option Addr) (xc : Nat) (Ok : Int → Prop) (Fx : World → Prop) (J : (Nat → Prop) → List Int → World → Prop) (hF : Feeds (n - 1) Tryz.prog l (fun x => #[.int .i64 x]) N Ok Fx J) (A : Nat → Prop) (pre : List Int) (W : World)
    (hJ : J A pre W) (hlen : pre.length + xs.length ≤ N) (hm : xs.length ≤ 1000000) (hOk : ∀ q ∈ xs, Ok q) (hx : ∀ j, j < xs.length → ∃ b off, xa = some ⟨b, off, none⟩ ∧ A b ∧ ∃ q, xs[j]? = some q ∧ W.cell? ⟨b, off + j, none⟩ = some (.int .i64 q)) :
    CallsIn Fence.wide n Tryz.prog 94 #[.slice xa xs.length xc, .func (.yield l) #[] #[]] W fun e W' => e = .returned (.bool true) ∧ J A (pre ++ xs) W' ∧ But (fun k => ¬ A k) W W' := by
  refine callsIn_of_wp Tryz.func94 rfl trivial ?_ rfl
  simp only [Tryz.ntmps94, List.size_toArray, List.length_cons, List.length_nil, Nat.reduceAdd, Nat.reduceSub, Array.replicate_succ, Array.replicate_zero, List.push_toArray, List.append_toArray, List.nil_append, List.cons_append]
  have HF : Hid (Feeds (n - 1) Tryz.prog l (fun x => #[.int .i64 x]) N Ok Fx J) := hF
  have HX : Hid (∀ j, j < xs.length → ∃ b off, xa = some ⟨b, off, none⟩ ∧ A b ∧ ∃ q, xs[j]? = some q ∧ W.cell? ⟨b, off + j, none⟩ = some (.int .i64 q)) := hx
  have HJ : Hid (J A pre W) := hJ
  clear hF hx hJ
  gi_wp2
  gi_loopw [9] (fun i wr => ∃ (j : Nat), i = .int .i64 j ∧ j ≤ xs.length ∧ J A (pre ++ xs.take j) wr ∧ But (fun k => ¬ A k) W wr) (fun i _ => xs.length - (intOf i).toNat)
  case atStart => exact ⟨0, rfl, Nat.zero_le _, by simpa using HJ.out, But.refl _ _⟩
  case round =>
    obtain ⟨j, rfl, hj, hJ, hB⟩ := hrel
    by_cases hlt : j < xs.length
    · obtain ⟨b, off, rfl, hA, q, hq, hc⟩ := HX.out j hlt
      have hbl := World.block_lt_of_cell? _ _ hc
      have hc2 : wr.cell? ⟨b, off + j, none⟩ = some (.int .i64 q) := (hB.cell (p := ⟨b, off + j, none⟩) hbl (fun h => h hA)).trans hc
      have hT : pre ++ xs.take (j + 1) = (pre ++ xs.take j) ++ [q] := by
        rw [List.take_add_one, hq]
        simp
      have HT : Hid (pre ++ xs.take (j + 1) = (pre ++ xs.take j) ++ [q]) := hT
      obtain ⟨fn, tmps, assign, body, hy, hR⟩ := HF.out.yield A (pre ++ xs.take j) q wr hJ (hOk q (List.mem_of_getElem? hq)) (by simp; omega)
      clear hT hc hq hJ HJ
      gi_wp2
      refine hR.mono ?_
      rintro e W3 ⟨rfl, hJ3, hB3⟩
      have HF3 : Hid (J A (pre ++ xs.take (j + 1)) W3 ∧ But (fun k => ¬ A k) W W3) := ⟨by rw [HT.out]; exact hJ3, hB.trans hB3⟩
      clear hJ3 hB3 hR hy hc2
      gi_wp2
      go_roundw
      case rel => exact ⟨j + 1, by go_num, by omega, HF3.out.1, HF3.out.2⟩
      case measure => simp [intOf]; omega
    · obtain rfl : j = xs.length := by omega
      rw [List.take_of_length_le (Nat.le_refl _)] at hJ
      have HF3 : Hid (J A (pre ++ xs) wr ∧ But (fun k => ¬ A k) W wr) := ⟨hJ, hB⟩
      clear hJ HJ HX HF
      gi_wp2
      go_ret
      exact ⟨rfl, HF3.out.1, HF3.out.2⟩
end Go.Proofs.YtlaplmmicccbcaaGreatDoor
/- looks: what it hands out; right, once more: where it lies. -/
namespace Go.Proofs.YtlaplmmicccbcaaGreatDoor
open Go.RowKit

theorem SlT.lt {l : List It} {ad : Addr} {n c : Nat} {W : World} (h : SlT l (.slice (some ad) n c) W) (hl : l ≠ []) : ad.block < W.heap.size := by
  obtain ⟨ao, cap, h0, h1, _⟩ := h
  cases h0
  obtain ⟨x, l', rfl⟩ := List.exists_cons_of_ne_nil hl
  obtain ⟨b, off, e, hb, _⟩ := h1 0 x rfl
  cases e; exact hb

set_option maxRecDepth 100000 in
set_option maxHeartbeats 1000000 in
theorem right2_any (f : Fl) (a : FlA) (p : Int) (wv w : World) (hf : FlAt f a wv) (hbv : Below wv.heap.size wv w) (hn : f.n ≤ 600) (h1 : -1 ≤ p) (h2 : p < f.prods.length) :
    Calls Tryz.prog 30 #[a.val f, .int .i64 p] w fun e w' => ∃ v, e = .returned v ∧ SlT (rightI f p) v w' ∧ (∀ ad n c, v = .slice (some ad) n c → rightI f p ≠ [] → ad.block < wv.heap.size ∨ w.heap.size ≤ ad.block) ∧ Below w.heap.size w w' := by
  obtain ⟨ta, tc, na, nc, pa, pc⟩ := a
  have X0 := FBox.new f ⟨ta, tc, na, nc, pa, pc⟩ 25 w
  have B0 : Below w.heap.size w (w.alloc (fobj f ⟨ta, tc, na, nc, pa, pc⟩ 25)) := (Below.refl _ _).alloc (Nat.le_refl _) _
  have hP := hf.2.2.1
  clear hf
  unfold fobj at X0 B0
  unfold FlA.val
  simp only at *
  by_cases hw : p = -1
  · subst hw
    have HW := slT_whole f hn 56 (w.alloc (Obj.cells #[Value.slice ta f.terms.length tc, Value.slice na f.nons.length nc, Value.slice pa f.prods.length pc] 25)) (w.heap.size + 1) (by simp)
    have HR : Hid (SlT (rightI f (-1)) (.slice (some ⟨w.heap.size + 1, 0, none⟩) 1 1) ((w.alloc (Obj.cells #[Value.slice ta f.terms.length tc, Value.slice na f.nons.length nc, Value.slice pa f.prods.length pc] 25)).alloc (Obj.cells #[.int .i64 f.terms.length, .string ⟨#[]⟩, .string ⟨#[]⟩] 56))) := by
      rw [rightI_neg (by omega)]; exact HW
    clear HW hP
    go_enter Tryz.func30, Tryz.ntmps30
    go_wp2_with fail
    go_ret
    exact ⟨_, rfl, HR.out, fun ad n c e _ => by cases e; exact .inr (by simp only; omega), B0.alloc B0.size _⟩
  · obtain ⟨k, rfl⟩ : ∃ k : Nat, p = k := ⟨p.toNat, by omega⟩
    have hk : k < f.prods.length := by omega
    obtain ⟨b, off, v, rfl, hb, d0, d1, d2, hvv, _⟩ := hP.at (Below.refl _ _) hk
    have BV := hbv.trans (B0.mono hbv.size)
    have c0 := (BV.cell (p := ⟨b, off + k * 3, none⟩) hb).trans d0
    have c1 := (BV.cell (p := ⟨b, off + k * 3 + 1, none⟩) hb).trans d1
    have c2 := (BV.cell (p := ⟨b, off + k * 3 + 2, none⟩) hb).trans d2
    have hv := hvv.next BV
    have HLT : Hid (∀ ad n c, v = .slice (some ad) n c → rightI f k ≠ [] → ad.block < wv.heap.size ∨ w.heap.size ≤ ad.block) := fun ad n c e hne' => by
      subst e
      rw [rightI_nat (List.getElem?_eq_getElem hk)] at hne'
      exact .inl (hvv.lt hne')
    clear hvv d0 d1 d2 BV
    have HR : Hid (SlT (rightI f k) v (w.alloc (Obj.cells #[Value.slice ta f.terms.length tc, Value.slice na f.nons.length nc, Value.slice (some ⟨b, off, none⟩) f.prods.length pc] 25))) := by
      rw [rightI_nat (List.getElem?_eq_getElem hk)]; exact hv
    have hw' : ((k : Int) == -1) = false := by simp
    obtain ⟨va, vc, rfl, _⟩ := hv
    generalize f.prods[k] = q at *
    clear hP
    go_enter Tryz.func30, Tryz.ntmps30
    go_wp2_with fail
    go_ret
    exact ⟨_, rfl, HR.out, HLT.out, B0⟩


/-- What looks hands out: what begins the symbols behind, up to the first that can't be empty, if it is fresh; and the Look, if all can be. -/
def outL (R : List (List Int)) (Le : List Bool) (fresh : Bool) : List Nat → Int → List Int
  | [], k => [k]
  | s :: r, k => (if fresh = true then rowAt R s else []) ++ (if onb Le s = true then outL R Le fresh r k else [])
def coreS (C : List (Int × Int)) (x : Ir) : List (Int × Int) := if (x.1, x.2.1) ∈ C then C else C ++ [(x.1, x.2.1)]

set_option maxHeartbeats 400000 in
theorem looks_any (G : Nat) (x : Ir) (w : World) :
    Calls Tryz.prog 74 #[.pointer (some ⟨G, 0, none⟩), valR x] w fun e w' => e = .returned (.func (.func 92) #[] #[.pointer (some ⟨w.heap.size, 0, none⟩), .pointer (some ⟨w.heap.size + 1, 0, none⟩)]) ∧ ∃ ty, w' = (w.alloc (Obj.cells #[.pointer (some ⟨G, 0, none⟩)] ty)).alloc (Obj.cells #[.int .i64 x.1, .int .i64 x.2.1, .int .i64 x.2.2] 30) := by
  unfold valR
  go_enter Tryz.func74, Tryz.ntmps74
  go_wp2_with fail
  go_ret
  exact ⟨rfl, _, rfl⟩
end Go.Proofs.YtlaplmmicccbcaaGreatDoor
