/- Machines in one state: along a text. -/
import Derived.Test.YtdalomibilicfaaRangeT
namespace Go.Proofs.Ytdalomibilicfaa
open Go.RowKit Go.Shelf
attribute [local go_sem] Oper.semAt_some

def bsZ (s : ByteArray) : List Int := s.data.toList.map fun b => (b.toNat : Int)
theorem bsZ_len (s : ByteArray) : (bsZ s).length = s.size := by unfold bsZ; rw [List.length_map]; rfl
/-- How many bytes one has gone, and the state then. -/
def alongL (d : List Ds) : Int → Nat → List Int → List (Int × Int)
  | n, k, [] => if isD d n then [((k : Int), n)] else []
  | n, k, c :: w => if isD d n then ((k : Int), n) :: alongL d (ledD d n c) (k + 1) w else []
theorem alongL_none {d : List Ds} {q : Int} (h : isD d q = false) : ∀ {k : Nat} {w : List Int}, alongL d q k w = []
  | _, [] => by unfold alongL; rw [if_neg (by simp [h])]
  | _, _ :: _ => by unfold alongL; rw [if_neg (by simp [h])]
theorem alongL_head {d : List Ds} {q : Int} (h : isD d q = true) (k : Nat) : ∀ w : List Int, ∃ t, alongL d q k w = ((k : Int), q) :: t
  | [] => ⟨[], by unfold alongL; rw [if_pos h]⟩
  | c :: w => ⟨_, by unfold alongL; rw [if_pos h]⟩
theorem bsZ_byte {s : ByteArray} {j : Nat} {c : Int} (h : (bsZ s)[j]? = some c) : 0 ≤ c ∧ c ≤ 255 := by
  unfold bsZ at h
  rw [List.getElem?_map] at h
  obtain ⟨b, _, rfl⟩ := Option.map_eq_some_iff.1 h
  have := b.toNat_lt
  omega
def encP (x : Int × Int) : Array Value := #[.int .i64 x.1, .int .i64 x.2]
/-- What is read only. -/
def FxA (w : World) (v : Value) (s : ByteArray) (Bd Bs : Nat) (V : World) : Prop := Below w.heap.size w V ∧ V.heap[Bd]? = some (Obj.cells #[v] 24) ∧ V.heap[Bs]? = some (Obj.cells #[.string s] 9)

set_option maxRecDepth 100000 in
set_option maxHeartbeats 800000 in
theorem along_any (v : Value) (s : ByteArray) (hv : ∃ a n c, v = .slice a n c) (w : World) : Calls Try.prog 26 #[.agg #[v], .string s] w fun e w' => e = .returned (.func (.func 40) #[] #[.pointer (some ⟨w.heap.size, 0, none⟩), .pointer (some ⟨w.heap.size + 1, 0, none⟩)]) ∧ w' = (w.alloc (Obj.cells #[v] 24)).alloc (Obj.cells #[.string s] 9) := by
  obtain ⟨va, vn, vc, rfl⟩ := hv
  go_enter Try.func26, Try.ntmps26
  go_wp2_with fail
  go_ret
  exact ⟨rfl, rfl⟩

set_option maxRecDepth 100000 in
set_option maxHeartbeats 1600000 in
theorem along_gives (n : Nat) (d : List Ds) (v : Value) (s : ByteArray) (Bd Bs : Nat) (w W : World) (hl : SlD d v w) (hu : ∀ x ∈ d, upA x.arcs 0 ∧ x.arcs.length ≤ 1000000) (hs : s.size ≤ 1000000) :
    GivesT n Try.prog 40 #[.pointer (some ⟨Bd, 0, none⟩), .pointer (some ⟨Bs, 0, none⟩)] encP (fun xs _ => xs = alongL d 0 0 (bsZ s)) (fun _ _ _ => True) (fun xs => xs <+: alongL d 0 0 (bsZ s)) (fun _ => False) (FxA w v s Bd Bs) W := by
  intro yl J St hF hJ
  show CallsIn Fence.wide n Try.prog 40 #[.func (.yield yl) #[] #[], .pointer (some ⟨Bd, 0, none⟩), .pointer (some ⟨Bs, 0, none⟩)] W _
  have HF : Hid (FeedsT (n - 1) Try.prog yl encP (fun _ _ _ => True) (fun xs => xs <+: alongL d 0 0 (bsZ s)) (FxA w v s Bd Bs) J St) := hF
  have HJ : Hid (J (fun _ => False) [] W) := hJ
  clear hF hJ
  have HL : Hid (∀ V, Below w.heap.size w V → SlD d v V) := fun V hV => hl.next hV
  have HU : Hid (∀ x ∈ d, upA x.arcs 0 ∧ x.arcs.length ≤ 1000000) := hu
  obtain ⟨va, vc, rfl, _⟩ := hl
  clear hu
  refine callsIn_of_wp Try.func40 rfl trivial ?_ rfl
  simp only [Try.ntmps40, List.size_toArray, List.length_cons, List.length_nil, Nat.reduceAdd, Nat.reduceSub, Array.replicate_succ, Array.replicate_zero, List.push_toArray, List.append_toArray, List.nil_append, List.cons_append]
  gi_wp2
  gi_loopw [4, 5] (fun nv kv wr => ∃ (q : Int) (j : Nat) (xs : List (Int × Int)), nv = .int .i64 q ∧ kv = .int .i64 j ∧ j ≤ s.size ∧ Hid (alongL d 0 0 (bsZ s) = xs ++ alongL d q j ((bsZ s).drop j)) ∧ Hid (J (fun _ => False) xs wr)) (fun _ k _ => s.size - (intOf k).toNat)
  case atStart => exact ⟨0, 0, [], rfl, rfl, Nat.zero_le _, by show _ = _; simp, HJ⟩
  case round =>
    obtain ⟨q, j, xs, rfl, rfl, hj, HX, HJs⟩ := hrel
    clear HJ
    have fx := HF.out.fx _ _ _ HJs.out
    have cd : wr.cell? ⟨Bd, 0, none⟩ = some (.slice va d.length vc) := by rw [Lib.cell_of_heap fx.2.1]; rfl
    have cs : wr.cell? ⟨Bs, 0, none⟩ = some (.string s) := by rw [Lib.cell_of_heap fx.2.2]; rfl
    have HC := isState_any va d.length vc q wr
    clear fx
    by_cases hq : 0 ≤ q ∧ q < d.length
    case neg =>
      rw [decide_eq_false hq] at HC
      have HE : Hid (xs = alongL d 0 0 (bsZ s) ∧ J (fun _ => False) xs wr) := ⟨by rw [HX.out, alongL_none (by unfold isD; exact decide_eq_false hq), List.append_nil], HJs.out⟩
      clear HX HJs HF HU HL
      gi_wp2
      refine ⟨trivial, fun h => (by cases h), (callsIn_wide.2 HC).mono ?_⟩
      rintro e W3 ⟨rfl, rfl⟩
      clear HC
      gi_wp2
      refine ⟨fun f h => (by cases h), ?_⟩
      gi_wp2
      go_end0
      exact ⟨⟨_, rfl⟩, .inl ⟨xs, HE.out⟩⟩
    rw [decide_eq_true hq] at HC
    have hq2 : isD d q = true := by unfold isD; exact decide_eq_true hq
    have HPF : Hid ((xs ++ [((j : Int), q)]) <+: alongL d 0 0 (bsZ s)) := by
      show _ <+: _
      rw [HX.out]
      obtain ⟨t, ht⟩ := alongL_head hq2 j ((bsZ s).drop j)
      rw [ht]
      exact ⟨t, by simp⟩
    obtain ⟨fn, tmps, assign, body, hyl, hR⟩ := yield_any (m' := n - 1) (HF.out.yield (fun _ => False) xs ((j : Int), q) _ HJs.out trivial HPF.out)
    unfold encP at hyl
    simp only at hyl
    clear HJs HPF
    gi_wp2
    refine ⟨trivial, fun h => (by cases h), (callsIn_wide.2 HC).mono ?_⟩
    rintro e W3 ⟨rfl, rfl⟩
    clear HC
    gi_wp2_with fail
    refine ⟨fun h => (by cases h), hR.mono ?_⟩
    rintro e W3 (⟨rfl, hJ3, _⟩ | ⟨rfl, hSt, _⟩)
    case inr =>
      have HE : Hid (St (fun _ => False) W3) := hSt
      clear hR hyl hSt HX HF HU HL
      gi_wp2
      go_end0
      exact ⟨⟨_, rfl⟩, .inr HE.out⟩
    have fx3 := HF.out.fx _ _ _ hJ3
    have cd3 : W3.cell? ⟨Bd, 0, none⟩ = some (.slice va d.length vc) := by rw [Lib.cell_of_heap fx3.2.1]; rfl
    have cs3 : W3.cell? ⟨Bs, 0, none⟩ = some (.string s) := by rw [Lib.cell_of_heap fx3.2.2]; rfl
    have HJ3 : Hid (J (fun _ => False) (xs ++ [((j : Int), q)]) W3) := hJ3
    have HB3 : Hid (Below w.heap.size w W3) := fx3.1
    clear hR hyl hJ3 fx3 cd cs
    by_cases hjs : j < s.size
    case neg =>
      obtain rfl : j = s.size := by omega
      have d3 : decide ((s.size : Int) < s.size) = false := decide_eq_false (by omega)
      have HE : Hid (xs ++ [((s.size : Int), q)] = alongL d 0 0 (bsZ s) ∧ J (fun _ => False) (xs ++ [((s.size : Int), q)]) W3) := ⟨by rw [HX.out, List.drop_of_length_le (by rw [bsZ_len]; omega)]; unfold alongL; rw [if_pos hq2], HJ3.out⟩
      clear HX HJ3 HF HU HL HB3
      gi_wp2
      go_end0
      exact ⟨⟨_, rfl⟩, .inl ⟨_, HE.out⟩⟩
    have d3 : decide ((j : Int) < s.size) = true := decide_eq_true (by omega)
    obtain ⟨c, hc⟩ : ∃ c : Int, (bsZ s)[j]? = some c := ⟨_, List.getElem?_eq_getElem (by rw [bsZ_len]; exact hjs)⟩
    have hcb : 0 ≤ c ∧ c ≤ 255 := bsZ_byte hc
    have i0 : ∀ W, (Instr.index 9 (.string s) (.int .i64 (j : Int))).run Try.prog W = .ok (.int .u8 c) W := fun W => by
      rw [run_index_string W _ _ _ _ Try.underlying9, dif_pos ⟨by omega, by omega⟩]
      unfold bsZ at hc
      rw [List.getElem?_map, List.getElem?_eq_getElem (show j < s.data.toList.length by rw [Array.length_toList]; exact hjs)] at hc
      simp only [Option.map_some, Option.some.injEq] at hc
      subst hc; rfl
    have HX2 : Hid (alongL d 0 0 (bsZ s) = (xs ++ [((j : Int), q)]) ++ alongL d (ledD d q c) (j + 1) ((bsZ s).drop (j + 1))) := by
      show _ = _
      have hj' : j < (bsZ s).length := by rw [bsZ_len]; exact hjs
      rw [HX.out, List.drop_eq_getElem_cons hj']
      rw [List.getElem?_eq_getElem hj'] at hc
      rw [Option.some.inj hc, alongL, if_pos hq2]
      simp
    clear HX hc
    gi_wp2
    have HS : W3.drew.cell? ⟨Bd, 0, none⟩ = some (.slice va d.length vc) ∧ W3.drew.cell? ⟨Bs, 0, none⟩ = some (.string s) := ⟨cd3, cs3⟩
    have HBD : Hid (Below W3.heap.size W3 W3.drew) := below_drewN (Below.refl _ _) 1
    have HS1 : Hid (∀ V, Below W3.heap.size W3 V → (V.cell? ⟨Bd, 0, none⟩ = some (.slice va d.length vc) ∧ V.cell? ⟨Bs, 0, none⟩ = some (.string s)) ∧ J (fun _ => False) (xs ++ [((j : Int), q)]) V) := fun V hV => ⟨⟨(hV.cell (p := ⟨Bd, 0, none⟩) (World.block_lt_of_cell? _ _ cd3)).trans cd3, (hV.cell (p := ⟨Bs, 0, none⟩) (World.block_lt_of_cell? _ _ cs3)).trans cs3⟩, HF.out.less _ _ _ _ (HF.out.new _ _ _ _ HJ3.out hV) (fun k hk => hk.elim)⟩
    have HCL := led_any d (.slice va d.length vc) q c W3.drew (HL.out _ (HB3.out.trans (HBD.out.mono HB3.out.size))) HU.out hcb.1 hcb.2
    clear HJ3 HB3 cd3 cs3
    refine wpIn_wide.2 ?_
    refine wp_region_noPanic ?_
    refine wp_region_L (fun W => W.cell? ⟨Bd, 0, none⟩ = some (.slice va d.length vc) ∧ W.cell? ⟨Bs, 0, none⟩ = some (.string s)) 8 (by kernel_rfl) 8 rfl ?_
    refine wpAnyL_take' (i := 0) (v := ?_) (oi := { dst := some 24, op := Op.fieldAddr 24 (Operand.tmp 1) 0, type := 0, pos := "along.go:41", after := #[], guard := none }) rfl (by kernel_rfl) (by kernel_rfl) (by kernel_rfl) (by kernel_rfl) rfl (fun _ _ _ h => h) (Or.inl ⟨by rfl, ?_⟩) HS ?_
    rotate_left
    · intro W hSW
      go_simp
      try with_reducible rfl
    simp only [Act.put, List.setIfInBounds_toArray, List.set_cons_zero, List.set_cons_succ]
    refine wpAnyL_take' (i := 1) (v := ?_) (oi := { dst := some 25, op := Op.load 22 (Operand.tmp 24), type := 22, pos := "along.go:41", after := #[{ on := 0, ground := Ground.data }], guard := none }) rfl (by kernel_rfl) (by kernel_rfl) (by kernel_rfl) (by kernel_rfl) rfl (fun _ _ _ h => h) (Or.inl ⟨by rfl, ?_⟩) HS ?_
    rotate_left
    · intro W hSW
      go_simp
      try with_reducible rfl
    simp only [Act.put, List.setIfInBounds_toArray, List.set_cons_zero, List.set_cons_succ]
    refine wpAnyL_take' (i := 2) (v := ?_) (oi := { dst := some 26, op := Op.move (Operand.tmp 4), type := 3, pos := "along.go:41", after := #[], guard := none }) rfl (by kernel_rfl) (by kernel_rfl) (by kernel_rfl) (by kernel_rfl) rfl (fun _ _ _ h => h) (Or.inl ⟨by rfl, ?_⟩) HS ?_
    rotate_left
    · intro W hSW
      go_simp
      try with_reducible rfl
    simp only [Act.put, List.setIfInBounds_toArray, List.set_cons_zero, List.set_cons_succ]
    refine wpAnyL_take' (i := 3) (v := ?_) (oi := { dst := some 27, op := Op.load 9 (Operand.tmp 2), type := 9, pos := "along.go:41", after := #[], guard := none }) rfl (by kernel_rfl) (by kernel_rfl) (by kernel_rfl) (by kernel_rfl) rfl (fun _ _ _ h => h) (Or.inl ⟨by rfl, ?_⟩) HS ?_
    rotate_left
    · intro W hSW
      go_simp
      try with_reducible rfl
    simp only [Act.put, List.setIfInBounds_toArray, List.set_cons_zero, List.set_cons_succ]
    refine wpAnyL_take' (i := 4) (v := ?_) (oi := { dst := some 28, op := Op.move (Operand.tmp 5), type := 3, pos := "along.go:41", after := #[], guard := none }) rfl (by kernel_rfl) (by kernel_rfl) (by kernel_rfl) (by kernel_rfl) rfl (fun _ _ _ h => h) (Or.inl ⟨by rfl, ?_⟩) HS ?_
    rotate_left
    · intro W hSW
      go_simp
      try with_reducible rfl
    simp only [Act.put, List.setIfInBounds_toArray, List.set_cons_zero, List.set_cons_succ]
    refine wpAnyL_take' (i := 5) (v := ?_) (oi := { dst := some 29, op := Op.index 9 (Operand.tmp 27) (Operand.tmp 28), type := 5, pos := "along.go:41", after := #[{ on := 3, ground := Ground.data }, { on := 4, ground := Ground.data }], guard := none }) rfl (by kernel_rfl) (by kernel_rfl) (by kernel_rfl) (by kernel_rfl) rfl (fun _ _ _ h => h) (Or.inl ⟨by rfl, ?_⟩) HS ?_
    rotate_left
    · intro W hSW
      go_simp
      try with_reducible rfl
    simp only [Act.put, List.setIfInBounds_toArray, List.set_cons_zero, List.set_cons_succ]
    refine wpAnyL_one' (i := 6) (o := { dst := some 30, op := Op.call { callee := Callee.value (Operand.func 41), args := #[Operand.tmp 25, Operand.tmp 26, Operand.tmp 29], argTypes := #[22, 3, 5] }, type := 3, pos := "along.go:41", after := #[{ on := 1, ground := Ground.data }, { on := 2, ground := Ground.data }, { on := 5, ground := Ground.data }], guard := none }) (by kernel_rfl) rfl rfl (fun K hK => ?_)
    go_simp
    refine (HCL).mono ?_
    rintro e w4 ⟨rfl, hb4⟩
    refine hK.out _ _ (fun _ => (HS1.out _ (HBD.out.trans (hb4.mono HBD.out.size))).1) ?_
    clear hK
    obtain ⟨HS2, hJ4⟩ := HS1.out _ (HBD.out.trans (hb4.mono HBD.out.size))
    have HJ4 : Hid (J (fun _ => False) (xs ++ [((j : Int), q)]) w4) := hJ4
    clear HS hb4 HS1 HBD HCL hJ4
    refine wpAnyL_take' (i := 7) (v := ?_) (oi := { dst := some 4, op := Op.assign (Operand.tmp 30), type := 3, pos := "along.go:41", after := #[{ on := 6, ground := Ground.data }, { on := 6, ground := Ground.chain }, { on := 0, ground := Ground.phase }, { on := 1, ground := Ground.phase }, { on := 2, ground := Ground.phase }, { on := 3, ground := Ground.phase }, { on := 4, ground := Ground.phase }, { on := 5, ground := Ground.phase }, { on := 6, ground := Ground.phase }], guard := none }) rfl (by kernel_rfl) (by kernel_rfl) (by kernel_rfl) (by kernel_rfl) rfl (fun _ _ _ h => h) (Or.inl ⟨by rfl, ?_⟩) HS2 ?_
    rotate_left
    · intro W hSW
      go_simp
      try with_reducible rfl
    simp only [Act.put, List.setIfInBounds_toArray, List.set_cons_zero, List.set_cons_succ]
    refine wpAnyL_done (by kernel_rfl) ?_ _
    refine NoPanic.normal ?_
    gi_wp2
    go_roundw
    case rel => exact ⟨_, j + 1, _, rfl, by go_num, by omega, HX2, HJ4⟩
    case measure => simp [intOf]; omega
end Go.Proofs.Ytdalomibilicfaa
