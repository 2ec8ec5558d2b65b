/- fitFree. -/
import Derived.Test.YtoocafcagelbgaaPSlot
import Derived.Test.YtoocafcagelbgaaHeld
import Derived.Test.YtoocafcagelbgaaHeldTwo
namespace Go.Proofs.Ytoocafcagelbgaa
open Go.RowKit
attribute [local go_sem] Oper.semAt_some

/-- From a place on, so many free slots, one after another. -/
def frG (l : List Sl) : Nat → Int → Bool
  | left, p => if p = -1 then decide (left = 0) else match left with
    | 0 => false
    | left + 1 => match l[p.toNat]? with
      | none => false
      | some s => decide (0 ≤ p) && decide (¬ 0 < s.refs) && frG l left s.next
  termination_by left => left
def freeB (l : List Sl) (fr : Int) : Bool := frG l (l.length - liveN l) fr
theorem frG_end (l : List Sl) (k : Nat) : frG l k (-1) = decide (k = 0) := by unfold frG; simp
theorem frG_zero (l : List Sl) {p : Int} (h : p ≠ -1) : frG l 0 p = false := by unfold frG; simp [h]
theorem frG_out (l : List Sl) (k : Nat) {p : Int} (h : p ≠ -1) (hp : isSl l.length p = false) : frG l k p = false := by
  unfold frG
  rw [if_neg h]
  cases k with
  | zero => rfl
  | succ k =>
    simp only
    cases hx : l[p.toNat]? with
    | none => rfl
    | some s =>
      have := (List.getElem?_eq_some_iff.1 hx).1
      unfold isSl at hp
      simp only [decide_eq_false_iff_not] at hp
      have : ¬ 0 ≤ p := by omega
      simp [this]
theorem frG_in (l : List Sl) (k i : Nat) (s : Sl) (hs : l[i]? = some s) : frG l (k + 1) i = (decide (¬ 0 < s.refs) && frG l k s.next) := by
  conv => lhs; unfold frG
  rw [if_neg (by omega)]
  simp only [Int.toNat_natCast, hs]
  simp
theorem isSl_in {n : Nat} {p : Int} (h : isSl n p = true) : ∃ i : Nat, p = i ∧ i < n := by
  unfold isSl at h
  simp at h
  exact ⟨p.toNat, by omega, by omega⟩

set_option maxRecDepth 100000 in
set_option maxHeartbeats 3200000 in
theorem fitFree_any (a : Ar) (v : Value) (w : World) (h : ArV a v w) :
    Calls Try.prog 57 #[v] w fun e w' => e = .returned (.bool (freeB a.slots a.free)) ∧ Below w.heap.size w w' := by
  have HL0 : Hid (∀ W, Below w.heap.size w W → Calls Try.prog 19 #[v] W fun e w' => e = .returned (.int .i64 (liveN a.slots)) ∧ Below W.heap.size W w') := fun W hb => live_any a v W (h.next hb)
  obtain ⟨sv, rv, rfl, ⟨ao, cap, rfl, hs, _, _, hlb⟩, hr, hfi, hrl⟩ := h
  obtain ⟨ra, rc, rfl, _⟩ := hr
  have HC : Hid (∀ p W, Calls Try.prog 67 #[.agg #[.slice ao a.slots.length cap, .int .i64 a.free, .slice ra a.roots.length rc], .int .i64 p] W fun e w' => e = .returned (.bool (isSl a.slots.length p)) ∧ Below W.heap.size W w') := isSlot_any ao _ cap _ _
  generalize a.slots = l at *
  generalize a.roots.length = rl at *
  generalize a.free = fr at *
  obtain ⟨n, HN⟩ : ∃ n, Hid (l.length = n) := ⟨_, rfl⟩
  rw [HN.out] at hlb HC HL0 ⊢
  have HFV : Hid (freeB l fr = frG l (n - liveN l) fr) := by rw [← HN.out]; exact rfl
  have hlv : liveN l ≤ n := by rw [← HN.out]; exact List.countP_le_length
  generalize liveN l = lv at *
  generalize freeB l fr = FB at *
  have B0 : Below w.heap.size w (w.alloc (Obj.cells #[.slice ao n cap, .int .i64 fr, .slice ra rl rc] 25)) := (Below.refl _ _).alloc (Nat.le_refl _) _
  have b0 : ArBox w.heap.size ao n cap fr (.slice ra rl rc) (w.alloc (Obj.cells #[.slice ao n cap, .int .i64 fr, .slice ra rl rc] 25)) := ⟨by simp, by simp, by simp⟩
  go_enter Try.func57, Try.ntmps57
  go_upto_region 1 with fail
  generalize w.alloc (Obj.cells #[.slice ao n cap, .int .i64 fr, .slice ra rl rc] 25) = w0 at *
  have HS : Hid (SlotsAt l ao w0) := hs.next B0
  have HLV := HL0.out w0.drew B0.drew
  have hs0 := b0.c0
  have HS0 : (w0.drew.cell? ⟨w.heap.size, 0, none⟩ = some (.slice ao n cap) ∧ w0.drew.cell? ⟨w.heap.size, 1, none⟩ = some (.int .i64 fr) ∧ w0.drew.cell? ⟨w.heap.size, 2, none⟩ = some (.slice ra rl rc)) := ⟨b0.c0, b0.c1, b0.c2⟩
  have HBX : Hid (∀ W, Below w0.heap.size w0 W → ArBox w.heap.size ao n cap fr (.slice ra rl rc) W) := fun W hb => b0.next hb
  have hwl : IntKind.i64.wrap ((n : Int) - (lv : Int)) = ((n - lv : Nat) : Int) := by rw [IntWalk.i64_in _ (by omega)]; omega
  have HB00 : Hid (Below w.heap.size w w0) := B0
  clear hs b0 HL0 hs0 B0
  obtain ⟨lf0, hlf0⟩ : ∃ lf0 : Nat, n - lv = lf0 := ⟨_, rfl⟩
  rw [hlf0] at hwl HFV
  have hlf1 : lf0 ≤ n := by omega
  clear hlf0
  refine wp_region_L (fun W => W.cell? ⟨w.heap.size, 0, none⟩ = some (.slice ao n cap) ∧ W.cell? ⟨w.heap.size, 1, none⟩ = some (.int .i64 fr) ∧ W.cell? ⟨w.heap.size, 2, none⟩ = some (.slice ra rl rc)) 7 (by kernel_rfl) 7 rfl ?_
  refine wpAnyL_take' (i := 0) (v := ?_) (oi := { dst := some 5, op := Op.fieldAddr 25 (Operand.tmp 1) 0, type := 0, pos := "fit.go:53", after := #[], guard := none }) rfl (by kernel_rfl) (by kernel_rfl) (by kernel_rfl) (by kernel_rfl) rfl (fun _ _ _ h => h) (Or.inl ⟨by rfl, ?_⟩) HS0 ?_
  rotate_left
  · intro W hSW
    go_simp
    try with_reducible rfl
  simp only [Act.put, List.setIfInBounds_toArray, List.set_cons_zero, List.set_cons_succ]
  refine wpAnyL_take' (i := 1) (v := ?_) (oi := { dst := some 6, op := Op.load 22 (Operand.tmp 5), type := 22, pos := "fit.go:53", after := #[{ on := 0, ground := Ground.data }], guard := none }) rfl (by kernel_rfl) (by kernel_rfl) (by kernel_rfl) (by kernel_rfl) rfl (fun _ _ _ h => h) (Or.inl ⟨by rfl, ?_⟩) HS0 ?_
  rotate_left
  · intro W hSW
    go_simp
    try with_reducible rfl
  simp only [Act.put, List.setIfInBounds_toArray, List.set_cons_zero, List.set_cons_succ]
  refine wpAnyL_take' (i := 2) (v := ?_) (oi := { dst := some 7, op := Op.call { callee := Callee.builtin Builtin.len, args := #[Operand.tmp 6], argTypes := #[22] }, type := 3, pos := "fit.go:53", after := #[{ on := 1, ground := Ground.data }], guard := none }) rfl (by kernel_rfl) (by kernel_rfl) (by kernel_rfl) (by kernel_rfl) rfl (fun _ _ _ h => h) (Or.inl ⟨by rfl, ?_⟩) HS0 ?_
  rotate_left
  · intro W hSW
    go_simp
    try with_reducible rfl
  simp only [Act.put, List.setIfInBounds_toArray, List.set_cons_zero, List.set_cons_succ]
  refine wpAnyL_take' (i := 3) (v := ?_) (oi := { dst := some 8, op := Op.load 25 (Operand.tmp 1), type := 25, pos := "fit.go:53", after := #[], guard := none }) rfl (by kernel_rfl) (by kernel_rfl) (by kernel_rfl) (by kernel_rfl) rfl (fun _ _ _ h => h) (Or.inl ⟨by rfl, ?_⟩) HS0 ?_
  rotate_left
  · intro W hSW
    go_simp
    try with_reducible rfl
  simp only [Act.put, List.setIfInBounds_toArray, List.set_cons_zero, List.set_cons_succ]
  refine wpAnyL_one' (i := 4) (o := { dst := some 9, op := Op.call { callee := Callee.value (Operand.func 19), args := #[Operand.tmp 8], argTypes := #[25] }, type := 3, pos := "fit.go:53", after := #[{ on := 3, ground := Ground.data }], guard := none }) (by kernel_rfl) rfl rfl (fun K hK => ?_)
  go_simp
  refine (HLV).mono ?_
  rintro e w1 ⟨rfl, hb1⟩
  refine hK.out _ _ (fun _ => (let q := HBX.out w1 ((Below.refl _ _).drew.trans hb1); ⟨q.c0, q.c1, q.c2⟩)) ?_
  clear hK
  refine wpAnyL_take' (i := 5) (v := ?_) (oi := { dst := some 10, op := Op.binOp BinOp.sub 3 (Operand.tmp 7) (Operand.tmp 9) 3, type := 3, pos := "fit.go:53", after := #[{ on := 2, ground := Ground.data }, { on := 4, ground := Ground.data }], guard := none }) rfl (by kernel_rfl) (by kernel_rfl) (by kernel_rfl) (by kernel_rfl) rfl (fun _ _ _ h => h) (Or.inl ⟨by rfl, ?_⟩) (let q := HBX.out w1 ((Below.refl _ _).drew.trans hb1); ⟨q.c0, q.c1, q.c2⟩) ?_
  rotate_left
  · intro W hSW
    go_simp
    try with_reducible rfl
  simp only [Act.put, List.setIfInBounds_toArray, List.set_cons_zero, List.set_cons_succ]
  refine wpAnyL_take' (i := 6) (v := ?_) (oi := { dst := some 3, op := Op.assign (Operand.tmp 10), type := 3, pos := "fit.go:53", after := #[{ on := 5, ground := Ground.data }, { on := 4, ground := Ground.chain }, { on := 0, ground := Ground.phase }, { on := 1, ground := Ground.phase }, { on := 2, ground := Ground.phase }, { on := 3, ground := Ground.phase }, { on := 4, ground := Ground.phase }, { on := 5, ground := Ground.phase }], guard := none }) rfl (by kernel_rfl) (by kernel_rfl) (by kernel_rfl) (by kernel_rfl) rfl (fun _ _ _ h => h) (Or.inl ⟨by rfl, ?_⟩) (let q := HBX.out w1 ((Below.refl _ _).drew.trans hb1); ⟨q.c0, q.c1, q.c2⟩) ?_
  rotate_left
  · intro W hSW
    go_simp
    try with_reducible rfl
  simp only [Act.put, List.setIfInBounds_toArray, List.set_cons_zero, List.set_cons_succ]
  refine wpAnyL_done (by kernel_rfl) ?_ _

  have B1 : Below w0.heap.size w0 w1 := (Below.refl _ _).drew.trans hb1
  obtain ⟨c0, c1, c2⟩ := HBX.out w1 B1
  clear hb1 HLV HS0 hwl
  go_wp2_with fail
  go_loopw [3, 4] (fun lv pv wr => ∃ (lf : Nat) (p : Int), lv = .int .i64 lf ∧ pv = .int .i64 p ∧ lf ≤ n ∧ Hid (FB = frG l lf p) ∧ Below w0.heap.size w0 wr) (fun lv _ _ => (intOf lv).toNat)
  case atStart => exact ⟨lf0, fr, rfl, rfl, hlf1, HFV, B1⟩
  case round =>
  obtain ⟨lf, p, rfl, rfl, hlf, HF, BR⟩ := hrel
  have HBR : Hid (Below w.heap.size w wr) := below_next HB00.out BR
  obtain ⟨c0, c1, c2⟩ := HBX.out wr BR
  clear HFV
  by_cases hp : p = -1
  · subst hp
    have d1 : ((-1 : Int) != -1) = false := rfl
    have HV : Hid (FB = decide (lf = 0)) := HF.out.trans (frG_end _ _)
    clear HF HC HS
    go_wp2_with fail
    go_ret
    exact ⟨by rw [HV.out]; exact ret_bool (by rw [Bool.eq_iff_iff]; simp), HBR.out⟩
  have d1 : (p != -1) = true := by simpa using hp
  by_cases hl0 : lf = 0
  · subst hl0
    have d2 : (((0 : Nat) : Int) == 0) = true := rfl
    have HV : Hid (FB = false) := HF.out.trans (frG_zero _ hp)
    clear HF HC HS
    go_wp2_with fail
    go_ret
    exact ⟨by rw [HV.out]; rfl, HBR.out⟩
  have d2 : ((lf : Int) == 0) = false := by simp; omega
  have HCX := HC.out p wr
  cases hsl : isSl n p with
  | false =>
    have HV : Hid (FB = false) := HF.out.trans (frG_out _ _ hp (by rw [HN.out]; exact hsl))
    rw [hsl] at HCX
    clear HF HC HS hl0 hp
    go_wp2_with fail
    refine HCX.mono ?_
    rintro e w2 ⟨rfl, hb2⟩
    have HEND : Hid (Below w.heap.size w w2) := below_next HBR.out hb2
    clear HCX hb2
    go_wp2_with fail
    go_ret
    exact ⟨by rw [HV.out]; rfl, HEND.out⟩
  | true =>
    rw [hsl] at HCX
    obtain ⟨i, rfl, hi⟩ := isSl_in hsl
    obtain ⟨lf1, rfl⟩ : ∃ lf1, lf = lf1 + 1 := ⟨lf - 1, by omega⟩
    have hi2 : i < l.length := by rw [HN.out]; exact hi
    have HSO := HS.out.at BR hi2
    have hin := frG_in l lf1 i l[i] (List.getElem?_eq_getElem hi2)
    have HF2 := HF.out.trans hin
    generalize l[i] = s at *
    obtain ⟨b, off, ka, kc, gv, rfl, hb, hrow, _, hks, hok⟩ := HSO
    obtain ⟨⟨⟨nk, nn, nf, nr, nt, nb⟩, nks⟩, ks, rf, nx⟩ := s
    obtain ⟨_, e7, e8, e9⟩ := hrow
    simp only at e8 e9 HF2
    have HX : Hid (∀ W, Below wr.heap.size wr W → W.cell? ⟨b, off + i * 10 + 8, none⟩ = some (.int .i64 rf) ∧ W.cell? ⟨b, off + i * 10 + 9, none⟩ = some (.int .i64 nx) ∧ ArBox w.heap.size (some ⟨b, off, none⟩) n cap fr (.slice ra rl rc) W) := fun W hW => ⟨(hW.cell (p := ⟨b, off + i * 10 + 8, none⟩) hb).trans e8, (hW.cell (p := ⟨b, off + i * 10 + 9, none⟩) hb).trans e9, HBX.out W (BR.trans (hW.mono BR.size))⟩
    have hw1 : IntKind.i64.wrap (((lf1 + 1 : Nat) : Int) - 1) = (lf1 : Int) := by rw [IntWalk.i64_in _ (by omega)]; omega
    have hw2 : wrap64 (((lf1 + 1 : Nat) : Int) - 1) = (lf1 : Int) := by unfold wrap64; omega
    obtain ⟨LP, hLP⟩ : ∃ LP : Int, ((lf1 + 1 : Nat) : Int) = LP := ⟨_, rfl⟩
    have HLP : Hid ((intOf (.int .i64 LP)).toNat = lf1 + 1) := by show _ = _; rw [← hLP]; simp [intOf]
    rw [hLP] at hw1 hw2 d2 ⊢
    have HWW : Hid (wrap64 (LP - 1) = (lf1 : Int)) := hw2
    clear e7 e8 e9 HF HC HS hl0 hp hks hok hsl hin hLP hw2
    by_cases hrf : rf > 0
    · have d3 : decide (rf > 0) = true := decide_eq_true hrf
      have HV : Hid (FB = false) := by rw [HF2]; show _ = _; simp; intro h; omega
      clear HF2
      go_wp2_with fail
      refine HCX.mono ?_
      rintro e w2 ⟨rfl, hb2⟩
      obtain ⟨x8, x9, c0, c1, c2⟩ := HX.out w2 hb2
      have HEND : Hid (Below w.heap.size w w2) := below_next HBR.out hb2
      clear HCX hb2 HX
      go_wp2_with fail
      go_ret
      exact ⟨by rw [HV.out]; rfl, HEND.out⟩
    · have d3 : decide (rf > 0) = false := decide_eq_false hrf
      have HV : Hid (FB = frG l lf1 nx) := by rw [HF2]; show _ = _; simp; intro _; omega
      clear HF2
      go_wp2_with fail
      refine HCX.mono ?_
      rintro e w2 ⟨rfl, hb2⟩
      obtain ⟨x8, x9, c0, c1, c2⟩ := HX.out w2 hb2
      have HEND : Hid (Below w0.heap.size w0 w2) := below_next BR hb2
      clear HCX hb2 HX
      go_wp2_with fail
      exact ⟨⟨lf1, nx, rfl, rfl, by omega, HV, HEND.out⟩, by rw [HLP.out]; simp [intOf]⟩
end Go.Proofs.Ytoocafcagelbgaa
