/- Stacks: the document's Fit. -/
import Derived.Test.YtjpbfckdiojghaaGBack
import Derived.Test.YtjpbfckdiojghaaHeld
import Derived.Test.YtjpbfckdiojghaaHeldTwo
import Derived.Deep.Cut
import Derived.Deep.CutRange
namespace Go.Proofs.Ytjpbfckdiojghaa
open Go.RowKit

def nodeP (l : List Gn) (i : Nat) (x : Gn) : Prop := numB x.st = true ∧ numB x.pl = true ∧ (0 < i → ∀ y, l[i - 1]? = some y → befB y x = true)
def linkP (l : List Gn) (x : Gn) (k : Nat) (j : Int) : Prop := 0 ≤ j ∧ j < l.length ∧ (∀ y, l[j.toNat]? = some y → y.pl ≤ x.pl) ∧ (0 < k → ∀ p, x.links[k - 1]? = some p → p < j)
def lnksP (l : List Gn) (x : Gn) : Prop := ∀ k j, x.links[k]? = some j → linkP l x k j
def fitP (l : List Gn) : Prop := l.length ≤ 4096 ∧ ∀ i x, l[i]? = some x → nodeP l i x ∧ lnksP l x
noncomputable def fitG (l : List Gn) : Bool := @decide (fitP l) (Classical.propDecidable _)
theorem fitG_iff (l : List Gn) : fitG l = true ↔ fitP l := by
  unfold fitG
  exact @decide_eq_true_iff (fitP l) (Classical.propDecidable _)
theorem fitG_no {l : List Gn} (h : ¬ fitP l) : fitG l = false := by
  cases hb : fitG l with
  | false => rfl
  | true => exact absurd ((fitG_iff l).1 hb) h
theorem fitP.links {l : List Gn} (h : fitP l) : LinksIn l := fun x hx j hj => by
  obtain ⟨i, hi⟩ := List.getElem?_of_mem hx
  obtain ⟨k, hk⟩ := List.getElem?_of_mem hj
  have := (h.2 i x hi).2 k j hk
  exact ⟨this.1, this.2.1⟩

set_option maxRecDepth 100000 in
set_option maxHeartbeats 4000000 in
theorem gfit_any (l : List Gn) (v : Value) (w : World) (hl : SlN l v w) :
    Calls Try.prog 6 #[.agg #[v]] w fun e w' => e = .returned (.bool (fitG l)) ∧ Below w.heap.size w w' := by
  have HL : Hid (∀ W, Below w.heap.size w W → SlN l v W) := fun W hb => hl.next hb
  obtain ⟨la, lc, rfl, _, _, _, hlb⟩ := hl
  have B0 := below_box w (.slice la l.length lc) 24
  have b0 : (w.alloc (Obj.cells #[.slice la l.length lc] 24)).heap[w.heap.size]? = some (Obj.cells #[.slice la l.length lc] 24) := heap_alloc_new _ _
  have c0 : (w.alloc (Obj.cells #[.slice la l.length lc] 24)).cell? ⟨w.heap.size, 0, none⟩ = some (.slice la l.length lc) := by simp
  have HN : Hid (¬ fitP l → fitG l = false) := fitG_no
  have HY : Hid (fitP l → fitG l = true) := (fitG_iff l).2
  generalize fitG l = R at *
  go_enter Try.func6, Try.ntmps6
  go_wp2_with fail
  generalize (w.alloc (Obj.cells #[.slice la l.length lc] 24)) = w0 at *
  have hz := blk_lt b0
  have HT : Hid (∀ W, Below w0.heap.size w0 W → W.cell? ⟨w.heap.size, 0, none⟩ = some (.slice la l.length lc) ∧ SlN l (.slice la l.length lc) W ∧ Below w.heap.size w W) := fun W hW => ⟨(hW.cell (p := ⟨w.heap.size, 0, none⟩) hz).trans (by rw [Lib.cell_of_heap b0]; rfl), HL.out W (B0.trans (hW.mono B0.size)), B0.trans (hW.mono B0.size)⟩
  clear B0 b0 c0 HL
  go_loopw [4] (fun iv wr => ∃ (i : Nat), iv = .int .i64 i ∧ i ≤ l.length ∧ Hid (∀ k x, l[k]? = some x → k < i → nodeP l k x ∧ lnksP l x) ∧ Below w0.heap.size w0 wr) (fun i _ => l.length - (intOf i).toNat)
  case atStart => exact ⟨0, rfl, Nat.zero_le _, fun k _ _ hk => by omega, Below.refl _ _⟩
  case round =>
  obtain ⟨i, rfl, hi, HTO, BR⟩ := hrel
  by_cases h6 : l.length ≤ 4096
  case neg =>
    have HE : Hid (R = false) := HN.out (fun h => h6 h.1)
    have QB := (HT.out wr BR).2.2
    have h7 : ¬ (l.length : Int) ≤ 4096 := by omega
    clear HTO HT HN HY
    by_cases hlt : i < l.length
    · go_wp2_with fail
      go_ret
      exact ⟨by rw [HE.out]; rfl, QB⟩
    · go_wp2_with fail
      go_ret
      exact ⟨by rw [HE.out]; rfl, QB⟩
  have h7 : (l.length : Int) ≤ 4096 := by omega
  by_cases hlt : i < l.length
  case neg =>
    have HE : Hid (R = true) := HY.out ⟨h6, fun k x hk => HTO.out k x hk (by have := (List.getElem?_eq_some_iff.1 hk).1; omega)⟩
    have QB := (HT.out wr BR).2.2
    clear HTO HT HN HY
    go_wp2_with fail
    go_ret
    exact ⟨by rw [HE.out]; rfl, QB⟩
  obtain ⟨d0, ⟨_, _, e0, hal, _⟩, _⟩ := HT.out wr BR
  cases e0
  obtain ⟨b2, o2, u, rfl, hb2, q0, q1, q2, hsx, _, _, hxl⟩ := hal.at (Below.refl _ _) hlt
  have HNN : Hid (¬ (nodeP l i l[i] ∧ lnksP l l[i]) → R = false) := fun h => HN.out (fun hf => h (hf.2 i l[i] (by simp [hlt])))
  have HYY : Hid (nodeP l i l[i] → lnksP l l[i] → ∀ k x, l[k]? = some x → k < i + 1 → nodeP l k x ∧ lnksP l x) := fun h1 h2 k x hk hki => by
    rcases Nat.lt_or_ge k i with h' | h'
    · exact HTO.out k x hk h'
    · obtain rfl : k = i := by omega
      obtain rfl : l[k] = x := by simpa [hlt] using hk
      exact ⟨h1, h2⟩
  generalize l[i] = x at *
  obtain ⟨xst, xpl, xs⟩ := x
  simp only at *
  have HX : Hid (∀ W, Below wr.heap.size wr W → SlI xs u W) := fun W hb => hsx.next hb
  obtain ⟨xa, xc, rfl, _⟩ := hsx
  have bx : Below wr.heap.size wr (wr.alloc (Obj.cells #[.int .i64 xst, .int .i64 xpl, .slice xa xs.length xc] 35)) := (Below.refl _ _).alloc (Nat.le_refl _) _
  have x0 : (wr.alloc (Obj.cells #[.int .i64 xst, .int .i64 xpl, .slice xa xs.length xc] 35)).cell? ⟨wr.heap.size, 0, none⟩ = some (.int .i64 xst) := by simp
  have x1 : (wr.alloc (Obj.cells #[.int .i64 xst, .int .i64 xpl, .slice xa xs.length xc] 35)).cell? ⟨wr.heap.size, 1, none⟩ = some (.int .i64 xpl) := by simp
  have x2 : (wr.alloc (Obj.cells #[.int .i64 xst, .int .i64 xpl, .slice xa xs.length xc] 35)).cell? ⟨wr.heap.size, 2, none⟩ = some (.slice xa xs.length xc) := by simp
  have xl : wr.heap.size < (wr.alloc (Obj.cells #[.int .i64 xst, .int .i64 xpl, .slice xa xs.length xc] 35)).heap.size := by simp
  go_upto_region 6 with fail
  obtain ⟨rb, hrb⟩ : ∃ rb, wr.heap.size = rb := ⟨_, rfl⟩
  rw [hrb] at x0 x1 x2 xl
  simp only [hrb]
  generalize wr.alloc (Obj.cells #[.int .i64 xst, .int .i64 xpl, .slice xa xs.length xc] 35) = wx at *
  have hi1 : i - 1 < l.length := by omega
  have hb2x : b2 < wx.heap.size := Nat.lt_of_lt_of_le hb2 bx.size
  obtain ⟨_, _, pv, e1, _, t0, t1, t2, _⟩ := hal.at bx hi1
  cases e1
  have HPV : Hid (l[i - 1]? = some l[i - 1]) := by show _ = _; simp [hi1]
  generalize l[i - 1] = pr at *
  have HNP : Hid (nodeP l i ⟨xst, xpl, xs⟩ ↔ numB xst = true ∧ numB xpl = true ∧ (0 < i → befB pr ⟨xst, xpl, xs⟩ = true)) := by
    show _ ↔ _
    unfold nodeP
    rw [HPV.out]
    simp
  have HC1 := gnum_any xst wx.drew
  have HC2 := gnum_any xpl wx.drew
  have HC3 := gbefore_any pr ⟨xst, xpl, xs⟩ pv (.slice xa xs.length xc) wx.drew
  obtain ⟨pst, ppl, pls⟩ := pr
  simp only at *
  have HX2 : Hid (∀ W, Below wx.heap.size wx W → (W.cell? ⟨w.heap.size, 0, none⟩ = some (.slice (some ⟨b2, o2, none⟩) l.length lc) ∧ W.cell? ⟨rb, 0, none⟩ = some (.int .i64 xst) ∧ W.cell? ⟨rb, 1, none⟩ = some (.int .i64 xpl) ∧ W.cell? ⟨rb, 2, none⟩ = some (.slice xa xs.length xc)) ∧ SlI xs (.slice xa xs.length xc) W ∧ GnsAt l (some ⟨b2, o2, none⟩) W ∧ Below w0.heap.size w0 W ∧ Below w.heap.size w W) := fun W hW => by
    have c := bx.trans (hW.mono bx.size)
    have c0 := BR.trans (c.mono BR.size)
    obtain ⟨z0, _, z1⟩ := HT.out W c0
    exact ⟨⟨z0, (hW.cell (p := ⟨rb, 0, none⟩) xl).trans x0, (hW.cell (p := ⟨rb, 1, none⟩) xl).trans x1, (hW.cell (p := ⟨rb, 2, none⟩) xl).trans x2⟩, HX.out W c, hal.next c, c0, z1⟩
  have HSS : Hid (∀ W, Below wx.heap.size wx W → (W.cell? ⟨w.heap.size, 0, none⟩ = some (.slice (some ⟨b2, o2, none⟩) l.length lc) ∧ W.cell? ⟨rb, 0, none⟩ = some (.int .i64 xst) ∧ W.cell? ⟨rb, 1, none⟩ = some (.int .i64 xpl) ∧ W.cell? ⟨rb, 2, none⟩ = some (.slice xa xs.length xc) ∧ W.cell? ⟨b2, o2 + (i - 1) * 3, none⟩ = some (.int .i64 pst) ∧ W.cell? ⟨b2, o2 + (i - 1) * 3 + 1, none⟩ = some (.int .i64 ppl) ∧ W.cell? ⟨b2, o2 + (i - 1) * 3 + 2, none⟩ = some pv)) := fun W hW => by
    obtain ⟨⟨z0, z1, z2, z3⟩, _⟩ := HX2.out W hW
    exact ⟨z0, z1, z2, z3, (hW.cell (p := ⟨b2, o2 + (i - 1) * 3, none⟩) hb2x).trans t0, (hW.cell (p := ⟨b2, o2 + (i - 1) * 3 + 1, none⟩) hb2x).trans t1, (hW.cell (p := ⟨b2, o2 + (i - 1) * 3 + 2, none⟩) hb2x).trans t2⟩
  have BD0 : Below wx.heap.size wx wx.drew := (Below.refl _ _).drew
  have hS0 : (fun W : World => (W.cell? ⟨w.heap.size, 0, none⟩ = some (.slice (some ⟨b2, o2, none⟩) l.length lc) ∧ W.cell? ⟨rb, 0, none⟩ = some (.int .i64 xst) ∧ W.cell? ⟨rb, 1, none⟩ = some (.int .i64 xpl) ∧ W.cell? ⟨rb, 2, none⟩ = some (.slice xa xs.length xc) ∧ W.cell? ⟨b2, o2 + (i - 1) * 3, none⟩ = some (.int .i64 pst) ∧ W.cell? ⟨b2, o2 + (i - 1) * 3 + 1, none⟩ = some (.int .i64 ppl) ∧ W.cell? ⟨b2, o2 + (i - 1) * 3 + 2, none⟩ = some pv)) wx.drew := HSS.out _ BD0
  have hw1 : 0 < i → IntKind.i64.wrap ((i : Int) - 1) = ((i - 1 : Nat) : Int) := fun h => by rw [IntKind.wrap_i64]; omega
  clear t0 t1 t2 x0 x1 x2 xl hrb q0 q1 q2 d0 bx hal HTO HT HN HPV
  obtain ⟨GB, hGB⟩ : ∃ GB : Bool, (numB xst = true ∧ numB xpl = true ∧ (0 < i → befB ⟨pst, ppl, pls⟩ ⟨xst, xpl, xs⟩ = true)) ↔ GB = true := ⟨decide _, decide_eq_true_iff.symm⟩
  generalize befB ⟨pst, ppl, pls⟩ ⟨xst, xpl, xs⟩ = A3 at *
  generalize numB xst = A1 at *
  generalize numB xpl = A2 at *
  have HGB : Hid ((A1 = true ∧ A2 = true ∧ (0 < i → A3 = true)) ↔ GB = true) := hGB
  have HGN : Hid (¬ (A1 = true ∧ A2 = true ∧ (0 < i → A3 = true)) → GB = false) := fun h => by
    cases GB with
    | false => rfl
    | true => exact absurd (hGB.2 rfl) h
  clear hGB
  go_cut [49] from 25 to 49 (fun t49 w2 => t49 = .bool (!GB) ∧ Below wx.heap.size wx w2)
  case first =>
    clear HNN HYY HNP HX2 HX HY
    cases A1 with
    | false =>
      have HE : Hid (GB = false) := HGN.out (fun h => by cases h.1)
      clear HGN HGB hw1 HC2 HC3
      go_wp2_with fail
      refine wp_region_L (fun W => W.cell? ⟨w.heap.size, 0, none⟩ = some (.slice (some ⟨b2, o2, none⟩) l.length lc) ∧ W.cell? ⟨rb, 0, none⟩ = some (.int .i64 xst) ∧ W.cell? ⟨rb, 1, none⟩ = some (.int .i64 xpl) ∧ W.cell? ⟨rb, 2, none⟩ = some (.slice xa xs.length xc) ∧ W.cell? ⟨b2, o2 + (i - 1) * 3, none⟩ = some (.int .i64 pst) ∧ W.cell? ⟨b2, o2 + (i - 1) * 3 + 1, none⟩ = some (.int .i64 ppl) ∧ W.cell? ⟨b2, o2 + (i - 1) * 3 + 2, none⟩ = some pv) 25 (by kernel_rfl) 25 rfl ?_
      refine wpAnyL_take' (i := 0) (v := ?_) (oi := { dst := some 25, op := Op.fieldAddr 35 (Operand.tmp 5) 0, type := 0, pos := "ref.go:33", after := #[], guard := none }) rfl (by kernel_rfl) (by kernel_rfl) (by kernel_rfl) (by kernel_rfl) rfl (fun _ _ _ h => h) (Or.inl ⟨by rfl, ?_⟩) hS0 ?_
      rotate_left
      · intro W hSW
        go_simp
        try with_reducible rfl
      simp only [Act.put, List.setIfInBounds_toArray, List.set_cons_zero, List.set_cons_succ]
      refine wpAnyL_take' (i := 1) (v := ?_) (oi := { dst := some 26, op := Op.load 3 (Operand.tmp 25), type := 3, pos := "ref.go:33", after := #[{ on := 0, ground := Ground.data }], guard := none }) rfl (by kernel_rfl) (by kernel_rfl) (by kernel_rfl) (by kernel_rfl) rfl (fun _ _ _ h => h) (Or.inl ⟨by rfl, ?_⟩) hS0 ?_
      rotate_left
      · intro W hSW
        go_simp
        try with_reducible rfl
      simp only [Act.put, List.setIfInBounds_toArray, List.set_cons_zero, List.set_cons_succ]
      refine wpAnyL_one' (i := 2) (o := { dst := some 27, op := Op.call { callee := Callee.value (Operand.func 13), args := #[Operand.tmp 26], argTypes := #[3] }, type := 4, pos := "ref.go:33", after := #[{ on := 1, ground := Ground.data }], guard := none }) (by kernel_rfl) rfl rfl (fun KQ hK => ?_)
      go_simp
      refine HC1.mono ?_
      rintro e w6 ⟨rfl, rfl⟩
      refine hK.out _ _ (fun _ => hS0) ?_
      clear hK
      refine wpAnyL_take' (i := 3) (v := ?_) (oi := { dst := some 28, op := Op.unOp UnOp.not 4 (Operand.tmp 27), type := 4, pos := "ref.go:33", after := #[{ on := 2, ground := Ground.data }], guard := none }) rfl (by kernel_rfl) (by kernel_rfl) (by kernel_rfl) (by kernel_rfl) rfl (fun _ _ _ h => h) (Or.inl ⟨by rfl, ?_⟩) hS0 ?_
      rotate_left
      · intro W hSW
        go_simp
        try with_reducible rfl
      simp only [Act.put, List.setIfInBounds_toArray, List.set_cons_zero, List.set_cons_succ]
      refine wpAnyL_take' (i := 4) (v := ?_) (oi := { dst := some 29, op := Op.move (Operand.tmp 28), type := 4, pos := "ref.go:33", after := #[{ on := 3, ground := Ground.data }, { on := 2, ground := Ground.chain }], guard := none }) rfl (by kernel_rfl) (by kernel_rfl) (by kernel_rfl) (by kernel_rfl) rfl (fun _ _ _ h => h) (Or.inl ⟨by rfl, ?_⟩) hS0 ?_
      rotate_left
      · intro W hSW
        go_simp
        try with_reducible rfl
      simp only [Act.put, List.setIfInBounds_toArray, List.set_cons_zero, List.set_cons_succ]
      refine wpAnyL_take' (i := 5) (v := undef) (oi := { dst := some 30, op := Op.fieldAddr 35 (Operand.tmp 5) 1, type := 0, pos := "ref.go:33", after := #[{ on := 4, ground := Ground.guard }], guard := some (4, false) }) rfl (by kernel_rfl) (by kernel_rfl) (by kernel_rfl) (by kernel_rfl) rfl (fun _ _ _ h => h) (Or.inr ⟨by rfl, rfl⟩) hS0 ?_
      simp only [Act.put, List.setIfInBounds_toArray, List.set_cons_zero, List.set_cons_succ]
      refine wpAnyL_take' (i := 6) (v := undef) (oi := { dst := some 31, op := Op.load 3 (Operand.tmp 30), type := 3, pos := "ref.go:33", after := #[{ on := 5, ground := Ground.data }, { on := 4, ground := Ground.guard }], guard := some (4, false) }) rfl (by kernel_rfl) (by kernel_rfl) (by kernel_rfl) (by kernel_rfl) rfl (fun _ _ _ h => h) (Or.inr ⟨by rfl, rfl⟩) hS0 ?_
      simp only [Act.put, List.setIfInBounds_toArray, List.set_cons_zero, List.set_cons_succ]
      refine wpAnyL_take' (i := 7) (v := undef) (oi := { dst := some 32, op := Op.call { callee := Callee.value (Operand.func 13), args := #[Operand.tmp 31], argTypes := #[3] }, type := 4, pos := "ref.go:33", after := #[{ on := 6, ground := Ground.data }, { on := 4, ground := Ground.chain }, { on := 4, ground := Ground.guard }], guard := some (4, false) }) rfl (by kernel_rfl) (by kernel_rfl) (by kernel_rfl) (by kernel_rfl) rfl (fun _ _ _ h => h) (Or.inr ⟨by rfl, rfl⟩) hS0 ?_
      simp only [Act.put, List.setIfInBounds_toArray, List.set_cons_zero, List.set_cons_succ]
      refine wpAnyL_take' (i := 8) (v := undef) (oi := { dst := some 33, op := Op.unOp UnOp.not 4 (Operand.tmp 32), type := 4, pos := "ref.go:33", after := #[{ on := 7, ground := Ground.data }, { on := 4, ground := Ground.guard }], guard := some (4, false) }) rfl (by kernel_rfl) (by kernel_rfl) (by kernel_rfl) (by kernel_rfl) rfl (fun _ _ _ h => h) (Or.inr ⟨by rfl, rfl⟩) hS0 ?_
      simp only [Act.put, List.setIfInBounds_toArray, List.set_cons_zero, List.set_cons_succ]
      refine wpAnyL_take' (i := 9) (v := ?_) (oi := { dst := some 34, op := Op.pick (Operand.tmp 29) (Operand.const (Value.bool true)) (Operand.tmp 33), type := 4, pos := "ref.go:33", after := #[{ on := 4, ground := Ground.data }, { on := 8, ground := Ground.data }], guard := none }) rfl (by kernel_rfl) (by kernel_rfl) (by kernel_rfl) (by kernel_rfl) rfl (fun _ _ _ h => h) (Or.inl ⟨by rfl, ?_⟩) hS0 ?_
      rotate_left
      · intro W hSW
        go_simp
        try with_reducible rfl
      simp only [Act.put, List.setIfInBounds_toArray, List.set_cons_zero, List.set_cons_succ]
      refine wpAnyL_take' (i := 10) (v := ?_) (oi := { dst := some 35, op := Op.move (Operand.tmp 34), type := 4, pos := "ref.go:33", after := #[{ on := 9, ground := Ground.data }, { on := 7, ground := Ground.chain }], guard := none }) rfl (by kernel_rfl) (by kernel_rfl) (by kernel_rfl) (by kernel_rfl) rfl (fun _ _ _ h => h) (Or.inl ⟨by rfl, ?_⟩) hS0 ?_
      rotate_left
      · intro W hSW
        go_simp
        try with_reducible rfl
      simp only [Act.put, List.setIfInBounds_toArray, List.set_cons_zero, List.set_cons_succ]
      refine wpAnyL_take' (i := 11) (v := undef) (oi := { dst := some 36, op := Op.move (Operand.tmp 4), type := 3, pos := "ref.go:33", after := #[{ on := 10, ground := Ground.guard }], guard := some (10, false) }) rfl (by kernel_rfl) (by kernel_rfl) (by kernel_rfl) (by kernel_rfl) rfl (fun _ _ _ h => h) (Or.inr ⟨by rfl, rfl⟩) hS0 ?_
      simp only [Act.put, List.setIfInBounds_toArray, List.set_cons_zero, List.set_cons_succ]
      refine wpAnyL_take' (i := 12) (v := undef) (oi := { dst := some 37, op := Op.binOp BinOp.gtr 3 (Operand.tmp 36) (Operand.const (Value.int IntKind.i64 0)) 3, type := 4, pos := "ref.go:33", after := #[{ on := 11, ground := Ground.data }, { on := 10, ground := Ground.guard }], guard := some (10, false) }) rfl (by kernel_rfl) (by kernel_rfl) (by kernel_rfl) (by kernel_rfl) rfl (fun _ _ _ h => h) (Or.inr ⟨by rfl, rfl⟩) hS0 ?_
      simp only [Act.put, List.setIfInBounds_toArray, List.set_cons_zero, List.set_cons_succ]
      refine wpAnyL_take' (i := 13) (v := undef) (oi := { dst := some 38, op := Op.move (Operand.tmp 37), type := 4, pos := "ref.go:33", after := #[{ on := 12, ground := Ground.data }, { on := 10, ground := Ground.chain }, { on := 10, ground := Ground.guard }], guard := some (10, false) }) rfl (by kernel_rfl) (by kernel_rfl) (by kernel_rfl) (by kernel_rfl) rfl (fun _ _ _ h => h) (Or.inr ⟨by rfl, rfl⟩) hS0 ?_
      simp only [Act.put, List.setIfInBounds_toArray, List.set_cons_zero, List.set_cons_succ]
      refine wpAnyL_take' (i := 14) (v := undef) (oi := { dst := some 39, op := Op.fieldAddr 24 (Operand.tmp 1) 0, type := 0, pos := "ref.go:33", after := #[{ on := 13, ground := Ground.guard }], guard := some (13, true) }) rfl (by kernel_rfl) (by kernel_rfl) (by kernel_rfl) (by kernel_rfl) rfl (fun _ _ _ h => h) (Or.inr ⟨by rfl, rfl⟩) hS0 ?_
      simp only [Act.put, List.setIfInBounds_toArray, List.set_cons_zero, List.set_cons_succ]
      refine wpAnyL_take' (i := 15) (v := undef) (oi := { dst := some 40, op := Op.load 22 (Operand.tmp 39), type := 22, pos := "ref.go:33", after := #[{ on := 14, ground := Ground.data }, { on := 13, ground := Ground.guard }], guard := some (13, true) }) rfl (by kernel_rfl) (by kernel_rfl) (by kernel_rfl) (by kernel_rfl) rfl (fun _ _ _ h => h) (Or.inr ⟨by rfl, rfl⟩) hS0 ?_
      simp only [Act.put, List.setIfInBounds_toArray, List.set_cons_zero, List.set_cons_succ]
      refine wpAnyL_take' (i := 16) (v := undef) (oi := { dst := some 41, op := Op.move (Operand.tmp 4), type := 3, pos := "ref.go:33", after := #[{ on := 13, ground := Ground.guard }], guard := some (13, true) }) rfl (by kernel_rfl) (by kernel_rfl) (by kernel_rfl) (by kernel_rfl) rfl (fun _ _ _ h => h) (Or.inr ⟨by rfl, rfl⟩) hS0 ?_
      simp only [Act.put, List.setIfInBounds_toArray, List.set_cons_zero, List.set_cons_succ]
      refine wpAnyL_take' (i := 17) (v := undef) (oi := { dst := some 42, op := Op.binOp BinOp.sub 3 (Operand.tmp 41) (Operand.const (Value.int IntKind.i64 1)) 3, type := 3, pos := "ref.go:33", after := #[{ on := 16, ground := Ground.data }, { on := 13, ground := Ground.guard }], guard := some (13, true) }) rfl (by kernel_rfl) (by kernel_rfl) (by kernel_rfl) (by kernel_rfl) rfl (fun _ _ _ h => h) (Or.inr ⟨by rfl, rfl⟩) hS0 ?_
      simp only [Act.put, List.setIfInBounds_toArray, List.set_cons_zero, List.set_cons_succ]
      refine wpAnyL_take' (i := 18) (v := undef) (oi := { dst := some 43, op := Op.indexAddr 22 (Operand.tmp 40) (Operand.tmp 42), type := 0, pos := "ref.go:33", after := #[{ on := 15, ground := Ground.data }, { on := 17, ground := Ground.data }, { on := 13, ground := Ground.guard }], guard := some (13, true) }) rfl (by kernel_rfl) (by kernel_rfl) (by kernel_rfl) (by kernel_rfl) rfl (fun _ _ _ h => h) (Or.inr ⟨by rfl, rfl⟩) hS0 ?_
      simp only [Act.put, List.setIfInBounds_toArray, List.set_cons_zero, List.set_cons_succ]
      refine wpAnyL_take' (i := 19) (v := undef) (oi := { dst := some 44, op := Op.load 35 (Operand.tmp 43), type := 35, pos := "ref.go:33", after := #[{ on := 18, ground := Ground.data }, { on := 13, ground := Ground.guard }], guard := some (13, true) }) rfl (by kernel_rfl) (by kernel_rfl) (by kernel_rfl) (by kernel_rfl) rfl (fun _ _ _ h => h) (Or.inr ⟨by rfl, rfl⟩) hS0 ?_
      simp only [Act.put, List.setIfInBounds_toArray, List.set_cons_zero, List.set_cons_succ]
      refine wpAnyL_take' (i := 20) (v := undef) (oi := { dst := some 45, op := Op.load 35 (Operand.tmp 5), type := 35, pos := "ref.go:33", after := #[{ on := 13, ground := Ground.guard }], guard := some (13, true) }) rfl (by kernel_rfl) (by kernel_rfl) (by kernel_rfl) (by kernel_rfl) rfl (fun _ _ _ h => h) (Or.inr ⟨by rfl, rfl⟩) hS0 ?_
      simp only [Act.put, List.setIfInBounds_toArray, List.set_cons_zero, List.set_cons_succ]
      refine wpAnyL_take' (i := 21) (v := undef) (oi := { dst := some 46, op := Op.call { callee := Callee.value (Operand.func 14), args := #[Operand.tmp 44, Operand.tmp 45], argTypes := #[35, 35] }, type := 4, pos := "ref.go:33", after := #[{ on := 19, ground := Ground.data }, { on := 20, ground := Ground.data }, { on := 13, ground := Ground.chain }, { on := 13, ground := Ground.guard }], guard := some (13, true) }) rfl (by kernel_rfl) (by kernel_rfl) (by kernel_rfl) (by kernel_rfl) rfl (fun _ _ _ h => h) (Or.inr ⟨by rfl, rfl⟩) hS0 ?_
      simp only [Act.put, List.setIfInBounds_toArray, List.set_cons_zero, List.set_cons_succ]
      refine wpAnyL_take' (i := 22) (v := undef) (oi := { dst := some 47, op := Op.unOp UnOp.not 4 (Operand.tmp 46), type := 4, pos := "ref.go:33", after := #[{ on := 21, ground := Ground.data }, { on := 13, ground := Ground.guard }], guard := some (13, true) }) rfl (by kernel_rfl) (by kernel_rfl) (by kernel_rfl) (by kernel_rfl) rfl (fun _ _ _ h => h) (Or.inr ⟨by rfl, rfl⟩) hS0 ?_
      simp only [Act.put, List.setIfInBounds_toArray, List.set_cons_zero, List.set_cons_succ]
      refine wpAnyL_take' (i := 23) (v := undef) (oi := { dst := some 48, op := Op.pick (Operand.tmp 38) (Operand.tmp 47) (Operand.const (Value.bool false)), type := 4, pos := "ref.go:33", after := #[{ on := 13, ground := Ground.data }, { on := 22, ground := Ground.data }, { on := 10, ground := Ground.guard }], guard := some (10, false) }) rfl (by kernel_rfl) (by kernel_rfl) (by kernel_rfl) (by kernel_rfl) rfl (fun _ _ _ h => h) (Or.inr ⟨by rfl, rfl⟩) hS0 ?_
      simp only [Act.put, List.setIfInBounds_toArray, List.set_cons_zero, List.set_cons_succ]
      refine wpAnyL_take' (i := 24) (v := ?_) (oi := { dst := some 49, op := Op.pick (Operand.tmp 35) (Operand.const (Value.bool true)) (Operand.tmp 48), type := 4, pos := "ref.go:33", after := #[{ on := 10, ground := Ground.data }, { on := 23, ground := Ground.data }], guard := none }) rfl (by kernel_rfl) (by kernel_rfl) (by kernel_rfl) (by kernel_rfl) rfl (fun _ _ _ h => h) (Or.inl ⟨by rfl, ?_⟩) hS0 ?_
      rotate_left
      · intro W hSW
        go_simp
        try with_reducible rfl
      simp only [Act.put, List.setIfInBounds_toArray, List.set_cons_zero, List.set_cons_succ]
      refine wpAnyL_done (by kernel_rfl) ?_ _
      go_wp2_with fail
      go_meet
      exact ⟨by rw [HE.out]; rfl, BD0⟩
    | true =>
    cases A2 with
    | false =>
      have HE : Hid (GB = false) := HGN.out (fun h => by cases h.2.1)
      clear HGN HGB hw1 HC3
      go_wp2_with fail
      refine wp_region_L (fun W => W.cell? ⟨w.heap.size, 0, none⟩ = some (.slice (some ⟨b2, o2, none⟩) l.length lc) ∧ W.cell? ⟨rb, 0, none⟩ = some (.int .i64 xst) ∧ W.cell? ⟨rb, 1, none⟩ = some (.int .i64 xpl) ∧ W.cell? ⟨rb, 2, none⟩ = some (.slice xa xs.length xc) ∧ W.cell? ⟨b2, o2 + (i - 1) * 3, none⟩ = some (.int .i64 pst) ∧ W.cell? ⟨b2, o2 + (i - 1) * 3 + 1, none⟩ = some (.int .i64 ppl) ∧ W.cell? ⟨b2, o2 + (i - 1) * 3 + 2, none⟩ = some pv) 25 (by kernel_rfl) 25 rfl ?_
      refine wpAnyL_take' (i := 0) (v := ?_) (oi := { dst := some 25, op := Op.fieldAddr 35 (Operand.tmp 5) 0, type := 0, pos := "ref.go:33", after := #[], guard := none }) rfl (by kernel_rfl) (by kernel_rfl) (by kernel_rfl) (by kernel_rfl) rfl (fun _ _ _ h => h) (Or.inl ⟨by rfl, ?_⟩) hS0 ?_
      rotate_left
      · intro W hSW
        go_simp
        try with_reducible rfl
      simp only [Act.put, List.setIfInBounds_toArray, List.set_cons_zero, List.set_cons_succ]
      refine wpAnyL_take' (i := 1) (v := ?_) (oi := { dst := some 26, op := Op.load 3 (Operand.tmp 25), type := 3, pos := "ref.go:33", after := #[{ on := 0, ground := Ground.data }], guard := none }) rfl (by kernel_rfl) (by kernel_rfl) (by kernel_rfl) (by kernel_rfl) rfl (fun _ _ _ h => h) (Or.inl ⟨by rfl, ?_⟩) hS0 ?_
      rotate_left
      · intro W hSW
        go_simp
        try with_reducible rfl
      simp only [Act.put, List.setIfInBounds_toArray, List.set_cons_zero, List.set_cons_succ]
      refine wpAnyL_one' (i := 2) (o := { dst := some 27, op := Op.call { callee := Callee.value (Operand.func 13), args := #[Operand.tmp 26], argTypes := #[3] }, type := 4, pos := "ref.go:33", after := #[{ on := 1, ground := Ground.data }], guard := none }) (by kernel_rfl) rfl rfl (fun KQ hK => ?_)
      go_simp
      refine HC1.mono ?_
      rintro e w6 ⟨rfl, rfl⟩
      refine hK.out _ _ (fun _ => hS0) ?_
      clear hK
      refine wpAnyL_take' (i := 3) (v := ?_) (oi := { dst := some 28, op := Op.unOp UnOp.not 4 (Operand.tmp 27), type := 4, pos := "ref.go:33", after := #[{ on := 2, ground := Ground.data }], guard := none }) rfl (by kernel_rfl) (by kernel_rfl) (by kernel_rfl) (by kernel_rfl) rfl (fun _ _ _ h => h) (Or.inl ⟨by rfl, ?_⟩) hS0 ?_
      rotate_left
      · intro W hSW
        go_simp
        try with_reducible rfl
      simp only [Act.put, List.setIfInBounds_toArray, List.set_cons_zero, List.set_cons_succ]
      refine wpAnyL_take' (i := 4) (v := ?_) (oi := { dst := some 29, op := Op.move (Operand.tmp 28), type := 4, pos := "ref.go:33", after := #[{ on := 3, ground := Ground.data }, { on := 2, ground := Ground.chain }], guard := none }) rfl (by kernel_rfl) (by kernel_rfl) (by kernel_rfl) (by kernel_rfl) rfl (fun _ _ _ h => h) (Or.inl ⟨by rfl, ?_⟩) hS0 ?_
      rotate_left
      · intro W hSW
        go_simp
        try with_reducible rfl
      simp only [Act.put, List.setIfInBounds_toArray, List.set_cons_zero, List.set_cons_succ]
      refine wpAnyL_take' (i := 5) (v := ?_) (oi := { dst := some 30, op := Op.fieldAddr 35 (Operand.tmp 5) 1, type := 0, pos := "ref.go:33", after := #[{ on := 4, ground := Ground.guard }], guard := some (4, false) }) rfl (by kernel_rfl) (by kernel_rfl) (by kernel_rfl) (by kernel_rfl) rfl (fun _ _ _ h => h) (Or.inl ⟨by rfl, ?_⟩) hS0 ?_
      rotate_left
      · intro W hSW
        go_simp
        try with_reducible rfl
      simp only [Act.put, List.setIfInBounds_toArray, List.set_cons_zero, List.set_cons_succ]
      refine wpAnyL_take' (i := 6) (v := ?_) (oi := { dst := some 31, op := Op.load 3 (Operand.tmp 30), type := 3, pos := "ref.go:33", after := #[{ on := 5, ground := Ground.data }, { on := 4, ground := Ground.guard }], guard := some (4, false) }) rfl (by kernel_rfl) (by kernel_rfl) (by kernel_rfl) (by kernel_rfl) rfl (fun _ _ _ h => h) (Or.inl ⟨by rfl, ?_⟩) hS0 ?_
      rotate_left
      · intro W hSW
        go_simp
        try with_reducible rfl
      simp only [Act.put, List.setIfInBounds_toArray, List.set_cons_zero, List.set_cons_succ]
      refine wpAnyL_one' (i := 7) (o := { dst := some 32, op := Op.call { callee := Callee.value (Operand.func 13), args := #[Operand.tmp 31], argTypes := #[3] }, type := 4, pos := "ref.go:33", after := #[{ on := 6, ground := Ground.data }, { on := 4, ground := Ground.chain }, { on := 4, ground := Ground.guard }], guard := some (4, false) }) (by kernel_rfl) rfl rfl (fun KQ hK => ?_)
      go_simp
      refine HC2.mono ?_
      rintro e w6 ⟨rfl, rfl⟩
      refine hK.out _ _ (fun _ => hS0) ?_
      clear hK
      refine wpAnyL_take' (i := 8) (v := ?_) (oi := { dst := some 33, op := Op.unOp UnOp.not 4 (Operand.tmp 32), type := 4, pos := "ref.go:33", after := #[{ on := 7, ground := Ground.data }, { on := 4, ground := Ground.guard }], guard := some (4, false) }) rfl (by kernel_rfl) (by kernel_rfl) (by kernel_rfl) (by kernel_rfl) rfl (fun _ _ _ h => h) (Or.inl ⟨by rfl, ?_⟩) hS0 ?_
      rotate_left
      · intro W hSW
        go_simp
        try with_reducible rfl
      simp only [Act.put, List.setIfInBounds_toArray, List.set_cons_zero, List.set_cons_succ]
      refine wpAnyL_take' (i := 9) (v := ?_) (oi := { dst := some 34, op := Op.pick (Operand.tmp 29) (Operand.const (Value.bool true)) (Operand.tmp 33), type := 4, pos := "ref.go:33", after := #[{ on := 4, ground := Ground.data }, { on := 8, ground := Ground.data }], guard := none }) rfl (by kernel_rfl) (by kernel_rfl) (by kernel_rfl) (by kernel_rfl) rfl (fun _ _ _ h => h) (Or.inl ⟨by rfl, ?_⟩) hS0 ?_
      rotate_left
      · intro W hSW
        go_simp
        try with_reducible rfl
      simp only [Act.put, List.setIfInBounds_toArray, List.set_cons_zero, List.set_cons_succ]
      refine wpAnyL_take' (i := 10) (v := ?_) (oi := { dst := some 35, op := Op.move (Operand.tmp 34), type := 4, pos := "ref.go:33", after := #[{ on := 9, ground := Ground.data }, { on := 7, ground := Ground.chain }], guard := none }) rfl (by kernel_rfl) (by kernel_rfl) (by kernel_rfl) (by kernel_rfl) rfl (fun _ _ _ h => h) (Or.inl ⟨by rfl, ?_⟩) hS0 ?_
      rotate_left
      · intro W hSW
        go_simp
        try with_reducible rfl
      simp only [Act.put, List.setIfInBounds_toArray, List.set_cons_zero, List.set_cons_succ]
      refine wpAnyL_take' (i := 11) (v := undef) (oi := { dst := some 36, op := Op.move (Operand.tmp 4), type := 3, pos := "ref.go:33", after := #[{ on := 10, ground := Ground.guard }], guard := some (10, false) }) rfl (by kernel_rfl) (by kernel_rfl) (by kernel_rfl) (by kernel_rfl) rfl (fun _ _ _ h => h) (Or.inr ⟨by rfl, rfl⟩) hS0 ?_
      simp only [Act.put, List.setIfInBounds_toArray, List.set_cons_zero, List.set_cons_succ]
      refine wpAnyL_take' (i := 12) (v := undef) (oi := { dst := some 37, op := Op.binOp BinOp.gtr 3 (Operand.tmp 36) (Operand.const (Value.int IntKind.i64 0)) 3, type := 4, pos := "ref.go:33", after := #[{ on := 11, ground := Ground.data }, { on := 10, ground := Ground.guard }], guard := some (10, false) }) rfl (by kernel_rfl) (by kernel_rfl) (by kernel_rfl) (by kernel_rfl) rfl (fun _ _ _ h => h) (Or.inr ⟨by rfl, rfl⟩) hS0 ?_
      simp only [Act.put, List.setIfInBounds_toArray, List.set_cons_zero, List.set_cons_succ]
      refine wpAnyL_take' (i := 13) (v := undef) (oi := { dst := some 38, op := Op.move (Operand.tmp 37), type := 4, pos := "ref.go:33", after := #[{ on := 12, ground := Ground.data }, { on := 10, ground := Ground.chain }, { on := 10, ground := Ground.guard }], guard := some (10, false) }) rfl (by kernel_rfl) (by kernel_rfl) (by kernel_rfl) (by kernel_rfl) rfl (fun _ _ _ h => h) (Or.inr ⟨by rfl, rfl⟩) hS0 ?_
      simp only [Act.put, List.setIfInBounds_toArray, List.set_cons_zero, List.set_cons_succ]
      refine wpAnyL_take' (i := 14) (v := undef) (oi := { dst := some 39, op := Op.fieldAddr 24 (Operand.tmp 1) 0, type := 0, pos := "ref.go:33", after := #[{ on := 13, ground := Ground.guard }], guard := some (13, true) }) rfl (by kernel_rfl) (by kernel_rfl) (by kernel_rfl) (by kernel_rfl) rfl (fun _ _ _ h => h) (Or.inr ⟨by rfl, rfl⟩) hS0 ?_
      simp only [Act.put, List.setIfInBounds_toArray, List.set_cons_zero, List.set_cons_succ]
      refine wpAnyL_take' (i := 15) (v := undef) (oi := { dst := some 40, op := Op.load 22 (Operand.tmp 39), type := 22, pos := "ref.go:33", after := #[{ on := 14, ground := Ground.data }, { on := 13, ground := Ground.guard }], guard := some (13, true) }) rfl (by kernel_rfl) (by kernel_rfl) (by kernel_rfl) (by kernel_rfl) rfl (fun _ _ _ h => h) (Or.inr ⟨by rfl, rfl⟩) hS0 ?_
      simp only [Act.put, List.setIfInBounds_toArray, List.set_cons_zero, List.set_cons_succ]
      refine wpAnyL_take' (i := 16) (v := undef) (oi := { dst := some 41, op := Op.move (Operand.tmp 4), type := 3, pos := "ref.go:33", after := #[{ on := 13, ground := Ground.guard }], guard := some (13, true) }) rfl (by kernel_rfl) (by kernel_rfl) (by kernel_rfl) (by kernel_rfl) rfl (fun _ _ _ h => h) (Or.inr ⟨by rfl, rfl⟩) hS0 ?_
      simp only [Act.put, List.setIfInBounds_toArray, List.set_cons_zero, List.set_cons_succ]
      refine wpAnyL_take' (i := 17) (v := undef) (oi := { dst := some 42, op := Op.binOp BinOp.sub 3 (Operand.tmp 41) (Operand.const (Value.int IntKind.i64 1)) 3, type := 3, pos := "ref.go:33", after := #[{ on := 16, ground := Ground.data }, { on := 13, ground := Ground.guard }], guard := some (13, true) }) rfl (by kernel_rfl) (by kernel_rfl) (by kernel_rfl) (by kernel_rfl) rfl (fun _ _ _ h => h) (Or.inr ⟨by rfl, rfl⟩) hS0 ?_
      simp only [Act.put, List.setIfInBounds_toArray, List.set_cons_zero, List.set_cons_succ]
      refine wpAnyL_take' (i := 18) (v := undef) (oi := { dst := some 43, op := Op.indexAddr 22 (Operand.tmp 40) (Operand.tmp 42), type := 0, pos := "ref.go:33", after := #[{ on := 15, ground := Ground.data }, { on := 17, ground := Ground.data }, { on := 13, ground := Ground.guard }], guard := some (13, true) }) rfl (by kernel_rfl) (by kernel_rfl) (by kernel_rfl) (by kernel_rfl) rfl (fun _ _ _ h => h) (Or.inr ⟨by rfl, rfl⟩) hS0 ?_
      simp only [Act.put, List.setIfInBounds_toArray, List.set_cons_zero, List.set_cons_succ]
      refine wpAnyL_take' (i := 19) (v := undef) (oi := { dst := some 44, op := Op.load 35 (Operand.tmp 43), type := 35, pos := "ref.go:33", after := #[{ on := 18, ground := Ground.data }, { on := 13, ground := Ground.guard }], guard := some (13, true) }) rfl (by kernel_rfl) (by kernel_rfl) (by kernel_rfl) (by kernel_rfl) rfl (fun _ _ _ h => h) (Or.inr ⟨by rfl, rfl⟩) hS0 ?_
      simp only [Act.put, List.setIfInBounds_toArray, List.set_cons_zero, List.set_cons_succ]
      refine wpAnyL_take' (i := 20) (v := undef) (oi := { dst := some 45, op := Op.load 35 (Operand.tmp 5), type := 35, pos := "ref.go:33", after := #[{ on := 13, ground := Ground.guard }], guard := some (13, true) }) rfl (by kernel_rfl) (by kernel_rfl) (by kernel_rfl) (by kernel_rfl) rfl (fun _ _ _ h => h) (Or.inr ⟨by rfl, rfl⟩) hS0 ?_
      simp only [Act.put, List.setIfInBounds_toArray, List.set_cons_zero, List.set_cons_succ]
      refine wpAnyL_take' (i := 21) (v := undef) (oi := { dst := some 46, op := Op.call { callee := Callee.value (Operand.func 14), args := #[Operand.tmp 44, Operand.tmp 45], argTypes := #[35, 35] }, type := 4, pos := "ref.go:33", after := #[{ on := 19, ground := Ground.data }, { on := 20, ground := Ground.data }, { on := 13, ground := Ground.chain }, { on := 13, ground := Ground.guard }], guard := some (13, true) }) rfl (by kernel_rfl) (by kernel_rfl) (by kernel_rfl) (by kernel_rfl) rfl (fun _ _ _ h => h) (Or.inr ⟨by rfl, rfl⟩) hS0 ?_
      simp only [Act.put, List.setIfInBounds_toArray, List.set_cons_zero, List.set_cons_succ]
      refine wpAnyL_take' (i := 22) (v := undef) (oi := { dst := some 47, op := Op.unOp UnOp.not 4 (Operand.tmp 46), type := 4, pos := "ref.go:33", after := #[{ on := 21, ground := Ground.data }, { on := 13, ground := Ground.guard }], guard := some (13, true) }) rfl (by kernel_rfl) (by kernel_rfl) (by kernel_rfl) (by kernel_rfl) rfl (fun _ _ _ h => h) (Or.inr ⟨by rfl, rfl⟩) hS0 ?_
      simp only [Act.put, List.setIfInBounds_toArray, List.set_cons_zero, List.set_cons_succ]
      refine wpAnyL_take' (i := 23) (v := undef) (oi := { dst := some 48, op := Op.pick (Operand.tmp 38) (Operand.tmp 47) (Operand.const (Value.bool false)), type := 4, pos := "ref.go:33", after := #[{ on := 13, ground := Ground.data }, { on := 22, ground := Ground.data }, { on := 10, ground := Ground.guard }], guard := some (10, false) }) rfl (by kernel_rfl) (by kernel_rfl) (by kernel_rfl) (by kernel_rfl) rfl (fun _ _ _ h => h) (Or.inr ⟨by rfl, rfl⟩) hS0 ?_
      simp only [Act.put, List.setIfInBounds_toArray, List.set_cons_zero, List.set_cons_succ]
      refine wpAnyL_take' (i := 24) (v := ?_) (oi := { dst := some 49, op := Op.pick (Operand.tmp 35) (Operand.const (Value.bool true)) (Operand.tmp 48), type := 4, pos := "ref.go:33", after := #[{ on := 10, ground := Ground.data }, { on := 23, ground := Ground.data }], guard := none }) rfl (by kernel_rfl) (by kernel_rfl) (by kernel_rfl) (by kernel_rfl) rfl (fun _ _ _ h => h) (Or.inl ⟨by rfl, ?_⟩) hS0 ?_
      rotate_left
      · intro W hSW
        go_simp
        try with_reducible rfl
      simp only [Act.put, List.setIfInBounds_toArray, List.set_cons_zero, List.set_cons_succ]
      refine wpAnyL_done (by kernel_rfl) ?_ _
      go_wp2_with fail
      go_meet
      exact ⟨by rw [HE.out]; rfl, BD0⟩
    | true =>
    by_cases c3 : (0 : Int) < (i : Int)
    · have hw2 := hw1 (by omega)
      have g3 : decide ((0 : Int) < (i : Int)) = true := decide_eq_true c3
      have g5 : decide (0 < i) = true := decide_eq_true (by omega)
      have g6 : 0 < i := by omega
      cases A3 with
      | false =>
        have HE : Hid (GB = false) := HGN.out (fun h => by have := h.2.2 g6; cases this)
        clear HGN HGB hw1
        go_wp2_with fail
        refine wp_region_L (fun W => W.cell? ⟨w.heap.size, 0, none⟩ = some (.slice (some ⟨b2, o2, none⟩) l.length lc) ∧ W.cell? ⟨rb, 0, none⟩ = some (.int .i64 xst) ∧ W.cell? ⟨rb, 1, none⟩ = some (.int .i64 xpl) ∧ W.cell? ⟨rb, 2, none⟩ = some (.slice xa xs.length xc) ∧ W.cell? ⟨b2, o2 + (i - 1) * 3, none⟩ = some (.int .i64 pst) ∧ W.cell? ⟨b2, o2 + (i - 1) * 3 + 1, none⟩ = some (.int .i64 ppl) ∧ W.cell? ⟨b2, o2 + (i - 1) * 3 + 2, none⟩ = some pv) 25 (by kernel_rfl) 25 rfl ?_
        refine wpAnyL_take' (i := 0) (v := ?_) (oi := { dst := some 25, op := Op.fieldAddr 35 (Operand.tmp 5) 0, type := 0, pos := "ref.go:33", after := #[], guard := none }) rfl (by kernel_rfl) (by kernel_rfl) (by kernel_rfl) (by kernel_rfl) rfl (fun _ _ _ h => h) (Or.inl ⟨by rfl, ?_⟩) hS0 ?_
        rotate_left
        · intro W hSW
          go_simp
          try with_reducible rfl
        simp only [Act.put, List.setIfInBounds_toArray, List.set_cons_zero, List.set_cons_succ]
        refine wpAnyL_take' (i := 1) (v := ?_) (oi := { dst := some 26, op := Op.load 3 (Operand.tmp 25), type := 3, pos := "ref.go:33", after := #[{ on := 0, ground := Ground.data }], guard := none }) rfl (by kernel_rfl) (by kernel_rfl) (by kernel_rfl) (by kernel_rfl) rfl (fun _ _ _ h => h) (Or.inl ⟨by rfl, ?_⟩) hS0 ?_
        rotate_left
        · intro W hSW
          go_simp
          try with_reducible rfl
        simp only [Act.put, List.setIfInBounds_toArray, List.set_cons_zero, List.set_cons_succ]
        refine wpAnyL_one' (i := 2) (o := { dst := some 27, op := Op.call { callee := Callee.value (Operand.func 13), args := #[Operand.tmp 26], argTypes := #[3] }, type := 4, pos := "ref.go:33", after := #[{ on := 1, ground := Ground.data }], guard := none }) (by kernel_rfl) rfl rfl (fun KQ hK => ?_)
        go_simp
        refine HC1.mono ?_
        rintro e w6 ⟨rfl, rfl⟩
        refine hK.out _ _ (fun _ => hS0) ?_
        clear hK
        refine wpAnyL_take' (i := 3) (v := ?_) (oi := { dst := some 28, op := Op.unOp UnOp.not 4 (Operand.tmp 27), type := 4, pos := "ref.go:33", after := #[{ on := 2, ground := Ground.data }], guard := none }) rfl (by kernel_rfl) (by kernel_rfl) (by kernel_rfl) (by kernel_rfl) rfl (fun _ _ _ h => h) (Or.inl ⟨by rfl, ?_⟩) hS0 ?_
        rotate_left
        · intro W hSW
          go_simp
          try with_reducible rfl
        simp only [Act.put, List.setIfInBounds_toArray, List.set_cons_zero, List.set_cons_succ]
        refine wpAnyL_take' (i := 4) (v := ?_) (oi := { dst := some 29, op := Op.move (Operand.tmp 28), type := 4, pos := "ref.go:33", after := #[{ on := 3, ground := Ground.data }, { on := 2, ground := Ground.chain }], guard := none }) rfl (by kernel_rfl) (by kernel_rfl) (by kernel_rfl) (by kernel_rfl) rfl (fun _ _ _ h => h) (Or.inl ⟨by rfl, ?_⟩) hS0 ?_
        rotate_left
        · intro W hSW
          go_simp
          try with_reducible rfl
        simp only [Act.put, List.setIfInBounds_toArray, List.set_cons_zero, List.set_cons_succ]
        refine wpAnyL_take' (i := 5) (v := ?_) (oi := { dst := some 30, op := Op.fieldAddr 35 (Operand.tmp 5) 1, type := 0, pos := "ref.go:33", after := #[{ on := 4, ground := Ground.guard }], guard := some (4, false) }) rfl (by kernel_rfl) (by kernel_rfl) (by kernel_rfl) (by kernel_rfl) rfl (fun _ _ _ h => h) (Or.inl ⟨by rfl, ?_⟩) hS0 ?_
        rotate_left
        · intro W hSW
          go_simp
          try with_reducible rfl
        simp only [Act.put, List.setIfInBounds_toArray, List.set_cons_zero, List.set_cons_succ]
        refine wpAnyL_take' (i := 6) (v := ?_) (oi := { dst := some 31, op := Op.load 3 (Operand.tmp 30), type := 3, pos := "ref.go:33", after := #[{ on := 5, ground := Ground.data }, { on := 4, ground := Ground.guard }], guard := some (4, false) }) rfl (by kernel_rfl) (by kernel_rfl) (by kernel_rfl) (by kernel_rfl) rfl (fun _ _ _ h => h) (Or.inl ⟨by rfl, ?_⟩) hS0 ?_
        rotate_left
        · intro W hSW
          go_simp
          try with_reducible rfl
        simp only [Act.put, List.setIfInBounds_toArray, List.set_cons_zero, List.set_cons_succ]
        refine wpAnyL_one' (i := 7) (o := { dst := some 32, op := Op.call { callee := Callee.value (Operand.func 13), args := #[Operand.tmp 31], argTypes := #[3] }, type := 4, pos := "ref.go:33", after := #[{ on := 6, ground := Ground.data }, { on := 4, ground := Ground.chain }, { on := 4, ground := Ground.guard }], guard := some (4, false) }) (by kernel_rfl) rfl rfl (fun KQ hK => ?_)
        go_simp
        refine HC2.mono ?_
        rintro e w6 ⟨rfl, rfl⟩
        refine hK.out _ _ (fun _ => hS0) ?_
        clear hK
        refine wpAnyL_take' (i := 8) (v := ?_) (oi := { dst := some 33, op := Op.unOp UnOp.not 4 (Operand.tmp 32), type := 4, pos := "ref.go:33", after := #[{ on := 7, ground := Ground.data }, { on := 4, ground := Ground.guard }], guard := some (4, false) }) rfl (by kernel_rfl) (by kernel_rfl) (by kernel_rfl) (by kernel_rfl) rfl (fun _ _ _ h => h) (Or.inl ⟨by rfl, ?_⟩) hS0 ?_
        rotate_left
        · intro W hSW
          go_simp
          try with_reducible rfl
        simp only [Act.put, List.setIfInBounds_toArray, List.set_cons_zero, List.set_cons_succ]
        refine wpAnyL_take' (i := 9) (v := ?_) (oi := { dst := some 34, op := Op.pick (Operand.tmp 29) (Operand.const (Value.bool true)) (Operand.tmp 33), type := 4, pos := "ref.go:33", after := #[{ on := 4, ground := Ground.data }, { on := 8, ground := Ground.data }], guard := none }) rfl (by kernel_rfl) (by kernel_rfl) (by kernel_rfl) (by kernel_rfl) rfl (fun _ _ _ h => h) (Or.inl ⟨by rfl, ?_⟩) hS0 ?_
        rotate_left
        · intro W hSW
          go_simp
          try with_reducible rfl
        simp only [Act.put, List.setIfInBounds_toArray, List.set_cons_zero, List.set_cons_succ]
        refine wpAnyL_take' (i := 10) (v := ?_) (oi := { dst := some 35, op := Op.move (Operand.tmp 34), type := 4, pos := "ref.go:33", after := #[{ on := 9, ground := Ground.data }, { on := 7, ground := Ground.chain }], guard := none }) rfl (by kernel_rfl) (by kernel_rfl) (by kernel_rfl) (by kernel_rfl) rfl (fun _ _ _ h => h) (Or.inl ⟨by rfl, ?_⟩) hS0 ?_
        rotate_left
        · intro W hSW
          go_simp
          try with_reducible rfl
        simp only [Act.put, List.setIfInBounds_toArray, List.set_cons_zero, List.set_cons_succ]
        refine wpAnyL_take' (i := 11) (v := ?_) (oi := { dst := some 36, op := Op.move (Operand.tmp 4), type := 3, pos := "ref.go:33", after := #[{ on := 10, ground := Ground.guard }], guard := some (10, false) }) rfl (by kernel_rfl) (by kernel_rfl) (by kernel_rfl) (by kernel_rfl) rfl (fun _ _ _ h => h) (Or.inl ⟨by rfl, ?_⟩) hS0 ?_
        rotate_left
        · intro W hSW
          go_simp
          try with_reducible rfl
        simp only [Act.put, List.setIfInBounds_toArray, List.set_cons_zero, List.set_cons_succ]
        refine wpAnyL_take' (i := 12) (v := ?_) (oi := { dst := some 37, op := Op.binOp BinOp.gtr 3 (Operand.tmp 36) (Operand.const (Value.int IntKind.i64 0)) 3, type := 4, pos := "ref.go:33", after := #[{ on := 11, ground := Ground.data }, { on := 10, ground := Ground.guard }], guard := some (10, false) }) rfl (by kernel_rfl) (by kernel_rfl) (by kernel_rfl) (by kernel_rfl) rfl (fun _ _ _ h => h) (Or.inl ⟨by rfl, ?_⟩) hS0 ?_
        rotate_left
        · intro W hSW
          go_simp
          try with_reducible rfl
        simp only [Act.put, List.setIfInBounds_toArray, List.set_cons_zero, List.set_cons_succ]
        refine wpAnyL_take' (i := 13) (v := ?_) (oi := { dst := some 38, op := Op.move (Operand.tmp 37), type := 4, pos := "ref.go:33", after := #[{ on := 12, ground := Ground.data }, { on := 10, ground := Ground.chain }, { on := 10, ground := Ground.guard }], guard := some (10, false) }) rfl (by kernel_rfl) (by kernel_rfl) (by kernel_rfl) (by kernel_rfl) rfl (fun _ _ _ h => h) (Or.inl ⟨by rfl, ?_⟩) hS0 ?_
        rotate_left
        · intro W hSW
          go_simp
          try with_reducible rfl
        simp only [Act.put, List.setIfInBounds_toArray, List.set_cons_zero, List.set_cons_succ]
        refine wpAnyL_take' (i := 14) (v := ?_) (oi := { dst := some 39, op := Op.fieldAddr 24 (Operand.tmp 1) 0, type := 0, pos := "ref.go:33", after := #[{ on := 13, ground := Ground.guard }], guard := some (13, true) }) rfl (by kernel_rfl) (by kernel_rfl) (by kernel_rfl) (by kernel_rfl) rfl (fun _ _ _ h => h) (Or.inl ⟨by rfl, ?_⟩) hS0 ?_
        rotate_left
        · intro W hSW
          go_simp
          try with_reducible rfl
        simp only [Act.put, List.setIfInBounds_toArray, List.set_cons_zero, List.set_cons_succ]
        refine wpAnyL_take' (i := 15) (v := ?_) (oi := { dst := some 40, op := Op.load 22 (Operand.tmp 39), type := 22, pos := "ref.go:33", after := #[{ on := 14, ground := Ground.data }, { on := 13, ground := Ground.guard }], guard := some (13, true) }) rfl (by kernel_rfl) (by kernel_rfl) (by kernel_rfl) (by kernel_rfl) rfl (fun _ _ _ h => h) (Or.inl ⟨by rfl, ?_⟩) hS0 ?_
        rotate_left
        · intro W hSW
          go_simp
          try with_reducible rfl
        simp only [Act.put, List.setIfInBounds_toArray, List.set_cons_zero, List.set_cons_succ]
        refine wpAnyL_take' (i := 16) (v := ?_) (oi := { dst := some 41, op := Op.move (Operand.tmp 4), type := 3, pos := "ref.go:33", after := #[{ on := 13, ground := Ground.guard }], guard := some (13, true) }) rfl (by kernel_rfl) (by kernel_rfl) (by kernel_rfl) (by kernel_rfl) rfl (fun _ _ _ h => h) (Or.inl ⟨by rfl, ?_⟩) hS0 ?_
        rotate_left
        · intro W hSW
          go_simp
          try with_reducible rfl
        simp only [Act.put, List.setIfInBounds_toArray, List.set_cons_zero, List.set_cons_succ]
        refine wpAnyL_take' (i := 17) (v := ?_) (oi := { dst := some 42, op := Op.binOp BinOp.sub 3 (Operand.tmp 41) (Operand.const (Value.int IntKind.i64 1)) 3, type := 3, pos := "ref.go:33", after := #[{ on := 16, ground := Ground.data }, { on := 13, ground := Ground.guard }], guard := some (13, true) }) rfl (by kernel_rfl) (by kernel_rfl) (by kernel_rfl) (by kernel_rfl) rfl (fun _ _ _ h => h) (Or.inl ⟨by rfl, ?_⟩) hS0 ?_
        rotate_left
        · intro W hSW
          go_simp
          try with_reducible rfl
        simp only [Act.put, List.setIfInBounds_toArray, List.set_cons_zero, List.set_cons_succ]
        try simp only [hw2]
        refine wpAnyL_take' (i := 18) (v := ?_) (oi := { dst := some 43, op := Op.indexAddr 22 (Operand.tmp 40) (Operand.tmp 42), type := 0, pos := "ref.go:33", after := #[{ on := 15, ground := Ground.data }, { on := 17, ground := Ground.data }, { on := 13, ground := Ground.guard }], guard := some (13, true) }) rfl (by kernel_rfl) (by kernel_rfl) (by kernel_rfl) (by kernel_rfl) rfl (fun _ _ _ h => h) (Or.inl ⟨by rfl, ?_⟩) hS0 ?_
        rotate_left
        · intro W hSW
          go_simp
          try with_reducible rfl
        simp only [Act.put, List.setIfInBounds_toArray, List.set_cons_zero, List.set_cons_succ]
        refine wpAnyL_take' (i := 19) (v := ?_) (oi := { dst := some 44, op := Op.load 35 (Operand.tmp 43), type := 35, pos := "ref.go:33", after := #[{ on := 18, ground := Ground.data }, { on := 13, ground := Ground.guard }], guard := some (13, true) }) rfl (by kernel_rfl) (by kernel_rfl) (by kernel_rfl) (by kernel_rfl) rfl (fun _ _ _ h => h) (Or.inl ⟨by rfl, ?_⟩) hS0 ?_
        rotate_left
        · intro W hSW
          go_simp
          try with_reducible rfl
        simp only [Act.put, List.setIfInBounds_toArray, List.set_cons_zero, List.set_cons_succ]
        refine wpAnyL_take' (i := 20) (v := ?_) (oi := { dst := some 45, op := Op.load 35 (Operand.tmp 5), type := 35, pos := "ref.go:33", after := #[{ on := 13, ground := Ground.guard }], guard := some (13, true) }) rfl (by kernel_rfl) (by kernel_rfl) (by kernel_rfl) (by kernel_rfl) rfl (fun _ _ _ h => h) (Or.inl ⟨by rfl, ?_⟩) hS0 ?_
        rotate_left
        · intro W hSW
          go_simp
          try with_reducible rfl
        simp only [Act.put, List.setIfInBounds_toArray, List.set_cons_zero, List.set_cons_succ]
        refine wpAnyL_one' (i := 21) (o := { dst := some 46, op := Op.call { callee := Callee.value (Operand.func 14), args := #[Operand.tmp 44, Operand.tmp 45], argTypes := #[35, 35] }, type := 4, pos := "ref.go:33", after := #[{ on := 19, ground := Ground.data }, { on := 20, ground := Ground.data }, { on := 13, ground := Ground.chain }, { on := 13, ground := Ground.guard }], guard := some (13, true) }) (by kernel_rfl) rfl rfl (fun KQ hK => ?_)
        go_simp
        refine HC3.mono ?_
        rintro e w6 ⟨rfl, b6⟩
        have hS1 : (fun W : World => (W.cell? ⟨w.heap.size, 0, none⟩ = some (.slice (some ⟨b2, o2, none⟩) l.length lc) ∧ W.cell? ⟨rb, 0, none⟩ = some (.int .i64 xst) ∧ W.cell? ⟨rb, 1, none⟩ = some (.int .i64 xpl) ∧ W.cell? ⟨rb, 2, none⟩ = some (.slice xa xs.length xc) ∧ W.cell? ⟨b2, o2 + (i - 1) * 3, none⟩ = some (.int .i64 pst) ∧ W.cell? ⟨b2, o2 + (i - 1) * 3 + 1, none⟩ = some (.int .i64 ppl) ∧ W.cell? ⟨b2, o2 + (i - 1) * 3 + 2, none⟩ = some pv)) w6 := HSS.out _ (BD0.trans (b6.mono BD0.size))
        refine hK.out _ _ (fun _ => hS1) ?_
        clear hK
        refine wpAnyL_take' (i := 22) (v := ?_) (oi := { dst := some 47, op := Op.unOp UnOp.not 4 (Operand.tmp 46), type := 4, pos := "ref.go:33", after := #[{ on := 21, ground := Ground.data }, { on := 13, ground := Ground.guard }], guard := some (13, true) }) rfl (by kernel_rfl) (by kernel_rfl) (by kernel_rfl) (by kernel_rfl) rfl (fun _ _ _ h => h) (Or.inl ⟨by rfl, ?_⟩) hS1 ?_
        rotate_left
        · intro W hSW
          go_simp
          try with_reducible rfl
        simp only [Act.put, List.setIfInBounds_toArray, List.set_cons_zero, List.set_cons_succ]
        refine wpAnyL_take' (i := 23) (v := ?_) (oi := { dst := some 48, op := Op.pick (Operand.tmp 38) (Operand.tmp 47) (Operand.const (Value.bool false)), type := 4, pos := "ref.go:33", after := #[{ on := 13, ground := Ground.data }, { on := 22, ground := Ground.data }, { on := 10, ground := Ground.guard }], guard := some (10, false) }) rfl (by kernel_rfl) (by kernel_rfl) (by kernel_rfl) (by kernel_rfl) rfl (fun _ _ _ h => h) (Or.inl ⟨by rfl, ?_⟩) hS1 ?_
        rotate_left
        · intro W hSW
          go_simp
          try with_reducible rfl
        simp only [Act.put, List.setIfInBounds_toArray, List.set_cons_zero, List.set_cons_succ]
        refine wpAnyL_take' (i := 24) (v := ?_) (oi := { dst := some 49, op := Op.pick (Operand.tmp 35) (Operand.const (Value.bool true)) (Operand.tmp 48), type := 4, pos := "ref.go:33", after := #[{ on := 10, ground := Ground.data }, { on := 23, ground := Ground.data }], guard := none }) rfl (by kernel_rfl) (by kernel_rfl) (by kernel_rfl) (by kernel_rfl) rfl (fun _ _ _ h => h) (Or.inl ⟨by rfl, ?_⟩) hS1 ?_
        rotate_left
        · intro W hSW
          go_simp
          try with_reducible rfl
        simp only [Act.put, List.setIfInBounds_toArray, List.set_cons_zero, List.set_cons_succ]
        refine wpAnyL_done (by kernel_rfl) ?_ _
        go_wp2_with fail
        go_meet
        exact ⟨by rw [HE.out]; rfl, BD0.trans (b6.mono BD0.size)⟩
      | true =>
        have HE : Hid (GB = true) := HGB.out.1 ⟨rfl, rfl, fun _ => rfl⟩
        clear HGN HGB hw1
        go_wp2_with fail
        refine wp_region_L (fun W => W.cell? ⟨w.heap.size, 0, none⟩ = some (.slice (some ⟨b2, o2, none⟩) l.length lc) ∧ W.cell? ⟨rb, 0, none⟩ = some (.int .i64 xst) ∧ W.cell? ⟨rb, 1, none⟩ = some (.int .i64 xpl) ∧ W.cell? ⟨rb, 2, none⟩ = some (.slice xa xs.length xc) ∧ W.cell? ⟨b2, o2 + (i - 1) * 3, none⟩ = some (.int .i64 pst) ∧ W.cell? ⟨b2, o2 + (i - 1) * 3 + 1, none⟩ = some (.int .i64 ppl) ∧ W.cell? ⟨b2, o2 + (i - 1) * 3 + 2, none⟩ = some pv) 25 (by kernel_rfl) 25 rfl ?_
        refine wpAnyL_take' (i := 0) (v := ?_) (oi := { dst := some 25, op := Op.fieldAddr 35 (Operand.tmp 5) 0, type := 0, pos := "ref.go:33", after := #[], guard := none }) rfl (by kernel_rfl) (by kernel_rfl) (by kernel_rfl) (by kernel_rfl) rfl (fun _ _ _ h => h) (Or.inl ⟨by rfl, ?_⟩) hS0 ?_
        rotate_left
        · intro W hSW
          go_simp
          try with_reducible rfl
        simp only [Act.put, List.setIfInBounds_toArray, List.set_cons_zero, List.set_cons_succ]
        refine wpAnyL_take' (i := 1) (v := ?_) (oi := { dst := some 26, op := Op.load 3 (Operand.tmp 25), type := 3, pos := "ref.go:33", after := #[{ on := 0, ground := Ground.data }], guard := none }) rfl (by kernel_rfl) (by kernel_rfl) (by kernel_rfl) (by kernel_rfl) rfl (fun _ _ _ h => h) (Or.inl ⟨by rfl, ?_⟩) hS0 ?_
        rotate_left
        · intro W hSW
          go_simp
          try with_reducible rfl
        simp only [Act.put, List.setIfInBounds_toArray, List.set_cons_zero, List.set_cons_succ]
        refine wpAnyL_one' (i := 2) (o := { dst := some 27, op := Op.call { callee := Callee.value (Operand.func 13), args := #[Operand.tmp 26], argTypes := #[3] }, type := 4, pos := "ref.go:33", after := #[{ on := 1, ground := Ground.data }], guard := none }) (by kernel_rfl) rfl rfl (fun KQ hK => ?_)
        go_simp
        refine HC1.mono ?_
        rintro e w6 ⟨rfl, rfl⟩
        refine hK.out _ _ (fun _ => hS0) ?_
        clear hK
        refine wpAnyL_take' (i := 3) (v := ?_) (oi := { dst := some 28, op := Op.unOp UnOp.not 4 (Operand.tmp 27), type := 4, pos := "ref.go:33", after := #[{ on := 2, ground := Ground.data }], guard := none }) rfl (by kernel_rfl) (by kernel_rfl) (by kernel_rfl) (by kernel_rfl) rfl (fun _ _ _ h => h) (Or.inl ⟨by rfl, ?_⟩) hS0 ?_
        rotate_left
        · intro W hSW
          go_simp
          try with_reducible rfl
        simp only [Act.put, List.setIfInBounds_toArray, List.set_cons_zero, List.set_cons_succ]
        refine wpAnyL_take' (i := 4) (v := ?_) (oi := { dst := some 29, op := Op.move (Operand.tmp 28), type := 4, pos := "ref.go:33", after := #[{ on := 3, ground := Ground.data }, { on := 2, ground := Ground.chain }], guard := none }) rfl (by kernel_rfl) (by kernel_rfl) (by kernel_rfl) (by kernel_rfl) rfl (fun _ _ _ h => h) (Or.inl ⟨by rfl, ?_⟩) hS0 ?_
        rotate_left
        · intro W hSW
          go_simp
          try with_reducible rfl
        simp only [Act.put, List.setIfInBounds_toArray, List.set_cons_zero, List.set_cons_succ]
        refine wpAnyL_take' (i := 5) (v := ?_) (oi := { dst := some 30, op := Op.fieldAddr 35 (Operand.tmp 5) 1, type := 0, pos := "ref.go:33", after := #[{ on := 4, ground := Ground.guard }], guard := some (4, false) }) rfl (by kernel_rfl) (by kernel_rfl) (by kernel_rfl) (by kernel_rfl) rfl (fun _ _ _ h => h) (Or.inl ⟨by rfl, ?_⟩) hS0 ?_
        rotate_left
        · intro W hSW
          go_simp
          try with_reducible rfl
        simp only [Act.put, List.setIfInBounds_toArray, List.set_cons_zero, List.set_cons_succ]
        refine wpAnyL_take' (i := 6) (v := ?_) (oi := { dst := some 31, op := Op.load 3 (Operand.tmp 30), type := 3, pos := "ref.go:33", after := #[{ on := 5, ground := Ground.data }, { on := 4, ground := Ground.guard }], guard := some (4, false) }) rfl (by kernel_rfl) (by kernel_rfl) (by kernel_rfl) (by kernel_rfl) rfl (fun _ _ _ h => h) (Or.inl ⟨by rfl, ?_⟩) hS0 ?_
        rotate_left
        · intro W hSW
          go_simp
          try with_reducible rfl
        simp only [Act.put, List.setIfInBounds_toArray, List.set_cons_zero, List.set_cons_succ]
        refine wpAnyL_one' (i := 7) (o := { dst := some 32, op := Op.call { callee := Callee.value (Operand.func 13), args := #[Operand.tmp 31], argTypes := #[3] }, type := 4, pos := "ref.go:33", after := #[{ on := 6, ground := Ground.data }, { on := 4, ground := Ground.chain }, { on := 4, ground := Ground.guard }], guard := some (4, false) }) (by kernel_rfl) rfl rfl (fun KQ hK => ?_)
        go_simp
        refine HC2.mono ?_
        rintro e w6 ⟨rfl, rfl⟩
        refine hK.out _ _ (fun _ => hS0) ?_
        clear hK
        refine wpAnyL_take' (i := 8) (v := ?_) (oi := { dst := some 33, op := Op.unOp UnOp.not 4 (Operand.tmp 32), type := 4, pos := "ref.go:33", after := #[{ on := 7, ground := Ground.data }, { on := 4, ground := Ground.guard }], guard := some (4, false) }) rfl (by kernel_rfl) (by kernel_rfl) (by kernel_rfl) (by kernel_rfl) rfl (fun _ _ _ h => h) (Or.inl ⟨by rfl, ?_⟩) hS0 ?_
        rotate_left
        · intro W hSW
          go_simp
          try with_reducible rfl
        simp only [Act.put, List.setIfInBounds_toArray, List.set_cons_zero, List.set_cons_succ]
        refine wpAnyL_take' (i := 9) (v := ?_) (oi := { dst := some 34, op := Op.pick (Operand.tmp 29) (Operand.const (Value.bool true)) (Operand.tmp 33), type := 4, pos := "ref.go:33", after := #[{ on := 4, ground := Ground.data }, { on := 8, ground := Ground.data }], guard := none }) rfl (by kernel_rfl) (by kernel_rfl) (by kernel_rfl) (by kernel_rfl) rfl (fun _ _ _ h => h) (Or.inl ⟨by rfl, ?_⟩) hS0 ?_
        rotate_left
        · intro W hSW
          go_simp
          try with_reducible rfl
        simp only [Act.put, List.setIfInBounds_toArray, List.set_cons_zero, List.set_cons_succ]
        refine wpAnyL_take' (i := 10) (v := ?_) (oi := { dst := some 35, op := Op.move (Operand.tmp 34), type := 4, pos := "ref.go:33", after := #[{ on := 9, ground := Ground.data }, { on := 7, ground := Ground.chain }], guard := none }) rfl (by kernel_rfl) (by kernel_rfl) (by kernel_rfl) (by kernel_rfl) rfl (fun _ _ _ h => h) (Or.inl ⟨by rfl, ?_⟩) hS0 ?_
        rotate_left
        · intro W hSW
          go_simp
          try with_reducible rfl
        simp only [Act.put, List.setIfInBounds_toArray, List.set_cons_zero, List.set_cons_succ]
        refine wpAnyL_take' (i := 11) (v := ?_) (oi := { dst := some 36, op := Op.move (Operand.tmp 4), type := 3, pos := "ref.go:33", after := #[{ on := 10, ground := Ground.guard }], guard := some (10, false) }) rfl (by kernel_rfl) (by kernel_rfl) (by kernel_rfl) (by kernel_rfl) rfl (fun _ _ _ h => h) (Or.inl ⟨by rfl, ?_⟩) hS0 ?_
        rotate_left
        · intro W hSW
          go_simp
          try with_reducible rfl
        simp only [Act.put, List.setIfInBounds_toArray, List.set_cons_zero, List.set_cons_succ]
        refine wpAnyL_take' (i := 12) (v := ?_) (oi := { dst := some 37, op := Op.binOp BinOp.gtr 3 (Operand.tmp 36) (Operand.const (Value.int IntKind.i64 0)) 3, type := 4, pos := "ref.go:33", after := #[{ on := 11, ground := Ground.data }, { on := 10, ground := Ground.guard }], guard := some (10, false) }) rfl (by kernel_rfl) (by kernel_rfl) (by kernel_rfl) (by kernel_rfl) rfl (fun _ _ _ h => h) (Or.inl ⟨by rfl, ?_⟩) hS0 ?_
        rotate_left
        · intro W hSW
          go_simp
          try with_reducible rfl
        simp only [Act.put, List.setIfInBounds_toArray, List.set_cons_zero, List.set_cons_succ]
        refine wpAnyL_take' (i := 13) (v := ?_) (oi := { dst := some 38, op := Op.move (Operand.tmp 37), type := 4, pos := "ref.go:33", after := #[{ on := 12, ground := Ground.data }, { on := 10, ground := Ground.chain }, { on := 10, ground := Ground.guard }], guard := some (10, false) }) rfl (by kernel_rfl) (by kernel_rfl) (by kernel_rfl) (by kernel_rfl) rfl (fun _ _ _ h => h) (Or.inl ⟨by rfl, ?_⟩) hS0 ?_
        rotate_left
        · intro W hSW
          go_simp
          try with_reducible rfl
        simp only [Act.put, List.setIfInBounds_toArray, List.set_cons_zero, List.set_cons_succ]
        refine wpAnyL_take' (i := 14) (v := ?_) (oi := { dst := some 39, op := Op.fieldAddr 24 (Operand.tmp 1) 0, type := 0, pos := "ref.go:33", after := #[{ on := 13, ground := Ground.guard }], guard := some (13, true) }) rfl (by kernel_rfl) (by kernel_rfl) (by kernel_rfl) (by kernel_rfl) rfl (fun _ _ _ h => h) (Or.inl ⟨by rfl, ?_⟩) hS0 ?_
        rotate_left
        · intro W hSW
          go_simp
          try with_reducible rfl
        simp only [Act.put, List.setIfInBounds_toArray, List.set_cons_zero, List.set_cons_succ]
        refine wpAnyL_take' (i := 15) (v := ?_) (oi := { dst := some 40, op := Op.load 22 (Operand.tmp 39), type := 22, pos := "ref.go:33", after := #[{ on := 14, ground := Ground.data }, { on := 13, ground := Ground.guard }], guard := some (13, true) }) rfl (by kernel_rfl) (by kernel_rfl) (by kernel_rfl) (by kernel_rfl) rfl (fun _ _ _ h => h) (Or.inl ⟨by rfl, ?_⟩) hS0 ?_
        rotate_left
        · intro W hSW
          go_simp
          try with_reducible rfl
        simp only [Act.put, List.setIfInBounds_toArray, List.set_cons_zero, List.set_cons_succ]
        refine wpAnyL_take' (i := 16) (v := ?_) (oi := { dst := some 41, op := Op.move (Operand.tmp 4), type := 3, pos := "ref.go:33", after := #[{ on := 13, ground := Ground.guard }], guard := some (13, true) }) rfl (by kernel_rfl) (by kernel_rfl) (by kernel_rfl) (by kernel_rfl) rfl (fun _ _ _ h => h) (Or.inl ⟨by rfl, ?_⟩) hS0 ?_
        rotate_left
        · intro W hSW
          go_simp
          try with_reducible rfl
        simp only [Act.put, List.setIfInBounds_toArray, List.set_cons_zero, List.set_cons_succ]
        refine wpAnyL_take' (i := 17) (v := ?_) (oi := { dst := some 42, op := Op.binOp BinOp.sub 3 (Operand.tmp 41) (Operand.const (Value.int IntKind.i64 1)) 3, type := 3, pos := "ref.go:33", after := #[{ on := 16, ground := Ground.data }, { on := 13, ground := Ground.guard }], guard := some (13, true) }) rfl (by kernel_rfl) (by kernel_rfl) (by kernel_rfl) (by kernel_rfl) rfl (fun _ _ _ h => h) (Or.inl ⟨by rfl, ?_⟩) hS0 ?_
        rotate_left
        · intro W hSW
          go_simp
          try with_reducible rfl
        simp only [Act.put, List.setIfInBounds_toArray, List.set_cons_zero, List.set_cons_succ]
        try simp only [hw2]
        refine wpAnyL_take' (i := 18) (v := ?_) (oi := { dst := some 43, op := Op.indexAddr 22 (Operand.tmp 40) (Operand.tmp 42), type := 0, pos := "ref.go:33", after := #[{ on := 15, ground := Ground.data }, { on := 17, ground := Ground.data }, { on := 13, ground := Ground.guard }], guard := some (13, true) }) rfl (by kernel_rfl) (by kernel_rfl) (by kernel_rfl) (by kernel_rfl) rfl (fun _ _ _ h => h) (Or.inl ⟨by rfl, ?_⟩) hS0 ?_
        rotate_left
        · intro W hSW
          go_simp
          try with_reducible rfl
        simp only [Act.put, List.setIfInBounds_toArray, List.set_cons_zero, List.set_cons_succ]
        refine wpAnyL_take' (i := 19) (v := ?_) (oi := { dst := some 44, op := Op.load 35 (Operand.tmp 43), type := 35, pos := "ref.go:33", after := #[{ on := 18, ground := Ground.data }, { on := 13, ground := Ground.guard }], guard := some (13, true) }) rfl (by kernel_rfl) (by kernel_rfl) (by kernel_rfl) (by kernel_rfl) rfl (fun _ _ _ h => h) (Or.inl ⟨by rfl, ?_⟩) hS0 ?_
        rotate_left
        · intro W hSW
          go_simp
          try with_reducible rfl
        simp only [Act.put, List.setIfInBounds_toArray, List.set_cons_zero, List.set_cons_succ]
        refine wpAnyL_take' (i := 20) (v := ?_) (oi := { dst := some 45, op := Op.load 35 (Operand.tmp 5), type := 35, pos := "ref.go:33", after := #[{ on := 13, ground := Ground.guard }], guard := some (13, true) }) rfl (by kernel_rfl) (by kernel_rfl) (by kernel_rfl) (by kernel_rfl) rfl (fun _ _ _ h => h) (Or.inl ⟨by rfl, ?_⟩) hS0 ?_
        rotate_left
        · intro W hSW
          go_simp
          try with_reducible rfl
        simp only [Act.put, List.setIfInBounds_toArray, List.set_cons_zero, List.set_cons_succ]
        refine wpAnyL_one' (i := 21) (o := { dst := some 46, op := Op.call { callee := Callee.value (Operand.func 14), args := #[Operand.tmp 44, Operand.tmp 45], argTypes := #[35, 35] }, type := 4, pos := "ref.go:33", after := #[{ on := 19, ground := Ground.data }, { on := 20, ground := Ground.data }, { on := 13, ground := Ground.chain }, { on := 13, ground := Ground.guard }], guard := some (13, true) }) (by kernel_rfl) rfl rfl (fun KQ hK => ?_)
        go_simp
        refine HC3.mono ?_
        rintro e w6 ⟨rfl, b6⟩
        have hS1 : (fun W : World => (W.cell? ⟨w.heap.size, 0, none⟩ = some (.slice (some ⟨b2, o2, none⟩) l.length lc) ∧ W.cell? ⟨rb, 0, none⟩ = some (.int .i64 xst) ∧ W.cell? ⟨rb, 1, none⟩ = some (.int .i64 xpl) ∧ W.cell? ⟨rb, 2, none⟩ = some (.slice xa xs.length xc) ∧ W.cell? ⟨b2, o2 + (i - 1) * 3, none⟩ = some (.int .i64 pst) ∧ W.cell? ⟨b2, o2 + (i - 1) * 3 + 1, none⟩ = some (.int .i64 ppl) ∧ W.cell? ⟨b2, o2 + (i - 1) * 3 + 2, none⟩ = some pv)) w6 := HSS.out _ (BD0.trans (b6.mono BD0.size))
        refine hK.out _ _ (fun _ => hS1) ?_
        clear hK
        refine wpAnyL_take' (i := 22) (v := ?_) (oi := { dst := some 47, op := Op.unOp UnOp.not 4 (Operand.tmp 46), type := 4, pos := "ref.go:33", after := #[{ on := 21, ground := Ground.data }, { on := 13, ground := Ground.guard }], guard := some (13, true) }) rfl (by kernel_rfl) (by kernel_rfl) (by kernel_rfl) (by kernel_rfl) rfl (fun _ _ _ h => h) (Or.inl ⟨by rfl, ?_⟩) hS1 ?_
        rotate_left
        · intro W hSW
          go_simp
          try with_reducible rfl
        simp only [Act.put, List.setIfInBounds_toArray, List.set_cons_zero, List.set_cons_succ]
        refine wpAnyL_take' (i := 23) (v := ?_) (oi := { dst := some 48, op := Op.pick (Operand.tmp 38) (Operand.tmp 47) (Operand.const (Value.bool false)), type := 4, pos := "ref.go:33", after := #[{ on := 13, ground := Ground.data }, { on := 22, ground := Ground.data }, { on := 10, ground := Ground.guard }], guard := some (10, false) }) rfl (by kernel_rfl) (by kernel_rfl) (by kernel_rfl) (by kernel_rfl) rfl (fun _ _ _ h => h) (Or.inl ⟨by rfl, ?_⟩) hS1 ?_
        rotate_left
        · intro W hSW
          go_simp
          try with_reducible rfl
        simp only [Act.put, List.setIfInBounds_toArray, List.set_cons_zero, List.set_cons_succ]
        refine wpAnyL_take' (i := 24) (v := ?_) (oi := { dst := some 49, op := Op.pick (Operand.tmp 35) (Operand.const (Value.bool true)) (Operand.tmp 48), type := 4, pos := "ref.go:33", after := #[{ on := 10, ground := Ground.data }, { on := 23, ground := Ground.data }], guard := none }) rfl (by kernel_rfl) (by kernel_rfl) (by kernel_rfl) (by kernel_rfl) rfl (fun _ _ _ h => h) (Or.inl ⟨by rfl, ?_⟩) hS1 ?_
        rotate_left
        · intro W hSW
          go_simp
          try with_reducible rfl
        simp only [Act.put, List.setIfInBounds_toArray, List.set_cons_zero, List.set_cons_succ]
        refine wpAnyL_done (by kernel_rfl) ?_ _
        go_wp2_with fail
        go_meet
        exact ⟨by rw [HE.out]; rfl, BD0.trans (b6.mono BD0.size)⟩
    · have g3 : decide ((0 : Int) < (i : Int)) = false := decide_eq_false c3
      have g5 : decide (0 < i) = false := decide_eq_false (by omega)
      have g6 : ¬ 0 < i := by omega
      have HE : Hid (GB = true) := HGB.out.1 ⟨rfl, rfl, fun h => absurd h g6⟩
      clear HGN HGB hw1 HC3
      go_wp2_with fail
      refine wp_region_L (fun W => W.cell? ⟨w.heap.size, 0, none⟩ = some (.slice (some ⟨b2, o2, none⟩) l.length lc) ∧ W.cell? ⟨rb, 0, none⟩ = some (.int .i64 xst) ∧ W.cell? ⟨rb, 1, none⟩ = some (.int .i64 xpl) ∧ W.cell? ⟨rb, 2, none⟩ = some (.slice xa xs.length xc) ∧ W.cell? ⟨b2, o2 + (i - 1) * 3, none⟩ = some (.int .i64 pst) ∧ W.cell? ⟨b2, o2 + (i - 1) * 3 + 1, none⟩ = some (.int .i64 ppl) ∧ W.cell? ⟨b2, o2 + (i - 1) * 3 + 2, none⟩ = some pv) 25 (by kernel_rfl) 25 rfl ?_
      refine wpAnyL_take' (i := 0) (v := ?_) (oi := { dst := some 25, op := Op.fieldAddr 35 (Operand.tmp 5) 0, type := 0, pos := "ref.go:33", after := #[], guard := none }) rfl (by kernel_rfl) (by kernel_rfl) (by kernel_rfl) (by kernel_rfl) rfl (fun _ _ _ h => h) (Or.inl ⟨by rfl, ?_⟩) hS0 ?_
      rotate_left
      · intro W hSW
        go_simp
        try with_reducible rfl
      simp only [Act.put, List.setIfInBounds_toArray, List.set_cons_zero, List.set_cons_succ]
      refine wpAnyL_take' (i := 1) (v := ?_) (oi := { dst := some 26, op := Op.load 3 (Operand.tmp 25), type := 3, pos := "ref.go:33", after := #[{ on := 0, ground := Ground.data }], guard := none }) rfl (by kernel_rfl) (by kernel_rfl) (by kernel_rfl) (by kernel_rfl) rfl (fun _ _ _ h => h) (Or.inl ⟨by rfl, ?_⟩) hS0 ?_
      rotate_left
      · intro W hSW
        go_simp
        try with_reducible rfl
      simp only [Act.put, List.setIfInBounds_toArray, List.set_cons_zero, List.set_cons_succ]
      refine wpAnyL_one' (i := 2) (o := { dst := some 27, op := Op.call { callee := Callee.value (Operand.func 13), args := #[Operand.tmp 26], argTypes := #[3] }, type := 4, pos := "ref.go:33", after := #[{ on := 1, ground := Ground.data }], guard := none }) (by kernel_rfl) rfl rfl (fun KQ hK => ?_)
      go_simp
      refine HC1.mono ?_
      rintro e w6 ⟨rfl, rfl⟩
      refine hK.out _ _ (fun _ => hS0) ?_
      clear hK
      refine wpAnyL_take' (i := 3) (v := ?_) (oi := { dst := some 28, op := Op.unOp UnOp.not 4 (Operand.tmp 27), type := 4, pos := "ref.go:33", after := #[{ on := 2, ground := Ground.data }], guard := none }) rfl (by kernel_rfl) (by kernel_rfl) (by kernel_rfl) (by kernel_rfl) rfl (fun _ _ _ h => h) (Or.inl ⟨by rfl, ?_⟩) hS0 ?_
      rotate_left
      · intro W hSW
        go_simp
        try with_reducible rfl
      simp only [Act.put, List.setIfInBounds_toArray, List.set_cons_zero, List.set_cons_succ]
      refine wpAnyL_take' (i := 4) (v := ?_) (oi := { dst := some 29, op := Op.move (Operand.tmp 28), type := 4, pos := "ref.go:33", after := #[{ on := 3, ground := Ground.data }, { on := 2, ground := Ground.chain }], guard := none }) rfl (by kernel_rfl) (by kernel_rfl) (by kernel_rfl) (by kernel_rfl) rfl (fun _ _ _ h => h) (Or.inl ⟨by rfl, ?_⟩) hS0 ?_
      rotate_left
      · intro W hSW
        go_simp
        try with_reducible rfl
      simp only [Act.put, List.setIfInBounds_toArray, List.set_cons_zero, List.set_cons_succ]
      refine wpAnyL_take' (i := 5) (v := ?_) (oi := { dst := some 30, op := Op.fieldAddr 35 (Operand.tmp 5) 1, type := 0, pos := "ref.go:33", after := #[{ on := 4, ground := Ground.guard }], guard := some (4, false) }) rfl (by kernel_rfl) (by kernel_rfl) (by kernel_rfl) (by kernel_rfl) rfl (fun _ _ _ h => h) (Or.inl ⟨by rfl, ?_⟩) hS0 ?_
      rotate_left
      · intro W hSW
        go_simp
        try with_reducible rfl
      simp only [Act.put, List.setIfInBounds_toArray, List.set_cons_zero, List.set_cons_succ]
      refine wpAnyL_take' (i := 6) (v := ?_) (oi := { dst := some 31, op := Op.load 3 (Operand.tmp 30), type := 3, pos := "ref.go:33", after := #[{ on := 5, ground := Ground.data }, { on := 4, ground := Ground.guard }], guard := some (4, false) }) rfl (by kernel_rfl) (by kernel_rfl) (by kernel_rfl) (by kernel_rfl) rfl (fun _ _ _ h => h) (Or.inl ⟨by rfl, ?_⟩) hS0 ?_
      rotate_left
      · intro W hSW
        go_simp
        try with_reducible rfl
      simp only [Act.put, List.setIfInBounds_toArray, List.set_cons_zero, List.set_cons_succ]
      refine wpAnyL_one' (i := 7) (o := { dst := some 32, op := Op.call { callee := Callee.value (Operand.func 13), args := #[Operand.tmp 31], argTypes := #[3] }, type := 4, pos := "ref.go:33", after := #[{ on := 6, ground := Ground.data }, { on := 4, ground := Ground.chain }, { on := 4, ground := Ground.guard }], guard := some (4, false) }) (by kernel_rfl) rfl rfl (fun KQ hK => ?_)
      go_simp
      refine HC2.mono ?_
      rintro e w6 ⟨rfl, rfl⟩
      refine hK.out _ _ (fun _ => hS0) ?_
      clear hK
      refine wpAnyL_take' (i := 8) (v := ?_) (oi := { dst := some 33, op := Op.unOp UnOp.not 4 (Operand.tmp 32), type := 4, pos := "ref.go:33", after := #[{ on := 7, ground := Ground.data }, { on := 4, ground := Ground.guard }], guard := some (4, false) }) rfl (by kernel_rfl) (by kernel_rfl) (by kernel_rfl) (by kernel_rfl) rfl (fun _ _ _ h => h) (Or.inl ⟨by rfl, ?_⟩) hS0 ?_
      rotate_left
      · intro W hSW
        go_simp
        try with_reducible rfl
      simp only [Act.put, List.setIfInBounds_toArray, List.set_cons_zero, List.set_cons_succ]
      refine wpAnyL_take' (i := 9) (v := ?_) (oi := { dst := some 34, op := Op.pick (Operand.tmp 29) (Operand.const (Value.bool true)) (Operand.tmp 33), type := 4, pos := "ref.go:33", after := #[{ on := 4, ground := Ground.data }, { on := 8, ground := Ground.data }], guard := none }) rfl (by kernel_rfl) (by kernel_rfl) (by kernel_rfl) (by kernel_rfl) rfl (fun _ _ _ h => h) (Or.inl ⟨by rfl, ?_⟩) hS0 ?_
      rotate_left
      · intro W hSW
        go_simp
        try with_reducible rfl
      simp only [Act.put, List.setIfInBounds_toArray, List.set_cons_zero, List.set_cons_succ]
      refine wpAnyL_take' (i := 10) (v := ?_) (oi := { dst := some 35, op := Op.move (Operand.tmp 34), type := 4, pos := "ref.go:33", after := #[{ on := 9, ground := Ground.data }, { on := 7, ground := Ground.chain }], guard := none }) rfl (by kernel_rfl) (by kernel_rfl) (by kernel_rfl) (by kernel_rfl) rfl (fun _ _ _ h => h) (Or.inl ⟨by rfl, ?_⟩) hS0 ?_
      rotate_left
      · intro W hSW
        go_simp
        try with_reducible rfl
      simp only [Act.put, List.setIfInBounds_toArray, List.set_cons_zero, List.set_cons_succ]
      refine wpAnyL_take' (i := 11) (v := ?_) (oi := { dst := some 36, op := Op.move (Operand.tmp 4), type := 3, pos := "ref.go:33", after := #[{ on := 10, ground := Ground.guard }], guard := some (10, false) }) rfl (by kernel_rfl) (by kernel_rfl) (by kernel_rfl) (by kernel_rfl) rfl (fun _ _ _ h => h) (Or.inl ⟨by rfl, ?_⟩) hS0 ?_
      rotate_left
      · intro W hSW
        go_simp
        try with_reducible rfl
      simp only [Act.put, List.setIfInBounds_toArray, List.set_cons_zero, List.set_cons_succ]
      refine wpAnyL_take' (i := 12) (v := ?_) (oi := { dst := some 37, op := Op.binOp BinOp.gtr 3 (Operand.tmp 36) (Operand.const (Value.int IntKind.i64 0)) 3, type := 4, pos := "ref.go:33", after := #[{ on := 11, ground := Ground.data }, { on := 10, ground := Ground.guard }], guard := some (10, false) }) rfl (by kernel_rfl) (by kernel_rfl) (by kernel_rfl) (by kernel_rfl) rfl (fun _ _ _ h => h) (Or.inl ⟨by rfl, ?_⟩) hS0 ?_
      rotate_left
      · intro W hSW
        go_simp
        try with_reducible rfl
      simp only [Act.put, List.setIfInBounds_toArray, List.set_cons_zero, List.set_cons_succ]
      refine wpAnyL_take' (i := 13) (v := ?_) (oi := { dst := some 38, op := Op.move (Operand.tmp 37), type := 4, pos := "ref.go:33", after := #[{ on := 12, ground := Ground.data }, { on := 10, ground := Ground.chain }, { on := 10, ground := Ground.guard }], guard := some (10, false) }) rfl (by kernel_rfl) (by kernel_rfl) (by kernel_rfl) (by kernel_rfl) rfl (fun _ _ _ h => h) (Or.inl ⟨by rfl, ?_⟩) hS0 ?_
      rotate_left
      · intro W hSW
        go_simp
        try with_reducible rfl
      simp only [Act.put, List.setIfInBounds_toArray, List.set_cons_zero, List.set_cons_succ]
      refine wpAnyL_take' (i := 14) (v := undef) (oi := { dst := some 39, op := Op.fieldAddr 24 (Operand.tmp 1) 0, type := 0, pos := "ref.go:33", after := #[{ on := 13, ground := Ground.guard }], guard := some (13, true) }) rfl (by kernel_rfl) (by kernel_rfl) (by kernel_rfl) (by kernel_rfl) rfl (fun _ _ _ h => h) (Or.inr ⟨by rfl, rfl⟩) hS0 ?_
      simp only [Act.put, List.setIfInBounds_toArray, List.set_cons_zero, List.set_cons_succ]
      refine wpAnyL_take' (i := 15) (v := undef) (oi := { dst := some 40, op := Op.load 22 (Operand.tmp 39), type := 22, pos := "ref.go:33", after := #[{ on := 14, ground := Ground.data }, { on := 13, ground := Ground.guard }], guard := some (13, true) }) rfl (by kernel_rfl) (by kernel_rfl) (by kernel_rfl) (by kernel_rfl) rfl (fun _ _ _ h => h) (Or.inr ⟨by rfl, rfl⟩) hS0 ?_
      simp only [Act.put, List.setIfInBounds_toArray, List.set_cons_zero, List.set_cons_succ]
      refine wpAnyL_take' (i := 16) (v := undef) (oi := { dst := some 41, op := Op.move (Operand.tmp 4), type := 3, pos := "ref.go:33", after := #[{ on := 13, ground := Ground.guard }], guard := some (13, true) }) rfl (by kernel_rfl) (by kernel_rfl) (by kernel_rfl) (by kernel_rfl) rfl (fun _ _ _ h => h) (Or.inr ⟨by rfl, rfl⟩) hS0 ?_
      simp only [Act.put, List.setIfInBounds_toArray, List.set_cons_zero, List.set_cons_succ]
      refine wpAnyL_take' (i := 17) (v := undef) (oi := { dst := some 42, op := Op.binOp BinOp.sub 3 (Operand.tmp 41) (Operand.const (Value.int IntKind.i64 1)) 3, type := 3, pos := "ref.go:33", after := #[{ on := 16, ground := Ground.data }, { on := 13, ground := Ground.guard }], guard := some (13, true) }) rfl (by kernel_rfl) (by kernel_rfl) (by kernel_rfl) (by kernel_rfl) rfl (fun _ _ _ h => h) (Or.inr ⟨by rfl, rfl⟩) hS0 ?_
      simp only [Act.put, List.setIfInBounds_toArray, List.set_cons_zero, List.set_cons_succ]
      refine wpAnyL_take' (i := 18) (v := undef) (oi := { dst := some 43, op := Op.indexAddr 22 (Operand.tmp 40) (Operand.tmp 42), type := 0, pos := "ref.go:33", after := #[{ on := 15, ground := Ground.data }, { on := 17, ground := Ground.data }, { on := 13, ground := Ground.guard }], guard := some (13, true) }) rfl (by kernel_rfl) (by kernel_rfl) (by kernel_rfl) (by kernel_rfl) rfl (fun _ _ _ h => h) (Or.inr ⟨by rfl, rfl⟩) hS0 ?_
      simp only [Act.put, List.setIfInBounds_toArray, List.set_cons_zero, List.set_cons_succ]
      refine wpAnyL_take' (i := 19) (v := undef) (oi := { dst := some 44, op := Op.load 35 (Operand.tmp 43), type := 35, pos := "ref.go:33", after := #[{ on := 18, ground := Ground.data }, { on := 13, ground := Ground.guard }], guard := some (13, true) }) rfl (by kernel_rfl) (by kernel_rfl) (by kernel_rfl) (by kernel_rfl) rfl (fun _ _ _ h => h) (Or.inr ⟨by rfl, rfl⟩) hS0 ?_
      simp only [Act.put, List.setIfInBounds_toArray, List.set_cons_zero, List.set_cons_succ]
      refine wpAnyL_take' (i := 20) (v := undef) (oi := { dst := some 45, op := Op.load 35 (Operand.tmp 5), type := 35, pos := "ref.go:33", after := #[{ on := 13, ground := Ground.guard }], guard := some (13, true) }) rfl (by kernel_rfl) (by kernel_rfl) (by kernel_rfl) (by kernel_rfl) rfl (fun _ _ _ h => h) (Or.inr ⟨by rfl, rfl⟩) hS0 ?_
      simp only [Act.put, List.setIfInBounds_toArray, List.set_cons_zero, List.set_cons_succ]
      refine wpAnyL_take' (i := 21) (v := undef) (oi := { dst := some 46, op := Op.call { callee := Callee.value (Operand.func 14), args := #[Operand.tmp 44, Operand.tmp 45], argTypes := #[35, 35] }, type := 4, pos := "ref.go:33", after := #[{ on := 19, ground := Ground.data }, { on := 20, ground := Ground.data }, { on := 13, ground := Ground.chain }, { on := 13, ground := Ground.guard }], guard := some (13, true) }) rfl (by kernel_rfl) (by kernel_rfl) (by kernel_rfl) (by kernel_rfl) rfl (fun _ _ _ h => h) (Or.inr ⟨by rfl, rfl⟩) hS0 ?_
      simp only [Act.put, List.setIfInBounds_toArray, List.set_cons_zero, List.set_cons_succ]
      refine wpAnyL_take' (i := 22) (v := undef) (oi := { dst := some 47, op := Op.unOp UnOp.not 4 (Operand.tmp 46), type := 4, pos := "ref.go:33", after := #[{ on := 21, ground := Ground.data }, { on := 13, ground := Ground.guard }], guard := some (13, true) }) rfl (by kernel_rfl) (by kernel_rfl) (by kernel_rfl) (by kernel_rfl) rfl (fun _ _ _ h => h) (Or.inr ⟨by rfl, rfl⟩) hS0 ?_
      simp only [Act.put, List.setIfInBounds_toArray, List.set_cons_zero, List.set_cons_succ]
      refine wpAnyL_take' (i := 23) (v := ?_) (oi := { dst := some 48, op := Op.pick (Operand.tmp 38) (Operand.tmp 47) (Operand.const (Value.bool false)), type := 4, pos := "ref.go:33", after := #[{ on := 13, ground := Ground.data }, { on := 22, ground := Ground.data }, { on := 10, ground := Ground.guard }], guard := some (10, false) }) rfl (by kernel_rfl) (by kernel_rfl) (by kernel_rfl) (by kernel_rfl) rfl (fun _ _ _ h => h) (Or.inl ⟨by rfl, ?_⟩) hS0 ?_
      rotate_left
      · intro W hSW
        go_simp
        try with_reducible rfl
      simp only [Act.put, List.setIfInBounds_toArray, List.set_cons_zero, List.set_cons_succ]
      refine wpAnyL_take' (i := 24) (v := ?_) (oi := { dst := some 49, op := Op.pick (Operand.tmp 35) (Operand.const (Value.bool true)) (Operand.tmp 48), type := 4, pos := "ref.go:33", after := #[{ on := 10, ground := Ground.data }, { on := 23, ground := Ground.data }], guard := none }) rfl (by kernel_rfl) (by kernel_rfl) (by kernel_rfl) (by kernel_rfl) rfl (fun _ _ _ h => h) (Or.inl ⟨by rfl, ?_⟩) hS0 ?_
      rotate_left
      · intro W hSW
        go_simp
        try with_reducible rfl
      simp only [Act.put, List.setIfInBounds_toArray, List.set_cons_zero, List.set_cons_succ]
      refine wpAnyL_done (by kernel_rfl) ?_ _
      go_wp2_with fail
      go_meet
      exact ⟨by rw [HE.out]; rfl, BD0⟩
  case rest =>
  obtain ⟨rfl, BC⟩ := hcut
  clear HC1 HC2 HC3 hS0 HSS hw1 HGN BD0
  cases GB with
  | false =>
    have HE : Hid (R = false) := HNN.out (fun h => by have := HGB.out.1 (HNP.out.1 h.1); cases this)
    have QB := (HX2.out _ BC).2.2.2.2
    clear HNN HYY HNP HGB HX2 HX HY
    go_wp2_with fail
    go_ret
    exact ⟨by rw [HE.out]; rfl, QB⟩
  | true =>
  have HZ : Hid (lnksP l ⟨xst, xpl, xs⟩ → ∀ (k : Nat) (x : Gn), l[k]? = some x → k < i + 1 → nodeP l k x ∧ lnksP l x) := HYY.out (HNP.out.2 (HGB.out.2 rfl))
  have HZN : Hid (¬ lnksP l ⟨xst, xpl, xs⟩ → R = false) := fun h => HNN.out (fun h' => h h'.2)
  clear HNN HYY HNP HGB HX
  simp only [Bool.not_true]
  go_wp2_with fail
  go_loopw [6] (fun kv w2 => ∃ (k : Nat), kv = .int .i64 k ∧ k ≤ xs.length ∧ Hid (∀ m j, xs[m]? = some j → m < k → linkP l ⟨xst, xpl, xs⟩ m j) ∧ Below wx.heap.size wx w2) (fun k _ => xs.length - (intOf k).toNat)
  case atStart => exact ⟨0, rfl, Nat.zero_le _, fun m _ _ hm => by omega, BC⟩
  case round =>
  clear BC
  obtain ⟨k, rfl, hk, HTK, BC⟩ := hrel
  obtain ⟨⟨z0, z1, z2, z3⟩, hsx, hal, BZ, QB⟩ := HX2.out _ BC
  by_cases hkl : k < xs.length
  case neg =>
    have HZ2 : Hid (∀ (k : Nat) (x : Gn), l[k]? = some x → k < i + 1 → nodeP l k x ∧ lnksP l x) := HZ.out (fun m j hm => HTK.out m j hm (by have := (List.getElem?_eq_some_iff.1 hm).1; simp only at this; omega))
    clear HZ HZN HTK HX2 HY hsx hal
    go_wp2_with fail
    exact ⟨⟨i + 1, by go_num, by omega, HZ2, BZ⟩, by simp [intOf]; omega⟩
  obtain ⟨_, _, e0, hxr, _, _, hx64⟩ := hsx
  cases e0
  have hk1 : k - 1 < xs.length := by omega
  obtain ⟨b3, o3, rfl, hb3, p0⟩ := hxr.at (Below.refl _ _) hkl
  obtain ⟨_, _, e1, _, p1⟩ := hxr.at (Below.refl _ _) hk1
  cases e1
  have hj64 : i64B xs[k] := hx64 xs[k] (List.getElem_mem hkl)
  have HPK : Hid (xs[k - 1]? = some xs[k - 1]) := by show _ = _; simp [hk1]
  have HLN : Hid (¬ linkP l ⟨xst, xpl, xs⟩ k xs[k] → R = false) := fun h => HZN.out (fun h' => h (h' k xs[k] (by simp [hkl])))
  have HLY : Hid (linkP l ⟨xst, xpl, xs⟩ k xs[k] → ∀ m j, xs[m]? = some j → m < k + 1 → linkP l ⟨xst, xpl, xs⟩ m j) := fun h m j hm hmk => by
    rcases Nat.lt_or_ge m k with h' | h'
    · exact HTK.out m j hm h'
    · obtain rfl : m = k := by omega
      obtain rfl : xs[m] = j := by simpa [hkl] using hm
      exact h
  generalize xs[k - 1] = q at *
  generalize xs[k] = j at *
  simp only [encI] at p0 p1
  have HLP : Hid (linkP l ⟨xst, xpl, xs⟩ k j ↔ 0 ≤ j ∧ j < l.length ∧ (∀ y, l[j.toNat]? = some y → y.pl ≤ xpl) ∧ (0 < k → q < j)) := by
    show _ ↔ _
    unfold linkP
    rw [show (⟨xst, xpl, xs⟩ : Gn).links[k - 1]? = some q from HPK.out]
    simp
  have hw1 : 0 < k → IntKind.i64.wrap ((k : Int) - 1) = ((k - 1 : Nat) : Int) := fun h => by rw [IntKind.wrap_i64]; omega
  clear hxr hx64 HZN HPK HTK
  by_cases c1 : j < 0
  · have d1 : decide (j < 0) = true := decide_eq_true c1
    have HE : Hid (R = false) := HLN.out (fun h => by have := (HLP.out.1 h).1; omega)
    clear HLN HLY HLP HX2 HY HZ hal hw1
    go_wp2_with fail
    go_big_quiet (fail)
    go_wp2_with fail
    go_ret
    exact ⟨by rw [HE.out]; rfl, below_drewN QB _⟩
  have d1 : decide (j < 0) = false := decide_eq_false c1
  by_cases c2 : (l.length : Int) ≤ j
  · have d2 : decide (j ≥ (l.length : Int)) = true := decide_eq_true c2
    have d2' : decide ((l.length : Int) ≤ j) = true := decide_eq_true c2
    have HE : Hid (R = false) := HLN.out (fun h => by have := (HLP.out.1 h).2.1; omega)
    clear HLN HLY HLP HX2 HY HZ hal hw1
    go_wp2_with fail
    go_big_quiet (fail)
    go_wp2_with fail
    go_ret
    exact ⟨by rw [HE.out]; rfl, below_drewN QB _⟩
  have d2 : decide (j ≥ (l.length : Int)) = false := decide_eq_false (by omega)
  have d2' : decide ((l.length : Int) ≤ j) = false := decide_eq_false (by omega)
  obtain ⟨j0, rfl⟩ : ∃ j0 : Nat, j = j0 := ⟨j.toNat, by omega⟩
  have hj0 : j0 < l.length := by omega
  obtain ⟨_, _, _, e2, hb2w, _, r1, _⟩ := hal.at (Below.refl _ _) hj0
  cases e2
  have HLP2 : Hid (linkP l ⟨xst, xpl, xs⟩ k j0 ↔ l[j0].pl ≤ xpl ∧ (0 < k → q < (j0 : Int))) := by
    show _ ↔ _
    rw [HLP.out]
    constructor
    · rintro ⟨_, _, h3, h4⟩
      exact ⟨h3 l[j0] (by simp [hj0]), h4⟩
    · rintro ⟨h3, h4⟩
      refine ⟨by omega, by omega, fun y hy => ?_, h4⟩
      have : l[j0] = y := by simpa [hj0] using hy
      exact this ▸ h3
  generalize l[j0].pl = jp at *
  clear HLP hal
  have n1 : decide ((j0 : Int) < 0) = false := decide_eq_false (by omega)
  have n2 : decide (l.length ≤ j0) = false := decide_eq_false (by omega)
  have n3 : ¬ l.length ≤ j0 := by omega
  have n4 : ¬ (j0 : Int) < 0 := by omega
  by_cases c3 : xpl < jp
  · have d3 : decide (jp > xpl) = true := decide_eq_true c3
    have d3' : decide (xpl < jp) = true := decide_eq_true c3
    have HE : Hid (R = false) := HLN.out (fun h => by have := (HLP2.out.1 h).1; omega)
    clear HLN HLY HLP2 HX2 HY HZ hw1
    go_wp2_with fail
    go_big_quiet (fail)
    go_wp2_with fail
    go_ret
    exact ⟨by rw [HE.out]; rfl, below_drewN QB _⟩
  have d3 : decide (jp > xpl) = false := decide_eq_false (by omega)
  have d3' : decide (xpl < jp) = false := decide_eq_false (by omega)
  by_cases c4 : (0 : Int) < (k : Int)
  · have hw2 := hw1 (by omega)
    have hw3 : wrap64 ((k : Int) - 1) = ((k - 1 : Nat) : Int) := by first | exact hw2 | (unfold wrap64; omega)
    have g3 : decide ((0 : Int) < (k : Int)) = true := decide_eq_true c4
    have g4 : decide ((k : Int) > 0) = true := decide_eq_true c4
    have g5 : decide (0 < k) = true := decide_eq_true (by omega)
    have g6 : 0 < k := by omega
    by_cases c5 : (j0 : Int) ≤ q
    · have d5 : decide (q ≥ (j0 : Int)) = true := decide_eq_true c5
      have d5' : decide ((j0 : Int) ≤ q) = true := decide_eq_true c5
      have HE : Hid (R = false) := HLN.out (fun h => by have := (HLP2.out.1 h).2 g6; omega)
      clear HLN HLY HLP2 HX2 HY HZ hw1
      go_wp2_with fail
      go_big_quiet (fail)
      go_wp2_with fail
      go_ret
      exact ⟨by rw [HE.out]; rfl, below_drewN QB _⟩
    · have d5 : decide (q ≥ (j0 : Int)) = false := decide_eq_false c5
      have d5' : decide ((j0 : Int) ≤ q) = false := decide_eq_false c5
      have HE : Hid (∀ m j, xs[m]? = some j → m < k + 1 → linkP l ⟨xst, xpl, xs⟩ m j) := HLY.out (HLP2.out.2 ⟨by omega, fun _ => by omega⟩)
      clear HLN HLY HLP2 hw1
      go_wp2_with fail
      go_big_quiet (fail)
      go_wp2_with fail
      exact ⟨⟨k + 1, by go_num, by omega, HE, below_drewN BC _⟩, by simp [intOf]; omega⟩
  · have g3 : decide ((0 : Int) < (k : Int)) = false := decide_eq_false c4
    have g4 : decide ((k : Int) > 0) = false := decide_eq_false c4
    have g5 : decide (0 < k) = false := decide_eq_false (by omega)
    have g6 : ¬ 0 < k := by omega
    have HE : Hid (∀ m j, xs[m]? = some j → m < k + 1 → linkP l ⟨xst, xpl, xs⟩ m j) := HLY.out (HLP2.out.2 ⟨by omega, fun h => absurd h g6⟩)
    clear HLN HLY HLP2 hw1
    go_wp2_with fail
    go_big_quiet (fail)
    go_wp2_with fail
    exact ⟨⟨k + 1, by go_num, by omega, HE, below_drewN BC _⟩, by simp [intOf]; omega⟩
end Go.Proofs.Ytjpbfckdiojghaa
