/- The document's Differ. -/
import Derived.Test.YtdalomibilicfaaRGoes
import Derived.Test.YtdalomibilicfaaJBfsMath
import Derived.Test.YtdalomibilicfaaPApart
import Derived.Test.YtdalomibilicfaaJRFit
import Derived.Deep.Cut
namespace Go.Proofs.Ytdalomibilicfaa
open Go.RowKit Go.Shelf

def encT (a b : List Ds) (t : List Int) : List Value := [.int .i64 (goD a 0 t), .int .i64 (goD b 0 t), .string (strB t)]
/-- The queue and the table. -/
structure QS (a b : List Ds) (B g : Nat) (T : List (List Int)) (tb : List Bool) (lv : Value) (W : World) : Prop where
  row : W.ownsRow B 61 3 lv T.length (T.flatMap (encT a b))
  tab : W.ownsRow B 4 1 (.slice (some ⟨g, 0, none⟩) tb.length tb.length) tb.length (tb.map encB)
/-- What stands while a pair's letters are gone through. -/
structure QI (a b : List Ds) (w0 wo : World) (n : Nat) (t : List Int) (tx : ByteArray) (p1 p2 : Int) (m : Nat) (T : List (List Int)) (tb : List Bool) (lv : Value) (V : World) : Prop where
  at_ : T[n]? = some t
  len : (match lv with | .slice _ zn _ => zn | _ => 0) = T.length
  bf : Bf a b n m T
  mt : MetT a b T tb
  qs : QS a b w0.heap.size w0.heap.size T tb lv V
  bel : Below w0.heap.size w0 V
  box : V.heap[wo.heap.size]? = some (Obj.cells #[.int .i64 p1, .int .i64 p2, .string tx] 61)
  nb : ∀ k, lv.ownBlock = some k → k ≠ wo.heap.size
  sz : ∀ (j : Nat) w, T[j]? = some w → w.length ≤ j
/-- How far the next pair is laid. -/
structure Py (wi : World) (o : Option Nat) (V : World) : Prop where
  bel : Below wi.heap.size wi V
  h : ∀ k, o = some k → V.heap[k]? = some (Obj.cells #[.int .i64 0, .int .i64 0, .string { data := #[] }] 61) ∧ wi.heap.size ≤ k
theorem Py.next {wi : World} {o : Option Nat} {V W : World} (h : Py wi o V) (hb : Below V.heap.size V W) : Py wi o W := ⟨h.bel.trans (hb.mono h.bel.size), fun k e => ⟨(hb.block _ (blk_lt (h.h k e).1)).trans (h.h k e).1, (h.h k e).2⟩⟩
theorem Py.new {wi : World} {V : World} (h : Py wi none V) : Py wi (some V.heap.size) (V.alloc (Obj.cells #[.int .i64 0, .int .i64 0, .string { data := #[] }] 61)) :=
  ⟨h.bel.alloc h.bel.size _, fun k e => by cases e; exact ⟨heap_alloc_new _ _, h.bel.size⟩⟩
theorem Py.fin {wi : World} {k : Nat} {V : World} (h : Py wi (some k) V) (q1 q2 : Int) : (((V.setCell ⟨k, 0, none⟩ (.int .i64 q1)).setCell ⟨k, 1, none⟩ (.int .i64 q2)).setCell ⟨k, 2, none⟩ (.string { data := #[] })).heap[k]? = some (Obj.cells #[.int .i64 q1, .int .i64 q2, .string { data := #[] }] 61) ∧ Below wi.heap.size wi (((V.setCell ⟨k, 0, none⟩ (.int .i64 q1)).setCell ⟨k, 1, none⟩ (.int .i64 q2)).setCell ⟨k, 2, none⟩ (.string { data := #[] })) ∧ wi.heap.size ≤ k := by
  obtain ⟨h1, h2⟩ := h.h k rfl
  have s1 : But (fun i => i = k) V (((V.setCell ⟨k, 0, none⟩ (.int .i64 q1)).setCell ⟨k, 1, none⟩ (.int .i64 q2)).setCell ⟨k, 2, none⟩ (.string { data := #[] })) := (((But.refl (fun i => i = k) V).setCell ⟨k, 0, none⟩ (.int .i64 q1) (.inr rfl)).setCell ⟨k, 1, none⟩ (.int .i64 q2) (.inr rfl)).setCell ⟨k, 2, none⟩ (.string { data := #[] }) (.inr rfl)
  exact ⟨by simpa using blk_set (o := 2) (blk_set (o := 1) (blk_set (o := 0) h1 (.int .i64 q1)) (.int .i64 q2)) (.string { data := #[] }), h.bel.trans (s1.below h.bel.size (fun q hq => by omega)), h2⟩
theorem infoBo : (Try.prog.info? 4).map (fun i => (i.zero, i.size, i.bytes)) = some (some (.bool false), 1, 1) := by kernel_rfl
theorem infoPr : (Try.prog.info? 61).map (fun i => (i.zero, i.size, i.bytes)) = some (some (.agg #[.int .i64 0, .int .i64 0, .string ⟨#[]⟩]), 3, 32) := by kernel_rfl

set_option maxRecDepth 100000 in
set_option maxHeartbeats 8000000 in
theorem rdiffer_any (a b : List Ds) (u v : Value) (w : World) (ha : SlD a u w) (hb : SlD b v w) (fa : fitD a) (fb : fitD b) (hal : a.length ≤ 60) (hbl : b.length ≤ 60) :
    Calls Try.prog 13 #[.agg #[u], .agg #[v]] w fun e w' => Below w.heap.size w w' ∧ ((e = .returned (.tuple #[.string ⟨#[]⟩, .bool false]) ∧ resD a 0 = resD b 0) ∨ ∃ P, e = .returned (.tuple #[.string (strB P), .bool true]) ∧ (∀ z ∈ P, 0 ≤ z ∧ z ≤ 255) ∧ FirstD (resD a 0) (resD b 0) P) := by
  have HA : Hid (∀ W, Below w.heap.size w W → SlD a u W) := fun W h => ha.next h
  have HB : Hid (∀ W, Below w.heap.size w W → SlD b v W) := fun W h => hb.next h
  obtain ⟨aa, ac, rfl, _⟩ := ha
  obtain ⟨ba, bc, rfl, _⟩ := hb
  obtain ⟨w0, hw0⟩ : ∃ w0, w0 = (w.alloc (Obj.cells #[.slice aa a.length ac] 24)).alloc (Obj.cells #[.slice ba b.length bc] 24) := ⟨_, rfl⟩
  have B0 : Below w.heap.size w w0 := by rw [hw0]; exact ((Below.refl _ _).alloc (Nat.le_refl _) _).alloc (by simp) _
  have k0 : w0.heap[w.heap.size]? = some (Obj.cells #[.slice aa a.length ac] 24) := by rw [hw0]; exact blk_new (heap_alloc_new _ _)
  have k1 : w0.heap[w.heap.size + 1]? = some (Obj.cells #[.slice ba b.length bc] 24) := by rw [hw0]; simpa using heap_alloc_new (w.alloc (Obj.cells #[.slice aa a.length ac] 24)) (Obj.cells #[.slice ba b.length bc] 24)
  have HBB : Hid (∀ W, Below w0.heap.size w0 W → Below w.heap.size w W) := fun W h => below_then B0 h B0.size
  have HCL : Hid (∀ W, Below w0.heap.size w0 W → W.cell? ⟨w.heap.size, 0, none⟩ = some (.slice aa a.length ac) ∧ W.cell? ⟨w.heap.size + 1, 0, none⟩ = some (.slice ba b.length bc)) := fun W h => ⟨by rw [Lib.cell_of_heap ((h.block _ (blk_lt k0)).trans k0)]; rfl, by rw [Lib.cell_of_heap ((h.block _ (blk_lt k1)).trans k1)]; rfl⟩
  obtain ⟨q0, q1⟩ := HCL.out _ (Below.refl _ _)
  obtain ⟨tot, htot⟩ : ∃ tot : Nat, tot = (a.length + 1) * (b.length + 1) := ⟨_, rfl⟩
  have htl : tot ≤ 3721 := by
    rw [htot]
    exact Nat.mul_le_mul (by omega : a.length + 1 ≤ 61) (by omega : b.length + 1 ≤ 61)
  have hz : ((a.length : Int) + 1) * ((b.length : Int) + 1) = (tot : Int) := by rw [htot]; push_cast; rfl
  have hw64 : wrap64 (((a.length : Int) + 1) * ((b.length : Int) + 1)) = (tot : Int) := by rw [hz]; exact IntWalk.wrap64_in _ (by omega)
  clear hz
  obtain ⟨ii, hii, hz0, hz1, hz2⟩ := info_parts infoBo
  obtain ⟨wm, hm1, hm2, hm3⟩ := run_makeSlice_full (P := Try.prog) w0 w0.heap.size 59 4 ii _ 1 Try.underlying59 hii hz0 hz1 .i64 .i64 tot (by omega) (by rw [hz2]; omega) (by unfold maxLen; omega) (Nat.le_refl _)
  go_enter Try.func13, Try.ntmps13
  go_upto_region 1 with fail
  rw [← hw0]
  clear hw0
  have HM : Hid (Below w0.heap.size w0 wm ∧ wm.ownsRow w0.heap.size 4 1 (.slice (some ⟨w0.heap.size, 0, none⟩) tot tot) tot ((List.replicate tot false).map encB)) := by
    refine ⟨(but_grown (A := fun _ => False) hm3 (fun r h => by cases h)).below (Nat.le_refl _) (fun _ h => h.elim), ?_⟩
    have h1 : (madeCells (Value.bool false).cells (tot * 1)).toList = List.replicate tot (encB false) := by rw [Nat.mul_one]; exact toList_madeCells_one _ _
    rw [List.map_replicate, ← h1]
    exact hm2
  have HTOT : Hid (tot = (a.length + 1) * (b.length + 1)) := htot
  have HFF : Hid (fitD a ∧ fitD b) := ⟨fa, fb⟩
  clear hm2 hm3 htot fa fb
  go_wp2_with fail
  have HQ : Hid (∀ W, W = wm.alloc (Obj.cells #[.int .i64 0, .int .i64 0, .string { data := #[] }] 61) → QS a b w0.heap.size w0.heap.size [[]] (List.replicate tot false) (.slice (some ⟨wm.heap.size, 0, none⟩) 1 1) W ∧ Below w0.heap.size w0 W) := fun W hW => by
    obtain ⟨m1, m2⟩ := HM.out
    have bn : Below wm.heap.size wm W := by rw [hW]; exact (Below.refl _ _).alloc (Nat.le_refl _) _
    refine ⟨⟨?_, ?_⟩, m1.trans (bn.mono m1.size)⟩
    · have h1 := World.ownsRow_lit (base := w0.heap.size) (e := 61) (size := 3) wm #[.int .i64 0, .int .i64 0, .string { data := #[] }] 1 m1.size (by unfold maxLen; omega) rfl
      rw [hW]
      exact h1
    · have h2 := own_below m2 bn
      rw [List.length_replicate]
      exact h2
  have HMT : Hid (MetT a b [[]] (List.replicate tot false)) := by have := MetT.start a b; rw [← HTOT.out] at this; exact this
  clear hw64
  go_loopw [7, 8] (fun lv nv wr => ∃ (n yn : Nat) (T : List (List Int)) (tb : List Bool) (la : Option Addr) (lc : Nat), nv = .int .i64 n ∧ lv = .slice la yn lc ∧ n ≤ yn ∧ yn ≤ 3722 ∧ Hid (yn = T.length ∧ Bf a b n 0 T ∧ MetT a b T tb ∧ QS a b w0.heap.size w0.heap.size T tb lv wr ∧ Below w0.heap.size w0 wr ∧ ∀ (j : Nat) w, T[j]? = some w → w.length ≤ j)) (fun _ nv _ => 3723 - (intOf nv).toNat)
  case atStart =>
    obtain ⟨h1, h2⟩ := HQ.out _ rfl
    exact ⟨0, 1, [[]], List.replicate tot false, _, 1, rfl, rfl, Nat.zero_le _, by omega, rfl, Bf.start a b, HMT.out, h1, h2, fun j w hw => by
      match j, hw with
      | 0, hw => simp at hw; subst hw; simp
      | j + 1, hw => simp at hw⟩
  case round =>
    rename World => wo
    clear HQ HM HMT hm1 q0 q1
    obtain ⟨n, yn, T, tb, la, lc, rfl, rfl, hn, hyn, HX⟩ := hrel
    by_cases hlt : n < yn
    case neg =>
      have HE : Hid (Below w.heap.size w wo ∧ resD a 0 = resD b 0) := by
        obtain ⟨rfl, h2, _, _, h5, _⟩ := HX.out
        obtain rfl : n = T.length := by omega
        exact ⟨HBB.out _ h5, h2.none HFF.out.1 HFF.out.2⟩
      clear HX HFF HCL HA HB HBB HTOT
      go_wp2_with fail
      go_ret2
      exact ⟨HE.out.1, .inl ⟨rfl, HE.out.2⟩⟩
    obtain ⟨hyl, hBf, hMt, hQs, hBl, _⟩ := HX.out
    have hT : T[n]? = some (T[n]'(by omega)) := List.getElem?_eq_getElem (by omega)
    have hrow := hQs.row
    rw [← hyl] at hrow
    obtain ⟨g, cap, e3, hg, hcp, hcx⟩ := own_cells (enc := encT a b) (c := 3) (fun x => rfl) (l := T) (by rw [← hyl]; exact hrow) (by omega)
    rw [← hyl] at e3
    cases e3
    have c0 := hcx n 0 _ _ hT (by omega) rfl
    have c1 := hcx n 1 _ _ hT (by omega) rfl
    have c2 := hcx n 2 _ _ hT (by omega) rfl
    rw [Nat.add_zero] at c0
    obtain ⟨t, htt⟩ : ∃ t, t = T[n]'(by omega) := ⟨_, rfl⟩
    rw [← htt] at hT c0 c1 c2
    have HT : Hid (T[n]? = some t) := hT
    have hpo := PD_ok HFF.out.1 HFF.out.2 t
    have HP : Hid (goD a 0 t < a.length ∧ goD b 0 t < b.length ∧ -1 ≤ goD a 0 t ∧ -1 ≤ goD b 0 t) := ⟨hpo.1.2, hpo.2.2, hpo.1.1, hpo.2.1⟩
    have HRES : Hid (accD a (goD a 0 t) = resD a 0 t ∧ accD b (goD b 0 t) = resD b 0 t) := ⟨rfl, rfl⟩
    obtain ⟨p1, hp1⟩ : ∃ p, goD a 0 t = p := ⟨_, rfl⟩
    obtain ⟨p2, hp2⟩ : ∃ p, goD b 0 t = p := ⟨_, rfl⟩
    obtain ⟨tx, htx⟩ : ∃ x, strB t = x := ⟨_, rfl⟩
    have HPQ : Hid (goD a 0 t = p1 ∧ goD b 0 t = p2 ∧ strB t = tx) := ⟨hp1, hp2, htx⟩
    rw [hp1] at c0 HP HRES
    rw [hp2] at c1 HP HRES
    rw [htx] at c2
    have HS1 : Hid (∀ W, Below wo.heap.size wo W → W.heap[wo.heap.size]? = some (Obj.cells #[.int .i64 p1, .int .i64 p2, .string tx] 61) → (W.cell? ⟨w.heap.size, 0, none⟩ = some (.slice aa a.length ac) ∧ W.cell? ⟨w.heap.size + 1, 0, none⟩ = some (.slice ba b.length bc) ∧ W.cell? ⟨wo.heap.size, 0, none⟩ = some (.int .i64 p1) ∧ W.cell? ⟨wo.heap.size, 1, none⟩ = some (.int .i64 p2)) ∧ W.cell? ⟨wo.heap.size, 2, none⟩ = some (.string tx)) := fun W hW hx => by
      have hb0 : Below w0.heap.size w0 W := hBl.trans (hW.mono hBl.size)
      exact ⟨⟨(HCL.out _ hb0).1, (HCL.out _ hb0).2, by rw [Lib.cell_of_heap hx]; rfl, by rw [Lib.cell_of_heap hx]; rfl⟩, by rw [Lib.cell_of_heap hx]; rfl⟩
    have HAC : Hid (∀ W, Below wo.heap.size wo W → (Calls Try.prog 31 #[.agg #[.slice aa a.length ac], .int .i64 p1] W fun e w' => e = .returned (.int .i64 (resD a 0 t)) ∧ Below W.heap.size W w') ∧ (Calls Try.prog 31 #[.agg #[.slice ba b.length bc], .int .i64 p2] W fun e w' => e = .returned (.int .i64 (resD b 0 t)) ∧ Below W.heap.size W w')) := fun W hW => by
      have hb0 := HBB.out _ (hBl.trans (hW.mono hBl.size))
      have h1 := accepts_any a _ p1 W (HA.out _ hb0) HP.out.1
      have h2 := accepts_any b _ p2 W (HB.out _ hb0) HP.out.2.1
      rw [HRES.out.1] at h1
      rw [HRES.out.2] at h2
      exact ⟨h1, h2⟩
    clear hyl hBf hMt hQs hBl hT hrow hcx htt hpo hp1 hp2 htx
    have HN : Hid (wo.alloc (Obj.cells #[.int .i64 p1, .int .i64 p2, .string tx] 61) = wo.alloc (Obj.cells #[.int .i64 p1, .int .i64 p2, .string tx] 61) ∧ Below wo.heap.size wo (wo.alloc (Obj.cells #[.int .i64 p1, .int .i64 p2, .string tx] 61)) ∧ (wo.alloc (Obj.cells #[.int .i64 p1, .int .i64 p2, .string tx] 61)).heap[wo.heap.size]? = some (Obj.cells #[.int .i64 p1, .int .i64 p2, .string tx] 61)) := ⟨rfl, (Below.refl _ _).alloc (Nat.le_refl _) _, heap_alloc_new _ _⟩
    go_upto_region 7 with fail
    generalize wo.alloc (Obj.cells #[.int .i64 p1, .int .i64 p2, .string tx] 61) = wx at *
    have HSX : Hid (∀ W, Below wx.heap.size wx W → ((W.cell? ⟨w.heap.size, 0, none⟩ = some (.slice aa a.length ac) ∧ W.cell? ⟨w.heap.size + 1, 0, none⟩ = some (.slice ba b.length bc) ∧ W.cell? ⟨wo.heap.size, 0, none⟩ = some (.int .i64 p1) ∧ W.cell? ⟨wo.heap.size, 1, none⟩ = some (.int .i64 p2)) ∧ W.cell? ⟨wo.heap.size, 2, none⟩ = some (.string tx)) ∧ Below wo.heap.size wo W ∧ W.heap[wo.heap.size]? = some (Obj.cells #[.int .i64 p1, .int .i64 p2, .string tx] 61)) := fun W hW => by
      obtain ⟨_, h1, h2⟩ := HN.out
      have h3 : Below wo.heap.size wo W := h1.trans (hW.mono h1.size)
      have h4 := (hW.block _ (blk_lt h2)).trans h2
      exact ⟨HS1.out W h3 h4, h3, h4⟩
    have bd : Below wx.heap.size wx wx.drew := below_drewN (Below.refl _ _) 1
    have HT0 := (HSX.out _ bd).1.1
    have CW := (HAC.out _ (HSX.out _ bd).2.1).1
    refine wp_region_L (fun W => W.cell? ⟨w.heap.size, 0, none⟩ = some (.slice aa a.length ac) ∧ W.cell? ⟨w.heap.size + 1, 0, none⟩ = some (.slice ba b.length bc) ∧ W.cell? ⟨wo.heap.size, 0, none⟩ = some (.int .i64 p1) ∧ W.cell? ⟨wo.heap.size, 1, none⟩ = some (.int .i64 p2)) 9 (by kernel_rfl) 9 rfl ?_
    refine wpAnyL_take' (i := 0) (v := ?_) (oi := ⟨some 35, .load 24 (.tmp 2), 24, "ref.go:280", #[], none⟩) rfl (by kernel_rfl) (by kernel_rfl) (by kernel_rfl) (by kernel_rfl) rfl (fun _ _ _ h => h) (Or.inl ⟨by rfl, ?_⟩) HT0 ?_
    rotate_left
    · intro W hSW
      go_simp
      try with_reducible rfl
    simp only [Act.put, List.setIfInBounds_toArray, List.set_cons_zero, List.set_cons_succ]
    refine wpAnyL_take' (i := 1) (v := ?_) (oi := ⟨some 36, .fieldAddr 61 (.tmp 9) 0, 0, "ref.go:280", #[], none⟩) rfl (by kernel_rfl) (by kernel_rfl) (by kernel_rfl) (by kernel_rfl) rfl (fun _ _ _ h => h) (Or.inl ⟨by rfl, ?_⟩) HT0 ?_
    rotate_left
    · intro W hSW
      go_simp
      try with_reducible rfl
    simp only [Act.put, List.setIfInBounds_toArray, List.set_cons_zero, List.set_cons_succ]
    refine wpAnyL_take' (i := 2) (v := ?_) (oi := ⟨some 37, .load 3 (.tmp 36), 3, "ref.go:280", #[⟨1, .data⟩], none⟩) rfl (by kernel_rfl) (by kernel_rfl) (by kernel_rfl) (by kernel_rfl) rfl (fun _ _ _ h => h) (Or.inl ⟨by rfl, ?_⟩) HT0 ?_
    rotate_left
    · intro W hSW
      go_simp
      try with_reducible rfl
    simp only [Act.put, List.setIfInBounds_toArray, List.set_cons_zero, List.set_cons_succ]
    refine wpAnyL_take' (i := 4) (v := ?_) (oi := ⟨some 39, .load 24 (.tmp 3), 24, "ref.go:280", #[], none⟩) rfl (by kernel_rfl) (by kernel_rfl) (by kernel_rfl) (by kernel_rfl) rfl (fun _ _ _ h => h) (Or.inl ⟨by rfl, ?_⟩) HT0 ?_
    rotate_left
    · intro W hSW
      go_simp
      try with_reducible rfl
    simp only [Act.put, List.setIfInBounds_toArray, List.set_cons_zero, List.set_cons_succ]
    refine wpAnyL_take' (i := 5) (v := ?_) (oi := ⟨some 40, .fieldAddr 61 (.tmp 9) 1, 0, "ref.go:280", #[], none⟩) rfl (by kernel_rfl) (by kernel_rfl) (by kernel_rfl) (by kernel_rfl) rfl (fun _ _ _ h => h) (Or.inl ⟨by rfl, ?_⟩) HT0 ?_
    rotate_left
    · intro W hSW
      go_simp
      try with_reducible rfl
    simp only [Act.put, List.setIfInBounds_toArray, List.set_cons_zero, List.set_cons_succ]
    refine wpAnyL_take' (i := 6) (v := ?_) (oi := ⟨some 41, .load 3 (.tmp 40), 3, "ref.go:280", #[⟨5, .data⟩], none⟩) rfl (by kernel_rfl) (by kernel_rfl) (by kernel_rfl) (by kernel_rfl) rfl (fun _ _ _ h => h) (Or.inl ⟨by rfl, ?_⟩) HT0 ?_
    rotate_left
    · intro W hSW
      go_simp
      try with_reducible rfl
    simp only [Act.put, List.setIfInBounds_toArray, List.set_cons_zero, List.set_cons_succ]
    refine wpAnyL_one' (i := 3) (o := ⟨some 38, .call ⟨.value (.func 31), #[.tmp 35, .tmp 37], #[24, 3]⟩, 3, "ref.go:280", #[⟨0, .data⟩, ⟨2, .data⟩], none⟩) (by kernel_rfl) rfl rfl (fun K hK => ?_)
    go_simp
    refine (CW).mono ?_
    rintro e V1 ⟨rfl, hb1⟩
    refine hK.out _ _ (fun _ => (HSX.out _ (below_then bd hb1 bd.size)).1.1) ?_
    clear hK
    have b1 := below_then bd hb1 bd.size
    clear CW
    have HT1 := (HSX.out _ b1).1.1
    have CW := (HAC.out _ (HSX.out _ b1).2.1).2
    refine wpAnyL_one' (i := 7) (o := ⟨some 42, .call ⟨.value (.func 31), #[.tmp 39, .tmp 41], #[24, 3]⟩, 3, "ref.go:280", #[⟨4, .data⟩, ⟨6, .data⟩, ⟨3, .chain⟩], none⟩) (by kernel_rfl) rfl rfl (fun K hK => ?_)
    go_simp
    refine (CW).mono ?_
    rintro e V2 ⟨rfl, hb2⟩
    refine hK.out _ _ (fun _ => (HSX.out _ (below_then b1 hb2 b1.size)).1.1) ?_
    clear hK
    have b2 := below_then b1 hb2 b1.size
    clear CW
    have HT2 := (HSX.out _ b2).1.1
    refine wpAnyL_take' (i := 8) (v := ?_) (oi := ⟨some 43, .binOp .neq 3 (.tmp 38) (.tmp 42) 3, 4, "ref.go:280", #[⟨3, .data⟩, ⟨7, .data⟩], none⟩) rfl (by kernel_rfl) (by kernel_rfl) (by kernel_rfl) (by kernel_rfl) rfl (fun _ _ _ h => h) (Or.inl ⟨by rfl, ?_⟩) HT2 ?_
    rotate_left
    · intro W hSW
      go_simp
      try with_reducible rfl
    simp only [Act.put, List.setIfInBounds_toArray, List.set_cons_zero, List.set_cons_succ]
    refine wpAnyL_done (by kernel_rfl) ?_ _
    have HX2 : Hid ((V2.cell? ⟨w.heap.size, 0, none⟩ = some (.slice aa a.length ac) ∧ V2.cell? ⟨w.heap.size + 1, 0, none⟩ = some (.slice ba b.length bc) ∧ V2.cell? ⟨wo.heap.size, 0, none⟩ = some (.int .i64 p1) ∧ V2.cell? ⟨wo.heap.size, 1, none⟩ = some (.int .i64 p2)) ∧ Below wo.heap.size wo V2 ∧ V2.heap[wo.heap.size]? = some (Obj.cells #[.int .i64 p1, .int .i64 p2, .string tx] 61)) := by
      obtain ⟨⟨h1, _⟩, h2, h3⟩ := HSX.out _ b2
      exact ⟨h1, h2, h3⟩
    have c2x := (HSX.out _ b2).1.2
    clear hb1 hb2 b1 bd HT0 HT1 HT2 HS1 HAC HN HSX b2 HRES
    have HFI : Hid (resD a 0 t ≠ resD b 0 t → (∀ z ∈ t, 0 ≤ z ∧ z ≤ 255) ∧ FirstD (resD a 0) (resD b 0) t) := fun h => by
      obtain ⟨_, h2, _⟩ := HX.out
      exact ⟨h2.byte t (List.mem_of_getElem? HT.out), h2.first HFF.out.1 HFF.out.2 HT.out h⟩
    by_cases hne : resD a 0 t = resD b 0 t
    case neg =>
      have HE : Hid (Below w.heap.size w V2 ∧ strB t = tx ∧ (∀ z ∈ t, 0 ≤ z ∧ z ≤ 255) ∧ FirstD (resD a 0) (resD b 0) t) := by
        have hb := HX.out.2.2.2.2.1
        exact ⟨HBB.out _ (hb.trans (HX2.out.2.1.mono hb.size)), HPQ.out.2.2, HFI.out hne⟩
      have dne : (resD a 0 t != resD b 0 t) = true := by simpa using hne
      clear HFI HX HX2 HPQ HT HP HFF HCL HA HB HBB HTOT hne
      generalize resD a 0 t = r1 at *
      generalize resD b 0 t = r2 at *
      go_wp2_with fail
      go_ret2
      exact ⟨HE.out.1, .inr ⟨t, by rw [HE.out.2.1]; rfl, HE.out.2.2⟩⟩
    have HSM : Hid (∀ (T : List (List Int)), Bf a b n 256 T → T[n]? = some t → Bf a b (n + 1) 0 T) := fun T h ht => h.next ht hne
    have dne : (resD a 0 t != resD b 0 t) = false := by simpa using hne
    clear HFI hne
    generalize resD a 0 t = r1 at *
    generalize resD b 0 t = r2 at *
    have HQI : Hid (QI a b w0 wo n t tx p1 p2 0 T tb (.slice (some ⟨g, 0, none⟩) yn lc) V2) := by
      obtain ⟨h1, h2, h3, h4, h5, h6⟩ := HX.out
      have hb := HX2.out.2.1
      have hgw : g < wo.heap.size := (World.ownsRow.lt h4.row g rfl).2
      exact ⟨HT.out, h1, h2, h3, ⟨own_below h4.row hb, own_below h4.tab hb⟩, h5.trans (hb.mono h5.size), HX2.out.2.2, fun k hk => (show k ≠ wo.heap.size from by have h9 : g = k := (by simpa [Value.ownBlock] using hk); omega), h6⟩
    clear HX HX2 HT c2x
    rw [dne]
    clear dne
    go_wp2_with fail
    go_loopw [7, 10] (fun lv cv wr => ∃ (m zn : Nat) (T : List (List Int)) (tb : List Bool) (la : Option Addr) (lc : Nat), cv = .int .i64 m ∧ lv = .slice la zn lc ∧ m ≤ 256 ∧ zn ≤ 3722 ∧ n < zn ∧ Hid (QI a b w0 wo n t tx p1 p2 m T tb (.slice la zn lc) wr)) (fun _ cv _ => 256 - (intOf cv).toNat)
    case atStart => exact ⟨0, yn, T, tb, _, lc, rfl, rfl, by omega, hyn, hlt, HQI.out⟩
    case round =>
      rename World => wi
      clear HQI
      obtain ⟨m, zn, T2, tb2, la2, lc2, rfl, rfl, hm, hzn, hnz, HI⟩ := hrel
      by_cases hlm : m < 256
      case neg =>
        obtain rfl : m = 256 := by omega
        have HE : Hid (zn = T2.length ∧ Bf a b (n + 1) 0 T2 ∧ MetT a b T2 tb2 ∧ QS a b w0.heap.size w0.heap.size T2 tb2 (.slice la2 zn lc2) wi ∧ Below w0.heap.size w0 wi ∧ ∀ (j : Nat) w, T2[j]? = some w → w.length ≤ j) := by
          have h := HI.out
          exact ⟨h.len, HSM.out _ h.bf h.at_, h.mt, h.qs, h.bel, h.sz⟩
        clear HI
        go_wp2_with fail
        exact ⟨⟨n + 1, zn, T2, tb2, la2, lc2, by go_num, rfl, by omega, hzn, HE⟩, by simp [intOf]; omega⟩
      have hcu : IntKind.u8.wrap (m : Int) = m := by rw [IntKind.wrap_u8]; omega
      have HIB : Hid (∀ W, Below wi.heap.size wi W → (W.cell? ⟨w.heap.size, 0, none⟩ = some (.slice aa a.length ac) ∧ W.cell? ⟨w.heap.size + 1, 0, none⟩ = some (.slice ba b.length bc) ∧ W.cell? ⟨wo.heap.size, 0, none⟩ = some (.int .i64 p1) ∧ W.cell? ⟨wo.heap.size, 1, none⟩ = some (.int .i64 p2)) ∧ W.heap[wo.heap.size]? = some (Obj.cells #[.int .i64 p1, .int .i64 p2, .string tx] 61) ∧ Below w0.heap.size w0 W) := fun W hW => by
        have h := HI.out
        have hb : Below w0.heap.size w0 W := h.bel.trans (hW.mono h.bel.size)
        have hx := (hW.block _ (blk_lt h.box)).trans h.box
        exact ⟨⟨(HCL.out _ hb).1, (HCL.out _ hb).2, by rw [Lib.cell_of_heap hx]; rfl, by rw [Lib.cell_of_heap hx]; rfl⟩, hx, hb⟩
      obtain ⟨q1, hq1⟩ : ∃ q, ledD a p1 m = q := ⟨_, rfl⟩
      obtain ⟨q2, hq2⟩ : ∃ q, ledD b p2 m = q := ⟨_, rfl⟩
      have HG1 : Hid (∀ W, Below wi.heap.size wi W → (Calls Try.prog 32 #[.agg #[.slice aa a.length ac], .int .i64 p1, .int .u8 m] W fun e w' => e = .returned (.int .i64 q1) ∧ Below W.heap.size W w') ∧ (Calls Try.prog 32 #[.agg #[.slice ba b.length bc], .int .i64 p2, .int .u8 m] W fun e w' => e = .returned (.int .i64 q2) ∧ Below W.heap.size W w')) := fun W hW => by
        have hb0 := HBB.out _ (HIB.out W hW).2.2
        have h1 := goes_any a _ p1 m W (HA.out _ hb0) HP.out.1 (by omega) (by omega)
        have h2 := goes_any b _ p2 m W (HB.out _ hb0) HP.out.2.1 (by omega) (by omega)
        rw [hq1] at h1
        rw [hq2] at h2
        exact ⟨h1, h2⟩
      have HQV : Hid (ledD a p1 m = q1 ∧ ledD b p2 m = q2) := ⟨hq1, hq2⟩
      clear hq1 hq2
      go_upto_region 12 with fail
      go_cut [11] from 46 (fun t11 wx => ∃ yb, t11 = .pointer (some ⟨yb, 0, none⟩) ∧ Hid (wx.heap[yb]? = some (Obj.cells #[.int .i64 q1, .int .i64 q2, .string { data := #[] }] 61) ∧ Below wi.heap.size wi wx ∧ wi.heap.size ≤ yb))
      case first =>
        have bd : Below wi.heap.size wi wi.drew := below_drewN (Below.refl _ _) 1
        have HT0 := (HIB.out _ bd).1
        clear HI HQV HP HPQ HSM HFF HTOT HCL HA HB HBB
        have PG : Py wi none wi.drew := ⟨bd, fun k e => (by cases e)⟩
        refine wp_region_L (fun W => W.cell? ⟨w.heap.size, 0, none⟩ = some (.slice aa a.length ac) ∧ W.cell? ⟨w.heap.size + 1, 0, none⟩ = some (.slice ba b.length bc) ∧ W.cell? ⟨wo.heap.size, 0, none⟩ = some (.int .i64 p1) ∧ W.cell? ⟨wo.heap.size, 1, none⟩ = some (.int .i64 p2)) 14 (by kernel_rfl) 15 rfl ?_
        generalize wi.drew = W0 at *
        refine wpAnyL_take' (i := 0) (v := ?_) (oi := ⟨some 50, .load 24 (.tmp 2), 24, "ref.go:284", #[], none⟩) rfl (by kernel_rfl) (by kernel_rfl) (by kernel_rfl) (by kernel_rfl) rfl (fun _ _ _ h => h) (Or.inl ⟨by rfl, ?_⟩) HT0 ?_
        rotate_left
        · intro W hSW
          go_simp
          try with_reducible rfl
        simp only [Act.put, List.setIfInBounds_toArray, List.set_cons_zero, List.set_cons_succ]
        refine wpAnyL_take' (i := 1) (v := ?_) (oi := ⟨some 51, .fieldAddr 61 (.tmp 9) 0, 0, "ref.go:284", #[], none⟩) rfl (by kernel_rfl) (by kernel_rfl) (by kernel_rfl) (by kernel_rfl) rfl (fun _ _ _ h => h) (Or.inl ⟨by rfl, ?_⟩) HT0 ?_
        rotate_left
        · intro W hSW
          go_simp
          try with_reducible rfl
        simp only [Act.put, List.setIfInBounds_toArray, List.set_cons_zero, List.set_cons_succ]
        refine wpAnyL_take' (i := 2) (v := ?_) (oi := ⟨some 52, .load 3 (.tmp 51), 3, "ref.go:284", #[⟨1, .data⟩], none⟩) rfl (by kernel_rfl) (by kernel_rfl) (by kernel_rfl) (by kernel_rfl) rfl (fun _ _ _ h => h) (Or.inl ⟨by rfl, ?_⟩) HT0 ?_
        rotate_left
        · intro W hSW
          go_simp
          try with_reducible rfl
        simp only [Act.put, List.setIfInBounds_toArray, List.set_cons_zero, List.set_cons_succ]
        refine wpAnyL_take' (i := 3) (v := ?_) (oi := ⟨some 53, .move (.tmp 10), 3, "ref.go:284", #[], none⟩) rfl (by kernel_rfl) (by kernel_rfl) (by kernel_rfl) (by kernel_rfl) rfl (fun _ _ _ h => h) (Or.inl ⟨by rfl, ?_⟩) HT0 ?_
        rotate_left
        · intro W hSW
          go_simp
          try with_reducible rfl
        simp only [Act.put, List.setIfInBounds_toArray, List.set_cons_zero, List.set_cons_succ]
        refine wpAnyL_take' (i := 4) (v := ?_) (oi := ⟨some 54, .convert 3 5 (.tmp 53), 5, "ref.go:284", #[⟨3, .data⟩], none⟩) rfl (by kernel_rfl) (by kernel_rfl) (by kernel_rfl) (by kernel_rfl) rfl (fun _ _ _ h => h) (Or.inl ⟨by rfl, ?_⟩) HT0 ?_
        rotate_left
        · intro W hSW
          go_simp
          try with_reducible rfl
        simp only [Act.put, List.setIfInBounds_toArray, List.set_cons_zero, List.set_cons_succ]
        refine wpAnyL_take' (i := 6) (v := ?_) (oi := ⟨some 56, .load 24 (.tmp 3), 24, "ref.go:284", #[], none⟩) rfl (by kernel_rfl) (by kernel_rfl) (by kernel_rfl) (by kernel_rfl) rfl (fun _ _ _ h => h) (Or.inl ⟨by rfl, ?_⟩) HT0 ?_
        rotate_left
        · intro W hSW
          go_simp
          try with_reducible rfl
        simp only [Act.put, List.setIfInBounds_toArray, List.set_cons_zero, List.set_cons_succ]
        refine wpAnyL_take' (i := 7) (v := ?_) (oi := ⟨some 57, .fieldAddr 61 (.tmp 9) 1, 0, "ref.go:284", #[], none⟩) rfl (by kernel_rfl) (by kernel_rfl) (by kernel_rfl) (by kernel_rfl) rfl (fun _ _ _ h => h) (Or.inl ⟨by rfl, ?_⟩) HT0 ?_
        rotate_left
        · intro W hSW
          go_simp
          try with_reducible rfl
        simp only [Act.put, List.setIfInBounds_toArray, List.set_cons_zero, List.set_cons_succ]
        refine wpAnyL_take' (i := 8) (v := ?_) (oi := ⟨some 58, .load 3 (.tmp 57), 3, "ref.go:284", #[⟨7, .data⟩], none⟩) rfl (by kernel_rfl) (by kernel_rfl) (by kernel_rfl) (by kernel_rfl) rfl (fun _ _ _ h => h) (Or.inl ⟨by rfl, ?_⟩) HT0 ?_
        rotate_left
        · intro W hSW
          go_simp
          try with_reducible rfl
        simp only [Act.put, List.setIfInBounds_toArray, List.set_cons_zero, List.set_cons_succ]
        refine wpAnyL_take' (i := 9) (v := ?_) (oi := ⟨some 59, .move (.tmp 10), 3, "ref.go:284", #[], none⟩) rfl (by kernel_rfl) (by kernel_rfl) (by kernel_rfl) (by kernel_rfl) rfl (fun _ _ _ h => h) (Or.inl ⟨by rfl, ?_⟩) HT0 ?_
        rotate_left
        · intro W hSW
          go_simp
          try with_reducible rfl
        simp only [Act.put, List.setIfInBounds_toArray, List.set_cons_zero, List.set_cons_succ]
        refine wpAnyL_take' (i := 10) (v := ?_) (oi := ⟨some 60, .convert 3 5 (.tmp 59), 5, "ref.go:284", #[⟨9, .data⟩], none⟩) rfl (by kernel_rfl) (by kernel_rfl) (by kernel_rfl) (by kernel_rfl) rfl (fun _ _ _ h => h) (Or.inl ⟨by rfl, ?_⟩) HT0 ?_
        rotate_left
        · intro W hSW
          go_simp
          try with_reducible rfl
        simp only [Act.put, List.setIfInBounds_toArray, List.set_cons_zero, List.set_cons_succ]
        refine wpAnyL_two (i := 5) (j := 13) (oi := ⟨some 55, .call ⟨.value (.func 32), #[.tmp 50, .tmp 52, .tmp 54], #[24, 3, 5]⟩, 3, "ref.go:284", #[⟨0, .data⟩, ⟨2, .data⟩, ⟨4, .data⟩], none⟩) (oj := ⟨some 11, .alloc 61, 0, "ref.go:284", #[], none⟩) (by kernel_rfl) rfl rfl rfl rfl (fun K hK => ?_) (fun K hK => ?_)
        · go_simp
          refine ((HG1.out _ PG.bel).1).mono ?_
          rintro e V1 ⟨rfl, hbq⟩
          have PG1 := PG.next hbq
          refine hK.out _ _ (fun _ => (HIB.out _ PG1.bel).1) ?_
          clear hK hbq
          try simp only [Act.put, List.setIfInBounds_toArray, List.set_cons_zero, List.set_cons_succ]
          refine wpAnyL_two (i := 11) (j := 13) (oi := ⟨some 61, .call ⟨.value (.func 32), #[.tmp 56, .tmp 58, .tmp 60], #[24, 3, 5]⟩, 3, "ref.go:284", #[⟨6, .data⟩, ⟨8, .data⟩, ⟨10, .data⟩, ⟨5, .chain⟩], none⟩) (oj := ⟨some 11, .alloc 61, 0, "ref.go:284", #[], none⟩) (by kernel_rfl) rfl rfl rfl rfl (fun K hK => ?_) (fun K hK => ?_)
          · go_simp
            refine ((HG1.out _ PG1.bel).2).mono ?_
            rintro e V2 ⟨rfl, hbq⟩
            have PG2 := PG1.next hbq
            refine hK.out _ _ (fun _ => (HIB.out _ PG2.bel).1) ?_
            clear hK hbq
            try simp only [Act.put, List.setIfInBounds_toArray, List.set_cons_zero, List.set_cons_succ]
            have HTE := (HIB.out _ PG2.bel).1
            refine wpAnyL_take' (i := 12) (v := ?_) (oi := ⟨some 62, .build 61 #[(0, .tmp 55), (1, .tmp 61)], 61, "ref.go:284", #[⟨5, .data⟩, ⟨11, .data⟩], none⟩) rfl (by kernel_rfl) (by kernel_rfl) (by kernel_rfl) (by kernel_rfl) rfl (fun _ _ _ h => h) (Or.inl ⟨by rfl, ?_⟩) HTE ?_
            rotate_left
            · intro W hSW
              go_simp
              try with_reducible rfl
            simp only [Act.put, List.setIfInBounds_toArray, List.set_cons_zero, List.set_cons_succ]
            refine wpAnyL_one' (i := 13) (o := ⟨some 11, .alloc 61, 0, "ref.go:284", #[], none⟩) (by kernel_rfl) rfl rfl (fun K hK => ?_)
            go_simp
            have PG3 := PG2.new
            refine hK.out _ _ (fun _ => (HIB.out _ PG3.bel).1) ?_
            clear hK
            try simp only [Act.put, List.setIfInBounds_toArray, List.set_cons_zero, List.set_cons_succ]
            generalize (V2.alloc (Obj.cells #[.int .i64 0, .int .i64 0, .string { data := #[] }] 61)) = V3 at *
            generalize V2.heap.size = yb at *
            obtain ⟨hyb, hyl⟩ := PG3.h _ rfl
            have kf0 : V3.frozen? ⟨yb, 0, none⟩ = false := Lib.frozen_of_heap hyb _
            have kf1 : V3.frozen? ⟨yb, 1, none⟩ = false := Lib.frozen_of_heap hyb _
            have kf2 : V3.frozen? ⟨yb, 2, none⟩ = false := Lib.frozen_of_heap hyb _
            have kc0 : V3.cell? ⟨yb, 0, none⟩ = some (.int .i64 0) := by rw [Lib.cell_of_heap hyb]; rfl
            have kc1 : V3.cell? ⟨yb, 1, none⟩ = some (.int .i64 0) := by rw [Lib.cell_of_heap hyb]; rfl
            have kc2 : V3.cell? ⟨yb, 2, none⟩ = some (.string { data := #[] }) := by rw [Lib.cell_of_heap hyb]; rfl
            refine wpAnyL_one' (i := 14) (o := ⟨none, .store 61 (.tmp 11) (.tmp 62), 0, "ref.go:284", #[⟨13, .data⟩, ⟨12, .data⟩, ⟨11, .chain⟩, ⟨0, .phase⟩, ⟨1, .phase⟩, ⟨2, .phase⟩, ⟨3, .phase⟩, ⟨4, .phase⟩, ⟨5, .phase⟩, ⟨6, .phase⟩, ⟨7, .phase⟩, ⟨8, .phase⟩, ⟨9, .phase⟩, ⟨10, .phase⟩, ⟨11, .phase⟩, ⟨12, .phase⟩, ⟨13, .phase⟩], none⟩) (by kernel_rfl) rfl rfl (fun K hK => ?_)
            go_simp
            refine hK.out _ _ (fun h => absurd h (by decide)) ?_
            clear hK
            try simp only [Act.put, List.setIfInBounds_toArray, List.set_cons_zero, List.set_cons_succ]
            refine wpAnyL_done (by kernel_rfl) ?_ _
            have PF := PG3.fin q1 q2
            go_wp2_with fail
            go_meet
            exact ⟨yb, rfl, PF⟩
          · go_simp
            have PG2 := PG1.new
            refine hK.out _ _ (fun _ => (HIB.out _ PG2.bel).1) ?_
            clear hK
            try simp only [Act.put, List.setIfInBounds_toArray, List.set_cons_zero, List.set_cons_succ]
            generalize (V1.alloc (Obj.cells #[.int .i64 0, .int .i64 0, .string { data := #[] }] 61)) = V2 at *
            generalize V1.heap.size = yb at *
            refine wpAnyL_one' (i := 11) (o := ⟨some 61, .call ⟨.value (.func 32), #[.tmp 56, .tmp 58, .tmp 60], #[24, 3, 5]⟩, 3, "ref.go:284", #[⟨6, .data⟩, ⟨8, .data⟩, ⟨10, .data⟩, ⟨5, .chain⟩], none⟩) (by kernel_rfl) rfl rfl (fun K hK => ?_)
            go_simp
            refine ((HG1.out _ PG2.bel).2).mono ?_
            rintro e V3 ⟨rfl, hbq⟩
            have PG3 := PG2.next hbq
            refine hK.out _ _ (fun _ => (HIB.out _ PG3.bel).1) ?_
            clear hK hbq
            try simp only [Act.put, List.setIfInBounds_toArray, List.set_cons_zero, List.set_cons_succ]
            have HTE := (HIB.out _ PG3.bel).1
            refine wpAnyL_take' (i := 12) (v := ?_) (oi := ⟨some 62, .build 61 #[(0, .tmp 55), (1, .tmp 61)], 61, "ref.go:284", #[⟨5, .data⟩, ⟨11, .data⟩], none⟩) rfl (by kernel_rfl) (by kernel_rfl) (by kernel_rfl) (by kernel_rfl) rfl (fun _ _ _ h => h) (Or.inl ⟨by rfl, ?_⟩) HTE ?_
            rotate_left
            · intro W hSW
              go_simp
              try with_reducible rfl
            simp only [Act.put, List.setIfInBounds_toArray, List.set_cons_zero, List.set_cons_succ]
            obtain ⟨hyb, hyl⟩ := PG3.h _ rfl
            have kf0 : V3.frozen? ⟨yb, 0, none⟩ = false := Lib.frozen_of_heap hyb _
            have kf1 : V3.frozen? ⟨yb, 1, none⟩ = false := Lib.frozen_of_heap hyb _
            have kf2 : V3.frozen? ⟨yb, 2, none⟩ = false := Lib.frozen_of_heap hyb _
            have kc0 : V3.cell? ⟨yb, 0, none⟩ = some (.int .i64 0) := by rw [Lib.cell_of_heap hyb]; rfl
            have kc1 : V3.cell? ⟨yb, 1, none⟩ = some (.int .i64 0) := by rw [Lib.cell_of_heap hyb]; rfl
            have kc2 : V3.cell? ⟨yb, 2, none⟩ = some (.string { data := #[] }) := by rw [Lib.cell_of_heap hyb]; rfl
            refine wpAnyL_one' (i := 14) (o := ⟨none, .store 61 (.tmp 11) (.tmp 62), 0, "ref.go:284", #[⟨13, .data⟩, ⟨12, .data⟩, ⟨11, .chain⟩, ⟨0, .phase⟩, ⟨1, .phase⟩, ⟨2, .phase⟩, ⟨3, .phase⟩, ⟨4, .phase⟩, ⟨5, .phase⟩, ⟨6, .phase⟩, ⟨7, .phase⟩, ⟨8, .phase⟩, ⟨9, .phase⟩, ⟨10, .phase⟩, ⟨11, .phase⟩, ⟨12, .phase⟩, ⟨13, .phase⟩], none⟩) (by kernel_rfl) rfl rfl (fun K hK => ?_)
            go_simp
            refine hK.out _ _ (fun h => absurd h (by decide)) ?_
            clear hK
            try simp only [Act.put, List.setIfInBounds_toArray, List.set_cons_zero, List.set_cons_succ]
            refine wpAnyL_done (by kernel_rfl) ?_ _
            have PF := PG3.fin q1 q2
            go_wp2_with fail
            go_meet
            exact ⟨yb, rfl, PF⟩
        · go_simp
          have PG1 := PG.new
          refine hK.out _ _ (fun _ => (HIB.out _ PG1.bel).1) ?_
          clear hK
          try simp only [Act.put, List.setIfInBounds_toArray, List.set_cons_zero, List.set_cons_succ]
          generalize (W0.alloc (Obj.cells #[.int .i64 0, .int .i64 0, .string { data := #[] }] 61)) = V1 at *
          generalize W0.heap.size = yb at *
          refine wpAnyL_one' (i := 5) (o := ⟨some 55, .call ⟨.value (.func 32), #[.tmp 50, .tmp 52, .tmp 54], #[24, 3, 5]⟩, 3, "ref.go:284", #[⟨0, .data⟩, ⟨2, .data⟩, ⟨4, .data⟩], none⟩) (by kernel_rfl) rfl rfl (fun K hK => ?_)
          go_simp
          refine ((HG1.out _ PG1.bel).1).mono ?_
          rintro e V2 ⟨rfl, hbq⟩
          have PG2 := PG1.next hbq
          refine hK.out _ _ (fun _ => (HIB.out _ PG2.bel).1) ?_
          clear hK hbq
          try simp only [Act.put, List.setIfInBounds_toArray, List.set_cons_zero, List.set_cons_succ]
          refine wpAnyL_one' (i := 11) (o := ⟨some 61, .call ⟨.value (.func 32), #[.tmp 56, .tmp 58, .tmp 60], #[24, 3, 5]⟩, 3, "ref.go:284", #[⟨6, .data⟩, ⟨8, .data⟩, ⟨10, .data⟩, ⟨5, .chain⟩], none⟩) (by kernel_rfl) rfl rfl (fun K hK => ?_)
          go_simp
          refine ((HG1.out _ PG2.bel).2).mono ?_
          rintro e V3 ⟨rfl, hbq⟩
          have PG3 := PG2.next hbq
          refine hK.out _ _ (fun _ => (HIB.out _ PG3.bel).1) ?_
          clear hK hbq
          try simp only [Act.put, List.setIfInBounds_toArray, List.set_cons_zero, List.set_cons_succ]
          have HTE := (HIB.out _ PG3.bel).1
          refine wpAnyL_take' (i := 12) (v := ?_) (oi := ⟨some 62, .build 61 #[(0, .tmp 55), (1, .tmp 61)], 61, "ref.go:284", #[⟨5, .data⟩, ⟨11, .data⟩], none⟩) rfl (by kernel_rfl) (by kernel_rfl) (by kernel_rfl) (by kernel_rfl) rfl (fun _ _ _ h => h) (Or.inl ⟨by rfl, ?_⟩) HTE ?_
          rotate_left
          · intro W hSW
            go_simp
            try with_reducible rfl
          simp only [Act.put, List.setIfInBounds_toArray, List.set_cons_zero, List.set_cons_succ]
          obtain ⟨hyb, hyl⟩ := PG3.h _ rfl
          have kf0 : V3.frozen? ⟨yb, 0, none⟩ = false := Lib.frozen_of_heap hyb _
          have kf1 : V3.frozen? ⟨yb, 1, none⟩ = false := Lib.frozen_of_heap hyb _
          have kf2 : V3.frozen? ⟨yb, 2, none⟩ = false := Lib.frozen_of_heap hyb _
          have kc0 : V3.cell? ⟨yb, 0, none⟩ = some (.int .i64 0) := by rw [Lib.cell_of_heap hyb]; rfl
          have kc1 : V3.cell? ⟨yb, 1, none⟩ = some (.int .i64 0) := by rw [Lib.cell_of_heap hyb]; rfl
          have kc2 : V3.cell? ⟨yb, 2, none⟩ = some (.string { data := #[] }) := by rw [Lib.cell_of_heap hyb]; rfl
          refine wpAnyL_one' (i := 14) (o := ⟨none, .store 61 (.tmp 11) (.tmp 62), 0, "ref.go:284", #[⟨13, .data⟩, ⟨12, .data⟩, ⟨11, .chain⟩, ⟨0, .phase⟩, ⟨1, .phase⟩, ⟨2, .phase⟩, ⟨3, .phase⟩, ⟨4, .phase⟩, ⟨5, .phase⟩, ⟨6, .phase⟩, ⟨7, .phase⟩, ⟨8, .phase⟩, ⟨9, .phase⟩, ⟨10, .phase⟩, ⟨11, .phase⟩, ⟨12, .phase⟩, ⟨13, .phase⟩], none⟩) (by kernel_rfl) rfl rfl (fun K hK => ?_)
          go_simp
          refine hK.out _ _ (fun h => absurd h (by decide)) ?_
          clear hK
          try simp only [Act.put, List.setIfInBounds_toArray, List.set_cons_zero, List.set_cons_succ]
          refine wpAnyL_done (by kernel_rfl) ?_ _
          have PF := PG3.fin q1 q2
          go_wp2_with fail
          go_meet
          exact ⟨yb, rfl, PF⟩
      case rest =>
      obtain ⟨yb, rfl, HY⟩ := hcut
      generalize wc = wy at *
      obtain ⟨⟨e0, e1, _, _⟩, _, _⟩ := HIB.out wy HY.out.2.1
      have y0 : wy.cell? ⟨yb, 0, none⟩ = some (.int .i64 q1) := by rw [Lib.cell_of_heap HY.out.1]; rfl
      have y1 : wy.cell? ⟨yb, 1, none⟩ = some (.int .i64 q2) := by rw [Lib.cell_of_heap HY.out.1]; rfl
      have HPD : Hid (PD a b (t ++ [(m : Int)]) = (q1, q2) ∧ okP a.length b.length (q1, q2)) := by
        have h : PD a b (t ++ [(m : Int)]) = (q1, q2) := by
          unfold PD
          rw [goD_snoc, goD_snoc, HPQ.out.1, HPQ.out.2.1, HQV.out.1, HQV.out.2]
        exact ⟨h, h ▸ PD_ok HFF.out.1 HFF.out.2 (t ++ [(m : Int)])⟩
      obtain ⟨kk, hkk⟩ : ∃ kk : Nat, kk = keyP b.length (q1, q2) := ⟨_, rfl⟩
      have HKK : Hid (kk = keyP b.length (q1, q2)) := hkk
      have hkt : kk < tot := by rw [hkk, HTOT.out]; exact key_lt HPD.out.2
      obtain ⟨z1, hz1⟩ : ∃ z, wrap64 (q1 + 1) = z := ⟨_, rfl⟩
      obtain ⟨z2, hz2'⟩ : ∃ z, wrap64 (z1 * ((b.length : Int) + 1)) = z := ⟨_, rfl⟩
      obtain ⟨z3, hz3⟩ : ∃ z, wrap64 (z2 + q2) = z := ⟨_, rfl⟩
      have hz4 : wrap64 (z3 + 1) = (kk : Int) := by
        have hi := key_int HPD.out.2
        rw [← hkk] at hi
        simp only at hi
        obtain ⟨⟨b1, b2⟩, b3, b4⟩ := HPD.out.2
        simp only at b1 b2 b3 b4
        rw [IntWalk.wrap64_in _ (by omega)] at hz1
        subst hz1
        generalize (q1 + 1) * ((b.length : Int) + 1) = pp at *
        rw [IntWalk.wrap64_in _ (by omega)] at hz2'
        subst hz2'
        rw [IntWalk.wrap64_in _ (by omega)] at hz3
        subst hz3
        rw [IntWalk.wrap64_in _ (by omega)]
        exact hi
      clear hkk
      have HNX : Hid (∀ (V : World), Below wy.heap.size wy V → (dead2 a b (t ++ [(m : Int)]) ∨ tb2[kk]? = some true) → QI a b w0 wo n t tx p1 p2 (m + 1) T2 tb2 (.slice la2 zn lc2) V) := fun V hV hd => by
        have h := HI.out
        have hb := HY.out.2.1.trans (hV.mono HY.out.2.1.size)
        refine ⟨h.at_, h.len, h.bf.skip h.at_ (hd.imp id (fun e => ?_)), h.mt, ⟨own_below h.qs.row hb, own_below h.qs.tab hb⟩, h.bel.trans (hb.mono h.bel.size), (hb.block _ (blk_lt h.box)).trans h.box, h.nb, h.sz⟩
        rw [HKK.out] at e
        rw [HPD.out.1]
        exact (h.mt.tell _ HPD.out.2).1 e
      go_upto_region 14 with fail
      rw [hz4]
      clear hz1 hz2' hz3 hz4
      by_cases hdd : q1 < 0 ∧ q2 < 0
      · obtain ⟨hd1, hd2⟩ := hdd
        have HE : Hid (QI a b w0 wo n t tx p1 p2 (m + 1) T2 tb2 (.slice la2 zn lc2) wy) := HNX.out wy (Below.refl _ _) (.inl (by
          have h := HPD.out.1
          unfold PD at h
          simp only [Prod.mk.injEq] at h
          unfold dead2
          rw [h.1, h.2]
          exact ⟨hd1, hd2⟩))
        have d1 : decide (q1 < 0) = true := decide_eq_true hd1
        have d2 : decide (q2 < 0) = true := decide_eq_true hd2
        clear HNX hd1 hd2 HI HKK HPD HY HQV HP HPQ HSM HFF HTOT HCL HA HB HBB HIB HG1 e0 e1
        go_wp2_with fail
        exact ⟨⟨m + 1, zn, T2, tb2, la2, lc2, by go_num, rfl, by omega, hzn, hnz, HE⟩, by simp [intOf]; omega⟩
      obtain ⟨TB, hTB⟩ : ∃ B, tb2[kk]? = some B := ⟨_, List.getElem?_eq_getElem (by rw [HI.out.mt.len, ← HTOT.out]; exact hkt)⟩
      have HTB : Hid (tb2[kk]? = some TB) := hTB
      have htab : wy.ownsRow w0.heap.size 4 1 (.slice (some ⟨w0.heap.size, 0, none⟩) tot tot) tot (tb2.map encB) := by
        have h9 := own_below HI.out.qs.tab HY.out.2.1
        rw [HI.out.mt.len, ← HTOT.out] at h9
        exact h9
      have kt : wy.cell? ⟨w0.heap.size, kk, none⟩ = some (.bool TB) := own_cells1 htab (by rw [List.getElem?_map, hTB]; rfl)
      have kf : wy.frozen? ⟨w0.heap.size, kk, none⟩ = false := World.ownsRow.frozenAt htab _
      have HTAB : Hid (wy.ownsRow w0.heap.size 4 1 (.slice (some ⟨w0.heap.size, 0, none⟩) tot tot) tot (tb2.map encB)) := htab
      clear hTB htab
      have HND : Hid (¬ dead2 a b (t ++ [(m : Int)])) := fun h => hdd (by
        have h9 := HPD.out.1
        unfold PD at h9
        simp only [Prod.mk.injEq] at h9
        unfold dead2 at h
        rw [h9.1, h9.2] at h
        exact h)
      obtain ⟨D1, hD1⟩ : ∃ D, decide (q1 < 0) = D := ⟨_, rfl⟩
      obtain ⟨D2, hD2⟩ : ∃ D, decide (q2 < 0) = D := ⟨_, rfl⟩
      have hDD : (D1 && D2) = false := by
        rw [← hD1, ← hD2]
        cases h : (decide (q1 < 0) && decide (q2 < 0)) with
        | false => rfl
        | true => simp at h; exact absurd h hdd
      clear hdd
      cases TB
      case true =>
        have HE : Hid (QI a b w0 wo n t tx p1 p2 (m + 1) T2 tb2 (.slice la2 zn lc2) wy) := HNX.out wy (Below.refl _ _) (.inr HTB.out)
        clear HNX HI HKK HPD HY HQV HP HPQ HSM HFF HTOT HCL HA HB HBB HIB HG1 e0 e1 HTAB HND HTB
        cases D1 <;> cases D2 <;> first | (exfalso; cases hDD; done) | (go_wp2_with fail; exact ⟨⟨m + 1, zn, T2, tb2, la2, lc2, by go_num, rfl, by omega, hzn, hnz, HE⟩, by simp [intOf]; omega⟩)
      go_cut [88] from 46 (fun t88 wx => t88 = .bool false ∧ wx = wy)
      case first =>
        clear HI HKK HPD HY HQV HP HPQ HSM HFF HTOT HCL HA HB HBB HIB HG1 e0 e1 HTAB HND HTB HNX
        cases D1 <;> cases D2 <;> first | (exfalso; cases hDD; done) | (go_wp2_with fail; go_meet; exact ⟨rfl, rfl⟩)
      case rest =>
      obtain ⟨rfl, hwc⟩ := hcut
      obtain rfl := hwc.symm
      have HX9 : Hid (wy.heap[wo.heap.size]? = some (Obj.cells #[.int .i64 p1, .int .i64 p2, .string tx] 61) ∧ w0.heap.size ≠ wo.heap.size ∧ w0.heap.size ≠ yb ∧ wo.heap.size ≠ yb) := by
        have h := HI.out
        have hx := (HY.out.2.1.block _ (blk_lt h.box)).trans h.box
        refine ⟨hx, fun e => own_nb HTAB.out hx (by decide) (by rw [← e]; rfl), fun e => own_nb HTAB.out HY.out.1 (by decide) (by rw [← e]; rfl), fun e => ?_⟩
        have := blk_lt h.box
        have := HY.out.2.2
        omega
      have HW1 : Hid (∀ W, W = wy.setCell ⟨w0.heap.size, kk, none⟩ (.bool true) → But (fun k => k = w0.heap.size ∨ k = yb) wy W ∧ W.ownsRow w0.heap.size 4 1 (.slice (some ⟨w0.heap.size, 0, none⟩) tot tot) tot ((tb2.set kk true).map encB) ∧ W.heap[wo.heap.size]? = some (Obj.cells #[.int .i64 p1, .int .i64 p2, .string tx] 61) ∧ W.heap[yb]? = some (Obj.cells #[.int .i64 q1, .int .i64 q2, .string { data := #[] }] 61)) := fun W hW => by
        obtain ⟨x1, x2, x3, x4⟩ := HX9.out
        subst hW
        refine ⟨(But.refl _ _).setCell _ _ (.inr (.inl rfl)), ?_, set_blk x1 (fun e => x2 e.symm), set_blk HY.out.1 (fun e => x3 e.symm)⟩
        have h9 := (World.ownsRow.stored HTAB.out kk (.bool true)).1
        rw [List.map_set]
        exact h9
      have HTSZ : Hid (tx.size ≤ 4000) := by
        have h := HI.out
        have h1 := h.sz n t h.at_
        show tx.size ≤ 4000
        rw [← HPQ.out.2.2]
        have h2 : (strB t).size = t.length := by unfold strB; simp [ByteArray.size]
        omega
      clear hD1 hD2 hDD y0 y1 HNX HG1 HIB HQV
      go_upto_region 16 with fail
      have HW2 := HW1.out _ rfl
      clear HW1 kf kt
      generalize wy.setCell ⟨w0.heap.size, kk, none⟩ (.bool true) = W1 at *
      have HW : Hid (But (fun k => k = w0.heap.size ∨ k = yb) wy W1 ∧ W1.ownsRow w0.heap.size 4 1 (.slice (some ⟨w0.heap.size, 0, none⟩) tot tot) tot ((tb2.set kk true).map encB) ∧ W1.heap[wo.heap.size]? = some (Obj.cells #[.int .i64 p1, .int .i64 p2, .string tx] 61) ∧ W1.heap[yb]? = some (Obj.cells #[.int .i64 q1, .int .i64 q2, .string { data := #[] }] 61)) := HW2
      have x0 : W1.cell? ⟨wo.heap.size, 2, none⟩ = some (.string tx) := by rw [Lib.cell_of_heap HW2.2.2.1]; rfl
      have b2 : Below W1.heap.size W1 (W1.alloc (Obj.cells #[.int .u8 (m : Int)] 5)) := below_box _ _ _
      have hy2 := (b2.block _ (blk_lt HW2.2.2.2)).trans HW2.2.2.2
      have kf2 : (W1.alloc (Obj.cells #[.int .u8 (m : Int)] 5)).frozen? ⟨yb, 2, none⟩ = false := Lib.frozen_of_heap hy2 _
      have kc2 : (W1.alloc (Obj.cells #[.int .u8 (m : Int)] 5)).cell? ⟨yb, 2, none⟩ = some (.string { data := #[] }) := by rw [Lib.cell_of_heap hy2]; rfl
      have hcv : (convert 64 9 (.slice (some ⟨W1.heap.size, 0, none⟩) 1 1)).run Try.prog (W1.alloc (Obj.cells #[.int .u8 (m : Int)] 5)) = .ok (.string (strB [(m : Int)])) (W1.alloc (Obj.cells #[.int .u8 (m : Int)] 5)) :=
        conv_u8 (B := 0) (P := [(m : Int)]) (World.ownsRow_lit (base := 0) (e := 5) (size := 1) W1 #[.int .u8 (m : Int)] 1 (Nat.zero_le _) (by unfold maxLen; omega) rfl) (fun z hz => by simp at hz; omega)
      have HSN : Hid (strB (t ++ [(m : Int)]) = tx ++ strB [(m : Int)] ∧ (strB [(m : Int)]).size = 1) := by
        refine ⟨?_, by simp [strB, ByteArray.size]⟩
        rw [← HPQ.out.2.2]
        unfold strB
        apply ByteArray.ext
        simp
      obtain ⟨mx, hmx⟩ : ∃ x, strB [(m : Int)] = x := ⟨_, rfl⟩
      rw [hmx] at hcv HSN
      clear hmx
      have hsz1 : ¬ 9223372036854775807 < tx.size + mx.size := by
        have := HTSZ.out
        have := HSN.out.2
        omega
      clear HW2 b2
      go_upto_region 17 with fail
      have HW3 : Hid (∀ W, W = (W1.alloc (Obj.cells #[.int .u8 (m : Int)] 5)).setCell ⟨yb, 2, none⟩ (.string (tx ++ mx)) → But (fun k => k = w0.heap.size ∨ k = yb) wy W ∧ W.ownsRow w0.heap.size 4 1 (.slice (some ⟨w0.heap.size, 0, none⟩) tot tot) tot ((tb2.set kk true).map encB) ∧ W.heap[wo.heap.size]? = some (Obj.cells #[.int .i64 p1, .int .i64 p2, .string tx] 61) ∧ W.heap[yb]? = some (Obj.cells #[.int .i64 q1, .int .i64 q2, .string (tx ++ mx)] 61)) := fun W hW => by
        obtain ⟨x1, x2, x3, x4⟩ := HX9.out
        obtain ⟨y1, y2, y3, y4⟩ := HW.out
        have b2 : Below W1.heap.size W1 (W1.alloc (Obj.cells #[.int .u8 (m : Int)] 5)) := below_box _ _ _
        have bs : But (fun k => k = w0.heap.size ∨ k = yb) (W1.alloc (Obj.cells #[.int .u8 (m : Int)] 5)) W := by rw [hW]; exact (But.refl _ _).setCell _ _ (.inr (.inr rfl))
        have bs2 : But (fun k => k = yb) (W1.alloc (Obj.cells #[.int .u8 (m : Int)] 5)) W := by rw [hW]; exact (But.refl _ _).setCell _ _ (.inr rfl)
        refine ⟨(y1.trans (But.of_next b2)).trans bs, ownsRow_keep (own_below y2 b2) bs2 (fun k hk e => ?_), but_blk bs2 ((b2.block _ (blk_lt y3)).trans y3) x4, ?_⟩
        · have h9 : w0.heap.size = k := by simpa [Value.ownBlock] using hk
          omega
        · have h9 := blk_set (o := 2) ((b2.block _ (blk_lt y4)).trans y4) (.string (tx ++ mx))
          rw [hW]
          simpa using h9
      have HV3 := HW3.out _ rfl
      clear HW3 HW hcv kf2 kc2 hy2 x0 hsz1
      generalize (W1.alloc (Obj.cells #[.int .u8 (m : Int)] 5)).setCell ⟨yb, 2, none⟩ (.string (tx ++ mx)) = W3 at *
      have HV : Hid (But (fun k => k = w0.heap.size ∨ k = yb) wy W3 ∧ W3.ownsRow w0.heap.size 4 1 (.slice (some ⟨w0.heap.size, 0, none⟩) tot tot) tot ((tb2.set kk true).map encB) ∧ W3.heap[wo.heap.size]? = some (Obj.cells #[.int .i64 p1, .int .i64 p2, .string tx] 61) ∧ W3.heap[yb]? = some (Obj.cells #[.int .i64 q1, .int .i64 q2, .string (tx ++ mx)] 61)) := HV3
      have z0 : W3.cell? ⟨yb, 0, none⟩ = some (.int .i64 q1) := by rw [Lib.cell_of_heap HV3.2.2.2]; rfl
      have z1 : W3.cell? ⟨yb, 1, none⟩ = some (.int .i64 q2) := by rw [Lib.cell_of_heap HV3.2.2.2]; rfl
      have z2 : W3.cell? ⟨yb, 2, none⟩ = some (.string (tx ++ mx)) := by rw [Lib.cell_of_heap HV3.2.2.2]; rfl
      have hzl : zn = T2.length := HI.out.len
      have HZL : Hid (zn = T2.length) := hzl
      have hsm : zn ≤ 3722 := hzn
      have HQN : Hid (∀ k, (Value.slice la2 zn lc2).ownBlock = some k → k ≠ w0.heap.size ∧ k < wi.heap.size ∧ w0.heap.size ≤ k) := fun k hk => by
        have hr := HI.out.qs.row
        have h1 := World.ownsRow.lt hr k hk
        refine ⟨fun e => ?_, h1.2, h1.1⟩
        obtain ⟨cs', hc'⟩ := own_is_cells HI.out.qs.tab (show (Value.slice (some ⟨w0.heap.size, 0, none⟩) tb2.length tb2.length).ownBlock = some w0.heap.size from rfl)
        exact own_nb hr hc' (by decide) (by rw [hk, e])
      have hON3 : W3.ownsRow w0.heap.size 61 3 (.slice la2 zn lc2) zn (T2.flatMap (encT a b)) := by
        have h1 := own_below HI.out.qs.row HY.out.2.1
        rw [← hzl] at h1
        refine ownsRow_keep h1 HV3.1 (fun k hk e => ?_)
        obtain ⟨n1, n2, _⟩ := HQN.out k hk
        have := HY.out.2.2
        omega
      obtain ⟨ip, hip, hp0, hp1', hp2'⟩ := info_parts infoPr
      have hnw := new_cell3 W3 (.int .i64 q1) (.int .i64 q2) (.string (tx ++ mx)) 61
      have b4 : Below W3.heap.size W3 (W3.alloc (Obj.cells #[.int .i64 q1, .int .i64 q2, .string (tx ++ mx)] 61)) := (Below.refl _ _).alloc (Nat.le_refl _) _
      have hON := own_below hON3 b4
      have HB4 : Hid (Below W3.heap.size W3 (W3.alloc (Obj.cells #[.int .i64 q1, .int .i64 q2, .string (tx ++ mx)] 61))) := b4
      have hszn : w0.heap.size ≤ (W3.alloc (Obj.cells #[.int .i64 q1, .int .i64 q2, .string (tx ++ mx)] 61)).heap.size := by
        have g1 := HI.out.bel.size
        have g2 := HY.out.2.1.size
        have g3 := HV3.1.size
        have g4 := b4.size
        omega
      clear hzl HV3 hON3 b4 e0 e1
      go_wp2_with (at_builtin; refine wpList_append_own_at _ rfl _ _ 62 rfl w0.heap.size 61 ip _ 3 32 Try.underlying62 hip hp0 hp1' hp2' rfl (by omega) _ _ _ rfl hON ⟨W3.heap.size, 0, none⟩ 1 1 [.int .i64 q1, .int .i64 q2, .string (tx ++ mx)] rfl rfl hnw (by simp [Value.oneCell']) (by unfold maxLen; omega) (by omega) hszn ?_)
      intro v' w8 ho8 hg8 _ hat8
      have HE : Hid (QI a b w0 wo n t tx p1 p2 (m + 1) (T2 ++ [t ++ [(m : Int)]]) (tb2.set kk true) v' w8 ∧ zn + 1 ≤ 3722) := by
        have h := HI.out
        obtain ⟨v1, v2, v3, v4⟩ := HV.out
        have hpd := HPD.out.1
        have hzl := HZL.out
        have b08 : But (fun k => (Value.slice la2 zn lc2).ownBlock = some k) W3 w8 := (But.of_next HB4.out).trans (but_grown hg8 (fun r h => h))
        have hnT : n < T2.length := by omega
        have hbf := h.bf.push h.at_ (by omega) (by omega) HND.out (fun j w hj hw e => by
          have h9 := (h.mt.tell _ HPD.out.2).2 ⟨j, w, hj, hw, e.trans hpd⟩
          rw [← HKK.out, HTB.out] at h9
          cases h9)
        have hmt := h.mt.push HFF.out.1 HFF.out.2 (by omega) (t ++ [(m : Int)])
        rw [hpd, ← HKK.out] at hmt
        have hge := h.bel.size
        have hwy := HY.out.2.1.size
        have hyb := HY.out.2.2
        refine ⟨⟨by rw [List.getElem?_append_left hnT]; exact h.at_, ?_, by push_cast; exact hbf, hmt, ⟨?_, ?_⟩, ?_, but_blk b08 v3 (fun e => h.nb _ e rfl), fun k hk => ?_, fun j w hj => ?_⟩, ?_⟩
        · obtain ⟨va', vc', rfl⟩ := slice_of_ownK ho8
          show zn + 1 = _
          rw [List.length_append, ← hzl]; rfl
        · rw [List.length_append, List.flatMap_append, ← hzl]
          have h9 : encT a b (t ++ [(m : Int)]) = [.int .i64 q1, .int .i64 q2, .string (tx ++ mx)] := by
            unfold PD at hpd
            simp only [Prod.mk.injEq] at hpd
            unfold encT
            rw [hpd.1, hpd.2, HSN.out.1]
          have h8 : [t ++ [(m : Int)]].flatMap (encT a b) = [.int .i64 q1, .int .i64 q2, .string (tx ++ mx)] := by simpa using h9
          rw [h8]
          exact ho8
        · have h9 := ownsRow_keep v2 b08 (fun k hk e => by
            have h9 : w0.heap.size = k := by simpa [Value.ownBlock] using hk
            exact (HQN.out k e).1 h9.symm)
          have h8 : (tb2.set kk true).length = tot := by rw [List.length_set, h.mt.len]; exact HTOT.out.symm
          rw [h8]
          exact h9
        · have g1 : Below w0.heap.size w0 wy := h.bel.trans (HY.out.2.1.mono hge)
          have g2 : Below w0.heap.size w0 W3 := below_but g1 v1 (Nat.le_refl _) (fun k hk => by omega)
          exact below_but g2 b08 (Nat.le_refl _) (fun k hk => (HQN.out k hk).2.2)
        · rcases hat8 with h9 | h9
          · exact h.nb k (by rw [← h9]; exact hk)
          · rw [h9] at hk
            cases hk
            have := blk_lt v3
            simp
            omega
        · rcases Nat.lt_or_ge j T2.length with hl | hl
          · rw [List.getElem?_append_left hl] at hj; exact h.sz j w hj
          · rw [List.getElem?_append_right hl] at hj
            have hj2 := (List.getElem?_eq_some_iff.1 hj).1
            simp at hj2
            have hj0 : j - T2.length = 0 := by omega
            rw [hj0] at hj
            simp at hj
            subst hj
            have := h.sz n t h.at_
            simp
            omega
        · have h9 := hbf.small HFF.out.1 HFF.out.2
          rw [List.length_append, ← hzl, ← HTOT.out] at h9
          simp at h9
          omega
      obtain ⟨va', vc', rfl⟩ := slice_of_ownK ho8
      clear ho8 hg8 hat8 hON hnw HB4 HV z0 z1 z2 HQN HZL HI HKK HPD HY HP HPQ HSM HFF HTOT HCL HA HB HBB HTAB HND HTB HX9 HTSZ HSN hszn
      go_wp2_with fail
      exact ⟨⟨m + 1, zn + 1, T2 ++ [t ++ [(m : Int)]], tb2.set kk true, va', vc', by go_num, rfl, by omega, HE.out.2, by omega, HE.out.1⟩, by simp [intOf]; omega⟩
end Go.Proofs.Ytdalomibilicfaa
