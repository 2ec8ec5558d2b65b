/- Machines in one state: the document's Same. -/
import Derived.Test.YtdalomibilicfaaDSmall
namespace Go.Proofs.Ytdalomibilicfaa
open Go.RowKit

theorem cell_newD {W : World} {p : Addr} {v : Value} {o : Obj} (h : W.cell? p = some v) : (W.alloc o).cell? p = some v := (((Below.refl _ W).alloc (Nat.le_refl _) o).cell (World.block_lt_of_cell? _ _ h)).trans h
set_option maxRecDepth 100000 in
set_option maxHeartbeats 3200000 in
theorem rsame_any (a b : List Ds) (u v : Value) (w : World) (ha : SlD a u w) (hb : SlD b v w) :
    Calls Try.prog 9 #[.agg #[u], .agg #[v]] w fun e w' => e = .returned (.bool (decide (a = b))) ∧ Below w.heap.size w w' := by
  have HL : Hid (∀ W, Below w.heap.size w W → SlD a u W ∧ SlD b v W) := fun W hW => ⟨ha.next hW, hb.next hW⟩
  obtain ⟨aa, ac, rfl, _, _, _, hal⟩ := ha
  obtain ⟨ba, bc, rfl, _, _, _, hbl⟩ := hb
  have B0 : Below w.heap.size w ((w.alloc (Obj.cells #[.slice aa a.length ac] 24)).alloc (Obj.cells #[.slice ba b.length bc] 24)) := ((Below.refl _ _).alloc (Nat.le_refl _) _).alloc (by simp) _
  have b0 : ((w.alloc (Obj.cells #[.slice aa a.length ac] 24)).alloc (Obj.cells #[.slice ba b.length bc] 24)).heap[w.heap.size]? = some (Obj.cells #[.slice aa a.length ac] 24) := (((Below.refl _ (w.alloc (Obj.cells #[.slice aa a.length ac] 24))).alloc (Nat.le_refl _) _).block _ (by simp)).trans (heap_alloc_new _ _)
  have b1 : ((w.alloc (Obj.cells #[.slice aa a.length ac] 24)).alloc (Obj.cells #[.slice ba b.length bc] 24)).heap[w.heap.size + 1]? = some (Obj.cells #[.slice ba b.length bc] 24) := by
    have := heap_alloc_new (w.alloc (Obj.cells #[.slice aa a.length ac] 24)) (Obj.cells #[.slice ba b.length bc] 24)
    simpa using this
  by_cases hn : a.length = b.length
  case neg =>
    have HE : Hid (decide (a = b) = false) := decide_eq_false (fun e => hn (by rw [e]))
    have d0 : ((a.length : Int) != b.length) = true := by simp; omega
    clear HL b0 b1
    go_enter Try.func9, Try.ntmps9
    go_wp2_with fail
    go_ret
    exact ⟨by rw [HE.out]; rfl, B0⟩
  obtain ⟨n, hbn⟩ : ∃ n, b.length = n := ⟨_, rfl⟩
  rw [hbn] at hn b0 b1 B0 HL hbl ⊢
  have d0 : ((n : Int) != n) = false := by simp
  rw [hn] at b0 b1 B0 HL hal ⊢
  have HN : Hid (a.length = n ∧ b.length = n) := ⟨hn, hbn⟩
  clear hn hbn
  go_enter Try.func9, Try.ntmps9
  go_wp2_with fail
  generalize ((w.alloc (Obj.cells #[.slice aa n ac] 24)).alloc (Obj.cells #[.slice ba n bc] 24)) = w0 at *
  have hz := blk_lt b0
  have hz1 := blk_lt b1
  have HT : Hid (∀ W, Below w0.heap.size w0 W → W.cell? ⟨w.heap.size, 0, none⟩ = some (.slice aa n ac) ∧ W.cell? ⟨w.heap.size + 1, 0, none⟩ = some (.slice ba n bc) ∧ SlD a (.slice aa n ac) W ∧ SlD b (.slice ba n bc) W ∧ Below w.heap.size w W) := fun W hW => ⟨(hW.cell (p := ⟨w.heap.size, 0, none⟩) hz).trans (by rw [Lib.cell_of_heap b0]; rfl), (hW.cell (p := ⟨w.heap.size + 1, 0, none⟩) hz1).trans (by rw [Lib.cell_of_heap b1]; rfl), (HL.out W (B0.trans (hW.mono B0.size))).1, (HL.out W (B0.trans (hW.mono B0.size))).2, B0.trans (hW.mono B0.size)⟩
  clear B0 b0 b1 HL
  go_loopw [5] (fun iv wr => ∃ (i : Nat), iv = .int .i64 i ∧ i ≤ n ∧ Hid (a = b ↔ a.drop i = b.drop i) ∧ Below w0.heap.size w0 wr) (fun i _ => n - (intOf i).toNat)
  case atStart => exact ⟨0, rfl, Nat.zero_le _, by show _ ↔ _; simp, Below.refl _ _⟩
  case round =>
  obtain ⟨i, rfl, hi, HF, BR⟩ := hrel
  obtain ⟨c0, c1, ⟨_, _, e0, hala, _⟩, ⟨_, _, e1, halb, _⟩, QB⟩ := HT.out wr BR
  simp only [Value.slice.injEq] at e0 e1
  obtain ⟨rfl, z1, rfl⟩ := e0
  obtain ⟨rfl, z2, rfl⟩ := e1
  clear z1 z2
  have hn := HN.out.1
  have hbn := HN.out.2
  by_cases hlt : i < n
  case neg =>
    obtain rfl : i = n := by omega
    have HE : Hid (decide (a = b) = true) := decide_eq_true (HF.out.2 (by rw [List.drop_of_length_le (by omega), List.drop_of_length_le (by omega)]))
    have d1 : decide ((i : Int) < i) = false := decide_eq_false (by omega)
    clear HT HF hala halb hn hbn
    go_wp2_with fail
    go_ret
    exact ⟨by rw [HE.out]; rfl, QB⟩
  have d1 : decide ((i : Int) < n) = true := decide_eq_true (by omega)
  obtain ⟨b2, o2, u2, rfl, hb2, q0, q1, hA, _⟩ := hala.at (Below.refl _ _) (show i < a.length by omega)
  obtain ⟨b3, o3, u3, rfl, hb3, r0, r1, hB, _⟩ := halb.at (Below.refl _ _) (show i < b.length by omega)
  have HF2 : Hid (a = b ↔ (a[i]'(by omega) = b[i]'(by omega) ∧ a.drop (i + 1) = b.drop (i + 1))) := by
    show _ ↔ _
    rw [HF.out, List.drop_eq_getElem_cons (show i < a.length by omega), List.drop_eq_getElem_cons (show i < b.length by omega), List.cons.injEq]
  generalize a[i]'(by omega) = x at *
  generalize b[i]'(by omega) = y at *
  obtain ⟨xs, xc⟩ := x
  obtain ⟨ys, yc⟩ := y
  simp only [Ds.mk.injEq] at *
  have HX : Hid (∀ W, Below wr.heap.size wr W → SlA xs u2 W ∧ SlA ys u3 W) := fun W hW => ⟨hA.next hW, hB.next hW⟩
  obtain ⟨xa, xk, rfl, _, _, _, hxl⟩ := hA
  obtain ⟨ya, yk, rfl, _, _, _, hyl⟩ := hB
  have bx : Below wr.heap.size wr ((wr.alloc (Obj.cells #[.slice xa xs.length xk, .int .i64 xc] 37)).alloc (Obj.cells #[.slice ya ys.length yk, .int .i64 yc] 37)) := ((Below.refl _ _).alloc (Nat.le_refl _) _).alloc (by simp) _
  have x0 : ((wr.alloc (Obj.cells #[.slice xa xs.length xk, .int .i64 xc] 37)).alloc (Obj.cells #[.slice ya ys.length yk, .int .i64 yc] 37)).heap[wr.heap.size]? = some (Obj.cells #[.slice xa xs.length xk, .int .i64 xc] 37) := (((Below.refl _ (wr.alloc (Obj.cells #[.slice xa xs.length xk, .int .i64 xc] 37))).alloc (Nat.le_refl _) _).block _ (by simp)).trans (heap_alloc_new _ _)
  have y0 : ((wr.alloc (Obj.cells #[.slice xa xs.length xk, .int .i64 xc] 37)).alloc (Obj.cells #[.slice ya ys.length yk, .int .i64 yc] 37)).heap[wr.heap.size + 1]? = some (Obj.cells #[.slice ya ys.length yk, .int .i64 yc] 37) := by
    have := heap_alloc_new (wr.alloc (Obj.cells #[.slice xa xs.length xk, .int .i64 xc] 37)) (Obj.cells #[.slice ya ys.length yk, .int .i64 yc] 37)
    simpa using this
  have QX : Hid (Below w.heap.size w ((wr.alloc (Obj.cells #[.slice xa xs.length xk, .int .i64 xc] 37)).alloc (Obj.cells #[.slice ya ys.length yk, .int .i64 yc] 37))) := QB.trans (bx.mono QB.size)
  have cb1 := cell_newD (o := Obj.cells #[.slice xa xs.length xk, .int .i64 xc] 37) c1
  have rb0 := cell_newD (o := Obj.cells #[.slice xa xs.length xk, .int .i64 xc] 37) r0
  have rb1 := cell_newD (o := Obj.cells #[.slice xa xs.length xk, .int .i64 xc] 37) r1
  have cx0 : ((wr.alloc (Obj.cells #[.slice xa xs.length xk, .int .i64 xc] 37)).alloc (Obj.cells #[.slice ya ys.length yk, .int .i64 yc] 37)).cell? ⟨wr.heap.size, 0, none⟩ = some (.slice xa xs.length xk) := by rw [Lib.cell_of_heap x0]; rfl
  have cx1 : ((wr.alloc (Obj.cells #[.slice xa xs.length xk, .int .i64 xc] 37)).alloc (Obj.cells #[.slice ya ys.length yk, .int .i64 yc] 37)).cell? ⟨wr.heap.size, 1, none⟩ = some (.int .i64 xc) := by rw [Lib.cell_of_heap x0]; rfl
  have cy0 : ((wr.alloc (Obj.cells #[.slice xa xs.length xk, .int .i64 xc] 37)).alloc (Obj.cells #[.slice ya ys.length yk, .int .i64 yc] 37)).cell? ⟨wr.heap.size + 1, 0, none⟩ = some (.slice ya ys.length yk) := by rw [Lib.cell_of_heap y0]; rfl
  have cy1 : ((wr.alloc (Obj.cells #[.slice xa xs.length xk, .int .i64 xc] 37)).alloc (Obj.cells #[.slice ya ys.length yk, .int .i64 yc] 37)).cell? ⟨wr.heap.size + 1, 1, none⟩ = some (.int .i64 yc) := by rw [Lib.cell_of_heap y0]; rfl
  clear x0 y0
  by_cases h1 : xc = yc
  case neg =>
    have HE : Hid (decide (a = b) = false) := decide_eq_false (fun e => h1 (HF2.out.1 e).1.2)
    have d2 : (xc != yc) = true := by simpa using h1
    clear HT HF HF2 hala halb HX bx h1 hn hbn
    go_wp2_with fail
    go_ret
    exact ⟨by rw [HE.out]; rfl, QX.out⟩
  subst h1
  have d2 : (xc != xc) = false := by simp
  by_cases h2 : xs.length = ys.length
  case neg =>
    have HE : Hid (decide (a = b) = false) := decide_eq_false (fun e => h2 (by rw [(HF2.out.1 e).1.1]))
    have d3 : ((xs.length : Int) != ys.length) = true := by simp; omega
    clear HT HF HF2 hala halb HX bx hn hbn
    go_wp2_with fail
    go_ret
    exact ⟨by rw [HE.out]; rfl, QX.out⟩
  have HL2 : Hid (xs.length = ys.length) := h2
  have d3 : ((xs.length : Int) != ys.length) = false := by simp; omega
  have HB : Hid (∀ W, Below ((wr.alloc (Obj.cells #[.slice xa xs.length xk, .int .i64 xc] 37)).alloc (Obj.cells #[.slice ya ys.length yk, .int .i64 xc] 37)).heap.size ((wr.alloc (Obj.cells #[.slice xa xs.length xk, .int .i64 xc] 37)).alloc (Obj.cells #[.slice ya ys.length yk, .int .i64 xc] 37)) W → W.cell? ⟨wr.heap.size, 0, none⟩ = some (.slice xa xs.length xk) ∧ W.cell? ⟨wr.heap.size + 1, 0, none⟩ = some (.slice ya ys.length yk) ∧ SlA xs (.slice xa xs.length xk) W ∧ SlA ys (.slice ya ys.length yk) W ∧ Below w0.heap.size w0 W ∧ Below w.heap.size w W) := fun W hW => ⟨(hW.cell (p := ⟨wr.heap.size, 0, none⟩) (World.block_lt_of_cell? _ _ cx0)).trans cx0, (hW.cell (p := ⟨wr.heap.size + 1, 0, none⟩) (World.block_lt_of_cell? _ _ cy0)).trans cy0, (HX.out W (bx.trans (hW.mono bx.size))).1, (HX.out W (bx.trans (hW.mono bx.size))).2, BR.trans ((bx.trans (hW.mono bx.size)).mono BR.size), QB.trans ((bx.trans (hW.mono bx.size)).mono QB.size)⟩
  obtain ⟨rb, hrb⟩ : ∃ rb, wr.heap.size = rb := ⟨_, rfl⟩
  clear HT HF hala halb HX bx hn hbn h2 QX
  go_wp2_with fail
  generalize (wr.alloc (Obj.cells #[.slice xa xs.length xk, .int .i64 xc] 37)).alloc (Obj.cells #[.slice ya ys.length yk, .int .i64 xc] 37) = wx at *
  simp only [hrb] at *
  go_loopw [8] (fun kv wq => ∃ (k : Nat), kv = .int .i64 k ∧ k ≤ xs.length ∧ Hid (xs = ys ↔ xs.drop k = ys.drop k) ∧ Below wx.heap.size wx wq) (fun i _ => xs.length - (intOf i).toNat)
  case atStart => exact ⟨0, rfl, Nat.zero_le _, by show _ ↔ _; simp, Below.refl _ _⟩
  case round =>
  obtain ⟨k, rfl, hk, HR, BQ⟩ := hrel
  obtain ⟨g0, g1, ⟨_, _, e3, hx, _⟩, ⟨_, _, e4, hy, _⟩, G2, G3⟩ := HB.out _ BQ
  cases e3
  cases e4
  have hll := HL2.out
  by_cases hkl : k < xs.length
  case neg =>
    obtain rfl : k = xs.length := by omega
    have HE : Hid (a = b ↔ a.drop (i + 1) = b.drop (i + 1)) := by
      show _ ↔ _
      rw [HF2.out]
      exact ⟨fun h => h.2, fun h => ⟨⟨HR.out.2 (by rw [List.drop_of_length_le (by omega), List.drop_of_length_le (by omega)]), trivial⟩, h⟩⟩
    have d4 : decide ((xs.length : Int) < xs.length) = false := decide_eq_false (by omega)
    clear HB HR HF2 hx hy hll HL2
    go_wp2_with fail
    exact ⟨⟨i + 1, by go_num, by omega, HE, G2⟩, by simp [intOf]; omega⟩
  have d4 : decide ((k : Int) < xs.length) = true := decide_eq_true (by omega)
  obtain ⟨b5, o5, rfl, hb5, s0, s1, s2, _⟩ := hx.at (Below.refl _ _) hkl
  obtain ⟨b6, o6, rfl, hb6, t0, t1, t2, _⟩ := hy.at (Below.refl _ _) (show k < ys.length by omega)
  have hky : (k : Int) < ys.length := by omega
  have HR2 : Hid (xs = ys ↔ (xs[k] = ys[k]'(by omega) ∧ xs.drop (k + 1) = ys.drop (k + 1))) := by
    show _ ↔ _
    rw [HR.out, List.drop_eq_getElem_cons hkl, List.drop_eq_getElem_cons (show k < ys.length by omega), List.cons.injEq]
  generalize xs[k] = p at *
  generalize ys[k]'(by omega) = q at *
  obtain ⟨p1, p2, p3⟩ := p
  obtain ⟨q1, q2, q3⟩ := q
  simp only [Ar.mk.injEq] at *
  clear HR hx hy hll
  by_cases hpq : p1 = q1 ∧ p2 = q2 ∧ p3 = q3
  · obtain ⟨rfl, rfl, rfl⟩ := hpq
    have HE : Hid (xs = ys ↔ xs.drop (k + 1) = ys.drop (k + 1)) := by show _ ↔ _; rw [HR2.out]; simp
    clear HR2 HF2 HB
    go_wp2
    go_quiet (fail)
    go_wp2
    exact ⟨⟨k + 1, by go_num, by omega, HE, (by first | exact below_drewN BQ _ | exact BQ)⟩, by simp [intOf]; omega⟩
  · have HE : Hid (decide (a = b) = false) := decide_eq_false (fun e => hpq (HR2.out.1 (HF2.out.1 e).1.1).1)
    clear HR2 HF2 HB
    by_cases h5 : p1 = q1
    · subst h5
      by_cases h6 : p2 = q2
      · subst h6
        have h7 : ¬ p3 = q3 := fun e => hpq ⟨rfl, rfl, e⟩
        have d7 : (p3 == q3) = false := by simpa using h7
        clear hpq
        go_wp2
        go_quiet (fail)
        go_wp2
        go_ret
        exact ⟨by rw [HE.out]; rfl, (by first | exact below_drewN G3 _ | exact G3)⟩
      · have d6 : (p2 == q2) = false := by simpa using h6
        clear hpq
        go_wp2
        go_quiet (fail)
        go_wp2
        go_ret
        exact ⟨by rw [HE.out]; rfl, (by first | exact below_drewN G3 _ | exact G3)⟩
    · have d5 : (p1 == q1) = false := by simpa using h5
      clear hpq
      go_wp2
      go_quiet (fail)
      go_wp2
      go_ret
      exact ⟨by rw [HE.out]; rfl, (by first | exact below_drewN G3 _ | exact G3)⟩
end Go.Proofs.Ytdalomibilicfaa
