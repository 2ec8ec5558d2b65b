/- row of the law: a row that a symbol derives, by induction on the fuel. -/
import Derived.Test.YtckbfiigbckmeaaDoorDeriveMath
import Derived.Test.YtckbfiigbckmeaaDoorHeldMore
import Derived.Test.YtckbfiigbckmeaaDoorSettle
import Derived.Test.YtckbfiigbckmeaaDoorView
import Derived.Deep.Cut
import Derived.Deep.CutRange
namespace Go.Proofs.YtckbfiigbckmeaaDoor
open Go.RowKit

theorem own_but {α : Type} {e : TypeId} {enc : α → Value} {B FB : Nat} {l : List α} {v : Value} {W W' : World} (h : Own1 e enc B l v W) (hb : But (fun k => k = FB) W W') (hF : FB < B) : Own1 e enc B l v W' := by
  obtain ⟨h1, ⟨rfl, hn⟩ | ⟨g, cap, cur, rfl, hB, hg, hr⟩⟩ := h
  · exact ⟨h1, .inl ⟨rfl, hn⟩⟩
  · exact ⟨h1, .inr ⟨g, cap, cur, rfl, hB, (hb.block g (Array.getElem?_eq_some_iff.1 hg).1 (by omega)).trans hg, hr⟩⟩

set_option maxRecDepth 100000 in
set_option maxHeartbeats 1600000 in
theorem of_own (f : Fl) (a : FlA) (s : Int) (w : World) (hf : FlAt f a w) (hl : f.prods.length ≤ 1000) :
    Calls Tryd.prog 39 #[a.val f, .int .i64 s] w fun e w' => ∃ v L, e = .returned v ∧ OfL f s L ∧ (∃ B, w.heap.size ≤ B ∧ Own1 3 encI B L v w') ∧ Below w.heap.size w w' := by
  obtain ⟨i0, hi0, hz0, hz1, hz2⟩ := info_parts info3
  obtain ⟨ta, tc, na, nc, pa, pc⟩ := a
  have X0 := FBox.new f ⟨ta, tc, na, nc, pa, pc⟩ 25 w
  have B0 : Below w.heap.size w (w.alloc (fobj f ⟨ta, tc, na, nc, pa, pc⟩ 25)) := (Below.refl _ _).alloc (Nat.le_refl _) _
  obtain ⟨h0, h1, h2, h3, h4, h5, h6, h7⟩ := hf
  unfold fobj at X0 B0
  unfold FlA.val
  simp only at *
  clear h0 h1
  go_enter Tryd.func39, Tryd.ntmps39
  go_wp2_with fail
  generalize w.alloc (Obj.cells #[Value.slice ta f.terms.length tc, Value.slice na f.nons.length nc, Value.slice pa f.prods.length pc] 25) = w0 at *
  have HX : Hid (∀ W, Below w0.heap.size w0 W → FBox f ⟨ta, tc, na, nc, pa, pc⟩ w.heap.size W) := fun W hb => X0.next hb
  have HP : Hid (∀ W, Below w0.heap.size w0 W → PrsAt f.prods pa W) := fun W hb => (h2.next B0).next hb
  have HB : Hid (∀ W, Below w0.heap.size w0 W → Below w.heap.size w W) := fun W hb => below_then B0 hb B0.size
  clear X0 B0 h2
  go_loopw [5, 6] (fun o i wr => ∃ (j : Nat) (L : List Int), i = .int .i64 j ∧ j ≤ f.prods.length ∧ L.length ≤ j ∧ OfL f s L ∧ Own1 3 encI w0.heap.size L o wr ∧ Below w0.heap.size w0 wr) (fun _ i _ => f.prods.length - (intOf i).toNat)
  case atStart => exact ⟨0, [], rfl, Nat.zero_le _, Nat.le_refl _, ⟨by simp, by simp⟩, Own1.nil _ _ _ _, Below.refl _ _⟩
  case round =>
    obtain ⟨j, L, rfl, hj, hLj, hO, hown, B1⟩ := hrel
    obtain ⟨x1, d0, d1, d2⟩ := HX.out _ B1
    simp only at d0 d1 d2
    have hsz := B1.size
    obtain ⟨oa, oc, rfl⟩ := slice_of_own hown
    have HO : Hid (OfL f s L) := hO
    have HW : Hid (wr.ownsRow w0.heap.size 3 1 (.slice oa L.length oc) L.length (L.map encI)) := hown
    clear hO hown
    by_cases hlt : j < f.prods.length
    · obtain ⟨b, off, v, rfl, _, c0, _, _, _, hlf, _⟩ := (HP.out _ B1).at (Below.refl _ _) hlt
      have HG : Hid (f.prods[j]? = some f.prods[j]) := List.getElem?_eq_getElem hlt
      generalize f.prods[j] = p at *
      by_cases hs : p.left = s
      · have HO2 : Hid (OfL f s (L ++ [(j : Int)])) := by
          refine ⟨by simp; omega, fun x hx => ?_⟩
          rcases List.mem_append.1 hx with hx | hx
          · exact HO.out.2 x hx
          · simp at hx; subst hx; exact ⟨j, rfl, p, HG.out, hs⟩
        have hs' : (p.left == s) = true := by simpa using hs
        clear HO
        have w1own := HW.out
        obtain ⟨LV, hLV⟩ : ∃ LV, L.map encI = LV := ⟨_, rfl⟩
        have HLV : Hid (L.map encI = LV) := hLV
        rw [hLV] at w1own
        clear hLV HW
        go_wp2_with (at_builtin; refine wpList_append_own _ rfl (.tmp 22) (.tmp 24) 27 rfl w0.heap.size 3 i0 _ 1 8 Tryd.underlying27 hi0 hz0 hz1 hz2 rfl (by decide) _ L.length LV rfl (World.ownsRow.alloc w1own _) ⟨wr.heap.size, 0, none⟩ 1 1 [encI j] rfl rfl (new_cell _ _ _) (by simp [encI]; rfl) (by unfold maxLen; omega) (by omega) (by simp; omega) ?_)
        intro v2 w2 hown2 hg2 _
        have B2 : Below w0.heap.size w0 w2 := (B1.alloc hsz _).grown hg2 (by simp; omega) (fun k e => (World.ownsRow.lt w1own k e).1)
        obtain ⟨a2, c2, rfl⟩ := slice_of_own hown2
        have HW2 : Hid (Own1 3 encI w0.heap.size (L ++ [(j : Int)]) (.slice a2 (L.length + 1) c2) w2) := by
          show World.ownsRow _ _ _ _ _ _ _
          have := hown2
          rw [← HLV.out] at this
          simpa using this
        clear hown2 hg2 w1own
        go_wp2_with fail
        exact ⟨⟨j + 1, L ++ [(j : Int)], by go_num, by omega, by simp; omega, HO2.out, HW2.out, B2⟩, by simp [intOf]; omega⟩
      · have hs' : (p.left == s) = false := by simpa using hs
        go_wp2_with fail
        exact ⟨⟨j + 1, L, by go_num, by omega, by omega, HO.out, HW.out, B1⟩, by simp [intOf]; omega⟩
    · go_wp2_with fail
      go_ret
      exact ⟨_, L, rfl, HO.out, ⟨w0.heap.size, (HB.out w0 (Below.refl _ _)).size, HW.out⟩, HB.out _ B1⟩
theorem pick_lt (x : Int) (n : Nat) (h0 : 0 < n) (h1 : n ≤ 1000) : ∃ z : Nat, wrap64 ((IntKind.u64.wrap x).tmod n) = z ∧ z < n := by
  have hu : 0 ≤ IntKind.u64.wrap x := by
    rw [IntKind.wrap_u64]
    omega
  have e : (IntKind.u64.wrap x).tmod (n : Int) = (IntKind.u64.wrap x) % (n : Int) := Int.tmod_eq_emod_of_nonneg hu
  have h2 := Int.emod_nonneg (IntKind.u64.wrap x) (b := (n : Int)) (by omega)
  have h3 := Int.emod_lt_of_pos (IntKind.u64.wrap x) (b := (n : Int)) (by omega)
  rw [e]
  generalize (IntKind.u64.wrap x) % (n : Int) = z at *
  obtain ⟨k, rfl⟩ : ∃ k : Nat, z = k := ⟨z.toNat, by omega⟩
  refine ⟨k, ?_, by omega⟩
  exact IntWalk.wrap64_in _ (by omega)

theorem Drv.range {T : Nat} {g : Gr} {s : Nat} {o : List Int} (h : Drv T g s o) : ∀ y ∈ o, 0 ≤ y ∧ y < (T : Int) := by
  induction h with
  | term h =>
    intro y hy
    obtain rfl := List.mem_singleton.1 hy
    omega
  | prod hm hl _ ih =>
    intro y hy
    obtain ⟨o, ho, hyo⟩ := List.mem_flatten.1 hy
    obtain ⟨i, hi, rfl⟩ := List.getElem_of_mem ho
    have hi' : i < _ := Nat.lt_of_lt_of_eq hi hl
    exact ih i _ _ (List.getElem?_eq_getElem hi') (List.getElem?_eq_getElem hi) y hyo
set_option maxRecDepth 100000 in
set_option maxHeartbeats 2000000 in
theorem row_term (f : Fl) (a : FlA) (s : Nat) (pv : Value) (FB : Nat) (w : World) (hs : s < f.terms.length) (hn : f.terms.length ≤ 600) :
    Calls Tryd.prog 22 #[a.val f, .int .i64 s, pv, .pointer (some ⟨FB, 0, none⟩)] w fun e w' => ∃ va vc, e = .returned (.tuple #[.slice va 1 vc, .bool true]) ∧ SlI [(s : Int)] (.slice va 1 vc) w' ∧ Below w.heap.size w w' := by
  obtain ⟨ta, tc, na, nc, pa, pc⟩ := a
  unfold FlA.val
  simp only
  have hsi : (s : Int) < (f.terms.length : Int) := by omega
  go_enter Tryd.func22, Tryd.ntmps22
  go_wp2_with fail
  have b1 : Below w.heap.size w (w.alloc (Obj.cells #[.slice ta f.terms.length tc, .slice na f.nons.length nc, .slice pa f.prods.length pc] 25)) := (Below.refl _ _).alloc (Nat.le_refl _) _
  have hz : (w.alloc (Obj.cells #[.slice ta f.terms.length tc, .slice na f.nons.length nc, .slice pa f.prods.length pc] 25)).heap.size = w.heap.size + 1 := by simp
  generalize (w.alloc (Obj.cells #[.slice ta f.terms.length tc, .slice na f.nons.length nc, .slice pa f.prods.length pc] 25)) = W1 at *
  have c1 : (W1.alloc (Obj.cells #[Value.int .i64 s] 3)).cell? ⟨W1.heap.size, 0, none⟩ = some (.int .i64 s) := by simp
  rw [hz] at c1
  have b2 : Below w.heap.size w (W1.alloc (Obj.cells #[Value.int .i64 s] 3)) := b1.alloc b1.size _
  refine bodyPost_ret (v := .tuple #[.slice (some ⟨w.heap.size + 1, 0, none⟩) 1 1, .bool true]) (by simp [results, Tryd.f22, go_sem]) rfl ?_
  refine ⟨some ⟨w.heap.size + 1, 0, none⟩, 1, rfl, ⟨_, 1, rfl, fun i x hi => ?_, (fun h => by cases h), Nat.le_refl _, fun x hx => ?_⟩, b2⟩
  · have hi0 : i = 0 := by
      have := (List.getElem?_eq_some_iff.1 hi).1
      simpa using this
    subst hi0
    simp at hi
    subst hi
    exact ⟨_, 0, rfl, World.block_lt_of_cell? _ _ c1, c1⟩
  · obtain rfl := List.mem_singleton.1 hx
    unfold i64B
    omega

/-- What row tells, and what becomes of the fuel. -/
def RowRes (f : Fl) (FB : Nat) (s : Nat) (m : Int) (w : World) (e : Ending) (w' : World) : Prop :=
  ∃ va vn vc ok m', e = .returned (.tuple #[.slice va vn vc, .bool ok]) ∧ (ok = true → 0 ≤ m' ∧ ∃ L : List Int, vn = L.length ∧ SlI L (.slice va L.length vc) w' ∧ Drv f.terms.length f.gr s L ∧ (L.length : Int) ≤ 1 + 64 * (m - m')) ∧
    w'.cell? ⟨FB, 0, none⟩ = some (.int .i64 m') ∧ w'.frozen? ⟨FB, 0, none⟩ = false ∧ -1 ≤ m' ∧ m' ≤ m ∧ But (fun k => k = FB) w w'

set_option maxRecDepth 100000 in
set_option maxHeartbeats 2000000 in
theorem row_step (f : Fl) (a : FlA) (picks : List Int) (pv : Value) (FB : Nat) (w0 : World) (hp : FitP f) (hf0 : FlAt f a w0) (hpk : SlI picks pv w0) (hpl : picks.length ≤ 1000) (hFB : w0.heap.size ≤ FB) (n : Nat)
    (ih : ∀ (s : Nat) (m : Int) (w : World), s < f.n → Below w0.heap.size w0 w → w.cell? ⟨FB, 0, none⟩ = some (.int .i64 m) → w.frozen? ⟨FB, 0, none⟩ = false → 0 ≤ m → m ≤ (n : Int) - 1 → m ≤ 60 →
      Calls Tryd.prog 22 #[a.val f, .int .i64 s, pv, .pointer (some ⟨FB, 0, none⟩)] w fun e w' => RowRes f FB s m w e w') :
    ∀ (s : Nat) (m : Int) (w : World), s < f.n → Below w0.heap.size w0 w → w.cell? ⟨FB, 0, none⟩ = some (.int .i64 m) → w.frozen? ⟨FB, 0, none⟩ = false → 0 ≤ m → m ≤ n → m ≤ 60 →
      Calls Tryd.prog 22 #[a.val f, .int .i64 s, pv, .pointer (some ⟨FB, 0, none⟩)] w fun e w' => RowRes f FB s m w e w' := by
  · skip
    intro s m w hs hB hc hz hm0 hmn hm60
    have hFl : FB < w.heap.size := World.block_lt_of_cell? w _ hc
    by_cases hT : s < f.terms.length
    · refine (row_term f a s pv FB w hT (by have := hp.size; omega)).mono ?_
      rintro e w' ⟨va, vc, rfl, h1, h2⟩
      exact ⟨va, 1, vc, true, m, rfl, fun _ => ⟨hm0, [(s : Int)], rfl, h1, .term hT, by simp⟩, (h2.cell (p := ⟨FB, 0, none⟩) hFl).trans hc, (h2.frozen (p := ⟨FB, 0, none⟩) hFl).trans hz, by omega, Int.le_refl _, But.of_next h2⟩
    · have hOF := fun W (hb : Below w0.heap.size w0 W) => of_own f a s W (hf0.next hb) (by have := hp.prods; omega)
      obtain ⟨ta, tc, na, nc, pa, pc⟩ := a
      obtain ⟨ka, kc, rfl, _⟩ := id hpk
      unfold FlA.val at hOF ⊢
      simp only at hOF ⊢
      have HOF : Hid (∀ W, Below w0.heap.size w0 W → Calls Tryd.prog 39 #[.agg #[.slice ta f.terms.length tc, .slice na f.nons.length nc, .slice pa f.prods.length pc], .int .i64 s] W fun e w' => ∃ v L, e = .returned v ∧ OfL f s L ∧ (∃ B, W.heap.size ≤ B ∧ Own1 3 encI B L v w') ∧ Below W.heap.size W w') := hOF
      have HIH : Hid (∀ (s : Nat) (m : Int) (w : World), s < f.n → Below w0.heap.size w0 w → w.cell? ⟨FB, 0, none⟩ = some (.int .i64 m) → w.frozen? ⟨FB, 0, none⟩ = false → 0 ≤ m → m ≤ (n : Int) - 1 → m ≤ 60 → Calls Tryd.prog 22 #[.agg #[.slice ta f.terms.length tc, .slice na f.nons.length nc, .slice pa f.prods.length pc], .int .i64 s, .slice ka picks.length kc, .pointer (some ⟨FB, 0, none⟩)] w fun e w' => RowRes f FB s m w e w') := ih
      have HPK : Hid (SlI picks (.slice ka picks.length kc) w0) := hpk
      have HF0 : Hid (FlAt f ⟨ta, tc, na, nc, pa, pc⟩ w0) := hf0
      have HP : Hid (FitP f) := hp
      have hTi : ¬ (s : Int) < (f.terms.length : Int) := by omega
      have b1 : Below w.heap.size w (w.alloc (Obj.cells #[.slice ta f.terms.length tc, .slice na f.nons.length nc, .slice pa f.prods.length pc] 25)) := (Below.refl _ _).alloc (Nat.le_refl _) _
      have X1 := FBox.new f ⟨ta, tc, na, nc, pa, pc⟩ 25 w
      unfold fobj at X1
      simp only at X1
      clear hOF ih hpk hf0 hp
      go_enter Tryd.func22, Tryd.ntmps22
      go_wp2_with fail
      generalize (w.alloc (Obj.cells #[.slice ta f.terms.length tc, .slice na f.nons.length nc, .slice pa f.prods.length pc] 25)) = W1 at *
      have hB1 := below_then hB b1 hB.size
      refine (HOF.out _ hB1).mono ?_
      rintro e w2 ⟨vl, L, rfl, hOl, ⟨BL, hBL, hown⟩, hb2⟩
      have hFW1 : FB < W1.heap.size := Nat.lt_of_lt_of_le hFl b1.size
      have hB2 := below_then hB1 hb2 hB1.size
      have bw2 := below_then b1 hb2 b1.size
      have X2 := X1.next hb2
      have c2 := (bw2.cell (p := ⟨FB, 0, none⟩) hFl).trans hc
      have z2 := (bw2.frozen (p := ⟨FB, 0, none⟩) hFl).trans hz
      obtain ⟨la, lc, rfl⟩ := slice_of_own hown
      have hwm : IntKind.i64.wrap (m - 1) = m - 1 := IntWalk.i64_in _ (by omega)
      clear X1 b1 hb2 HOF
      obtain ⟨x0, x1, x2, x3⟩ := id X2
      simp only at x1 x2 x3
      have hst : But (fun k => k = FB) w (w2.setCell ⟨FB, 0, none⟩ (.int .i64 (m - 1))) := (But.of_next bw2).setCell _ _ (.inr rfl)
      have c3 : (w2.setCell ⟨FB, 0, none⟩ (.int .i64 (m - 1))).cell? ⟨FB, 0, none⟩ = some (.int .i64 (m - 1)) := World.cell?_setCell_same _ _ _ c2
      have z3 : (w2.setCell ⟨FB, 0, none⟩ (.int .i64 (m - 1))).frozen? ⟨FB, 0, none⟩ = false := by rw [World.frozen?_setCell]; exact z2
      by_cases hm1 : m - 1 < 0
      · have HR : Hid (∀ va vn vc, RowRes f FB s m w (.returned (.tuple #[.slice va vn vc, .bool false])) (w2.setCell ⟨FB, 0, none⟩ (.int .i64 (m - 1)))) := fun va vn vc => ⟨va, vn, vc, false, m - 1, rfl, (fun h => by cases h), c3, z3, by omega, by omega, hst⟩
        have hd : decide (m - 1 < 0) = true := decide_eq_true hm1
        clear c3 z3 hst
        go_wp2_with fail
        refine bodyPost_ret (v := .tuple #[.slice none 0 0, .bool false]) (by simp [results, Tryd.f22, go_sem]) rfl ?_
        exact HR.out _ _ _
      by_cases hL0 : L.length = 0
      · have HR : Hid (∀ va vn vc, RowRes f FB s m w (.returned (.tuple #[.slice va vn vc, .bool false])) (w2.setCell ⟨FB, 0, none⟩ (.int .i64 (m - 1)))) := fun va vn vc => ⟨va, vn, vc, false, m - 1, rfl, (fun h => by cases h), c3, z3, by omega, by omega, hst⟩
        have hd : decide (m - 1 < 0) = false := decide_eq_false hm1
        have hd2 : ((L.length : Int) == 0) = true := by simp [hL0]
        clear c3 z3 hst
        go_wp2_with fail
        refine bodyPost_ret (v := .tuple #[.slice none 0 0, .bool false]) (by simp [results, Tryd.f22, go_sem]) rfl ?_
        exact HR.out _ _ _
      have hd : decide (m - 1 < 0) = false := decide_eq_false hm1
      have hd2 : ((L.length : Int) == 0) = false := by rw [beq_eq_false_iff_ne]; omega
      go_upto_if 43 with fail
      have hB3 : Below w0.heap.size w0 (w2.setCell ⟨FB, 0, none⟩ (.int .i64 (m - 1))) := below_but hB hst (fun k hk => by omega)
      have hL3 : ∀ (i : Nat) (x : Int), L[i]? = some x → ∃ b, la = some ⟨b, 0, none⟩ ∧ (w2.setCell ⟨FB, 0, none⟩ (.int .i64 (m - 1))).cell? ⟨b, i, none⟩ = some (.int .i64 x) := fun i x hx => by
        have ho3 := own_but hown ((But.refl (fun k => k = FB) w2).setCell ⟨FB, 0, none⟩ (.int .i64 (m - 1)) (.inr rfl)) (by omega)
        obtain ⟨ao, cap, e, hr, _, _, hx'⟩ := ho3.at_
        cases e
        obtain ⟨b, off, e2, _, hc'⟩ := hr i x hx
        subst e2
        rcases hx' with h | ⟨g, h, _⟩
        · cases h
        · cases h
          rw [Nat.zero_add] at hc'
          exact ⟨_, rfl, hc'⟩
      have hne : w.heap.size ≠ FB := by omega
      have y0 := (World.cell?_of_block (a := ⟨w.heap.size, 0, none⟩) (w := w2) (Below.heap_setCell w2 ⟨FB, 0, none⟩ (.int .i64 (m - 1)) w.heap.size hne)).trans x1
      have y1 := (World.cell?_of_block (a := ⟨w.heap.size, 1, none⟩) (w := w2) (Below.heap_setCell w2 ⟨FB, 0, none⟩ (.int .i64 (m - 1)) w.heap.size hne)).trans x2
      have y2 := (World.cell?_of_block (a := ⟨w.heap.size, 2, none⟩) (w := w2) (Below.heap_setCell w2 ⟨FB, 0, none⟩ (.int .i64 (m - 1)) w.heap.size hne)).trans x3
      generalize w2.setCell ⟨FB, 0, none⟩ (.int .i64 (m - 1)) = W3 at *
      have hLp : (0 : Int) < L.length := by omega
      have hLz : L.length ≤ 400 := Nat.le_trans hOl.1 HP.out.prods
      go_cut [11] from 44 to 58 (fun t11 wx => wx = W3 ∧ ∃ z : Nat, t11 = .int .i64 z ∧ z < L.length)
      case first =>
        by_cases hp0 : picks.length = 0
        · have hpd : decide (0 < picks.length) = false := decide_eq_false (by omega)
          go_wp2_with fail
          go_meet
          exact ⟨rfl, 0, rfl, by omega⟩
        · have hpd : decide (0 < picks.length) = true := decide_eq_true (by omega)
          have hmod := Int.emod_nonneg (m - 1) (b := (picks.length : Int)) (by omega)
          have hmlt := Int.emod_lt_of_pos (m - 1) (b := (picks.length : Int)) (by omega)
          obtain ⟨ix, hix⟩ : ∃ ix : Nat, (m - 1) % (picks.length : Int) = ix := ⟨((m - 1) % (picks.length : Int)).toNat, by omega⟩
          have hixl : ix < picks.length := by omega
          obtain ⟨_, _, e, hpr, _, _, hpb⟩ := HPK.out.next hB3
          cases e
          obtain ⟨kb, ko, rfl, _, ck⟩ := hpr ix _ (List.getElem?_eq_getElem hixl)
          unfold encI at ck
          generalize picks[ix] = pk at *
          clear hmod hmlt hpr
          obtain ⟨pz, hpz, hpzl⟩ := pick_lt pk L.length (by omega) (by omega)
          go_wp2_with fail
          go_meet
          exact ⟨rfl, pz, by rw [hpz], hpzl⟩
      case rest =>
        obtain ⟨rfl, z, rfl, hzl⟩ := hcut
        obtain ⟨lb, rfl, cz⟩ := hL3 z _ (List.getElem?_eq_getElem hzl)
        obtain ⟨kk, hkk, pp, hpp, hpl'⟩ := hOl.2 _ (List.getElem_mem hzl)
        rw [hkk] at cz
        have hkl : kk < f.prods.length := (List.getElem?_eq_some_iff.1 hpp).1
        have hkp : f.prods[kk] = pp := (List.getElem?_eq_some_iff.1 hpp).2
        obtain ⟨pb, off, u, hpa, hpb, k0', k1', k2', hu0, _⟩ := HF0.out.2.2.1.at (Below.refl _ _) hkl
        simp only at hpa
        have k0 := (hB3.cell (p := ⟨pb, off + kk * 3, none⟩) hpb).trans k0'
        have k1 := (hB3.cell (p := ⟨pb, off + kk * 3 + 1, none⟩) hpb).trans k1'
        have k2 := (hB3.cell (p := ⟨pb, off + kk * 3 + 2, none⟩) hpb).trans k2'
        rw [hkp] at hu0
        have HU0 : Hid (SlT pp.right u w0) := hu0
        have hu := hu0.next hB3
        clear k0' k1' k2' hu0
        rw [hkp] at k0 k2
        have hpr := HP.out.right pp (hkp ▸ List.getElem_mem hkl)
        have hps : ∀ x ∈ pp.right, 0 ≤ x.sym ∧ x.sym < (f.n : Int) := fun x hx => HP.out.sym pp (hkp ▸ List.getElem_mem hkl) x hx
        have hgm := gr_mem hkl
        rw [hkp, hpl', Int.toNat_natCast] at hgm
        have hsym : pp.syms = pp.right.map fun x => x.sym.toNat := rfl
        rw [hsym] at hgm
        have HGM : Hid ((s, pp.right.map fun x => x.sym.toNat) ∈ f.gr ∧ ∀ x ∈ pp.right, 0 ≤ x.sym ∧ x.sym < (f.n : Int)) := ⟨hgm, hps⟩
        clear hgm hps hsym hkp hpl' hpp
        generalize pp.right = r at *
        generalize pp.left = pl at *
        generalize pp.prec = pq at *
        obtain ⟨ra, rc, rfl, hrI, _⟩ := id hu
        have hwF : w.heap.size < wc.heap.size := World.block_lt_of_cell? wc _ y0
        have HKP : Hid (∀ W, But (fun k => k = FB) wc W → W.cell? ⟨w.heap.size, 0, none⟩ = some (.slice ta f.terms.length tc) ∧ W.cell? ⟨w.heap.size, 1, none⟩ = some (.slice na f.nons.length nc) ∧ W.cell? ⟨w.heap.size, 2, none⟩ = some (.slice pa f.prods.length pc) ∧ Below w0.heap.size w0 W) := fun W hb =>
          ⟨(hb.cell (p := ⟨w.heap.size, 0, none⟩) hwF hne).trans y0, (hb.cell (p := ⟨w.heap.size, 1, none⟩) hwF hne).trans y1, (hb.cell (p := ⟨w.heap.size, 2, none⟩) hwF hne).trans y2, below_but hB3 hb (fun k hk => by omega)⟩
        subst hpa
        have hcF : FB < wc.heap.size := World.block_lt_of_cell? wc _ c3
        obtain ⟨i0, hi0, hi1, hi2, hi3⟩ := info_parts info3
        have HRI : Hid (∀ W, But (fun k => k = FB) wc W → ItsAt r ra W) := fun W hb => by
          obtain ⟨_, _, e, h, _⟩ := HU0.out.next (HKP.out W hb).2.2.2
          cases e
          exact h
        go_wp2_with fail
        go_big_quiet (fail)
        go_wp2_with fail
        go_loopw [12, 69] (fun o i W => ∃ (j : Nat) (outs : List (List Int)) (mj : Int), i = .int .i64 j ∧ j ≤ r.length ∧ outs.length = j ∧ (∀ (i x : Nat) (o : List Int), (r.map fun x => x.sym.toNat)[i]? = some x → outs[i]? = some o → Drv f.terms.length f.gr x o) ∧ Own1 3 encI wc.heap.size outs.flatten o W ∧ But (fun k => k = FB) wc W ∧ W.cell? ⟨FB, 0, none⟩ = some (.int .i64 mj) ∧ W.frozen? ⟨FB, 0, none⟩ = false ∧ 0 ≤ mj ∧ mj ≤ m - 1 ∧ (outs.flatten.length : Int) ≤ j + 64 * (m - 1 - mj)) (fun _ i _ => r.length - (intOf i).toNat)
        case atStart => exact ⟨0, [], m - 1, rfl, Nat.zero_le _, rfl, fun i x o _ h => by simp at h, Own1.nil _ _ _ _, (But.refl _ _).drewN _, c3, z3, by omega, by omega, by simp⟩
        case round =>
        obtain ⟨j, outs, mj, rfl, hj, hol, hdr, hown', hbW, cF, zF, hj0, hjm, hle⟩ := hrel
        have HDR : Hid (∀ (i x : Nat) (o : List Int), (r.map fun x => x.sym.toNat)[i]? = some x → outs[i]? = some o → Drv f.terms.length f.gr x o) := hdr
        have HOL : Hid (outs.length = j) := hol
        obtain ⟨oa, oc, rfl⟩ := slice_of_own hown'
        by_cases hlt : j < r.length
        · obtain ⟨ib, io, rfl, hib, q0, q1, q2, si, sf, sa⟩ := (HRI.out _ hbW).at (Below.refl _ _) hlt
          have hxs := HGM.out.2 _ (List.getElem_mem hlt)
          obtain ⟨q, hq⟩ : ∃ q : Nat, r[j].sym = q := ⟨r[j].sym.toNat, by omega⟩
          have hqn : q < f.n := by omega
          have HQ : Hid ((r.map fun x => x.sym.toNat)[j]? = some q) := by
            show _ = _
            rw [List.getElem?_map, List.getElem?_eq_getElem hlt, Option.map_some, hq]
            rfl
          rw [hq] at q0
          generalize r[j].fld = xf at *
          generalize r[j].als = xa at *
          obtain ⟨f0, f1, f2, hB4⟩ := HKP.out _ hbW
          have hlw : w.heap.size < wr.heap.size := World.block_lt_of_cell? wr _ f0
          have hlF : FB < wr.heap.size := World.block_lt_of_cell? wr _ cF
          have b4 : Below wr.heap.size wr (wr.alloc (Obj.cells #[Value.int .i64 q, .string xf, .string xa] 48)) := (Below.refl _ _).alloc (Nat.le_refl _) _
          have hcall := HIH.out q mj (wr.alloc (Obj.cells #[Value.int .i64 q, .string xf, .string xa] 48)) hqn (below_then hB4 b4 hB4.size) ((b4.cell (p := ⟨FB, 0, none⟩) hlF).trans cF) ((b4.frozen (p := ⟨FB, 0, none⟩) hlF).trans zF) hj0 (by omega) (by omega)
          have HCALL : Hid (Calls Tryd.prog 22 #[.agg #[.slice ta f.terms.length tc, .slice na f.nons.length nc, .slice (some ⟨pb, off, none⟩) f.prods.length pc], .int .i64 q, .slice ka picks.length kc, .pointer (some ⟨FB, 0, none⟩)] (wr.alloc (Obj.cells #[Value.int .i64 q, .string xf, .string xa] 48)) fun e w' => RowRes f FB q mj (wr.alloc (Obj.cells #[Value.int .i64 q, .string xf, .string xa] 48)) e w') := hcall
          have HOW : Hid (Own1 3 encI wc.heap.size outs.flatten (.slice oa outs.flatten.length oc) (wr.alloc (Obj.cells #[Value.int .i64 q, .string xf, .string xa] 48))) := World.ownsRow.alloc hown' _
          have hflen : (outs.flatten.length : Int) ≤ 64 + 64 * 60 := by omega
          clear hcall hdr hown' hol hxs hq
          go_wp2_with fail
          generalize (wr.alloc (Obj.cells #[Value.int .i64 q, .string xf, .string xa] 48)) = W4 at *
          refine HCALL.out.mono ?_
          rintro e w5 ⟨va, vn, vc, ok, m', rfl, hok, cF', zF', hm1', hm2', hb5⟩
          have hb45 : But (fun k => k = FB) wr w5 := (But.of_next b4).trans hb5
          have hbw5 : But (fun k => k = FB) wc w5 := hbW.trans hb45
          clear HCALL f0 f1 f2 q0 q1 q2
          cases ok with
          | false =>
            have HR : Hid (RowRes f FB s m w (.returned (.tuple #[.slice none 0 0, .bool false])) w5) := ⟨none, 0, 0, false, m', rfl, (fun h => by cases h), cF', zF', hm1', by omega, hst.trans hbw5⟩
            clear hok cF' zF'
            go_wp2_with fail
            refine bodyPost_ret (v := .tuple #[.slice none 0 0, .bool false]) (by simp [results, Tryd.f22, go_sem]) rfl ?_
            exact HR.out
          | true =>
            obtain ⟨hm0', Lq, rfl, hLq, hdq, hlq⟩ := hok rfl
            have HDQ : Hid (Drv f.terms.length f.gr q Lq ∧ (Lq.length : Int) ≤ 1 + 64 * (mj - m')) := ⟨hdq, hlq⟩
            have hLql : Lq.length ≤ 10000 := by omega
            have o5 := own_but HOW.out hb5 hcF
            have hszb : wc.heap.size ≤ w5.heap.size := hbw5.size
            have hfl2 : outs.flatten.length ≤ 10000 := by omega
            have HEND : Hid (∀ (w6 : World) (u : Value), w6.ownsRow wc.heap.size 3 1 u (outs.flatten.length + Lq.length) ((outs.flatten ++ Lq).map encI) → w5.grownBy w6 (Value.slice oa outs.flatten.length oc).ownBlock → ∃ (outs2 : List (List Int)) (mj2 : Int), outs2.length = j + 1 ∧ (∀ (i x : Nat) (o : List Int), (r.map fun x => x.sym.toNat)[i]? = some x → outs2[i]? = some o → Drv f.terms.length f.gr x o) ∧ Own1 3 encI wc.heap.size outs2.flatten u w6 ∧ But (fun k => k = FB) wc w6 ∧ w6.cell? ⟨FB, 0, none⟩ = some (.int .i64 mj2) ∧ w6.frozen? ⟨FB, 0, none⟩ = false ∧ 0 ≤ mj2 ∧ mj2 ≤ m - 1 ∧ (outs2.flatten.length : Int) ≤ (j + 1 : Nat) + 64 * (m - 1 - mj2)) := fun w6 u ho hg => by
              have hgr : ∀ k, (Value.slice oa outs.flatten.length oc).ownBlock = some k → wc.heap.size ≤ k := fun k e => (World.ownsRow.lt o5 k e).1
              have hne6 : ∀ k, (Value.slice oa outs.flatten.length oc).ownBlock = some k → FB ≠ k := fun k e => by have := hgr k e; omega
              have hF5 : FB < w5.heap.size := World.block_lt_of_cell? w5 _ cF'
              have hblk := hg.block FB hF5 (fun e => hne6 FB e.symm rfl)
              refine ⟨outs ++ [Lq], m', by rw [List.length_append, HOL.out]; rfl, fun i x o hi ho' => ?_, ?_, hbw5.grown hg hgr, (World.cell?_of_block (a := ⟨FB, 0, none⟩) (w := w5) hblk).trans cF', (World.frozen?_of_block (w := w5) (a := ⟨FB, 0, none⟩) hblk).trans zF', hm0', by omega, ?_⟩
              · by_cases hij : i < outs.length
                · rw [List.getElem?_append_left hij] at ho'
                  exact HDR.out i x o hi ho'
                · rw [List.getElem?_append_right (by omega)] at ho'
                  have hi0' : i - outs.length = 0 := by
                    have := (List.getElem?_eq_some_iff.1 ho').1
                    simpa using this
                  rw [hi0'] at ho'
                  have hij' : i = j := by have := HOL.out; omega
                  subst hij'
                  rw [HQ.out] at hi
                  cases hi
                  simp at ho'
                  subst ho'
                  exact HDQ.out.1
              · unfold Own1
                rw [List.flatten_append]
                simpa using ho
              · have h2 := HDQ.out.2
                have e1 : (outs ++ [Lq]).flatten.length = outs.flatten.length + Lq.length := by rw [List.flatten_append, List.length_append]; simp
                rw [e1]
                omega
            obtain ⟨TV, hTV⟩ : ∃ TV, outs.flatten.map encI = TV := ⟨_, rfl⟩
            unfold Own1 at o5
            rw [List.map_append, hTV] at HEND
            rw [hTV] at o5
            obtain ⟨_, _, e, hrow, hno, hcap, _⟩ := hLq
            cases e
            clear hTV hdq hlq hok HOW HDR HDQ HOL
            generalize outs.flatten.length = ol at *
            cases va with
            | none =>
              obtain rfl : vc = 0 := hno rfl
              obtain rfl : Lq = [] := List.length_eq_zero_iff.1 (by omega)
              have hE := HEND.out w5 (.slice oa ol oc) (by simpa using o5) ⟨rfl, rfl, rfl, Nat.le_refl _, fun _ _ _ => rfl⟩
              have HE : Hid (∃ (outs2 : List (List Int)) (mj2 : Int), outs2.length = j + 1 ∧ (∀ (i x : Nat) (o : List Int), (r.map fun x => x.sym.toNat)[i]? = some x → outs2[i]? = some o → Drv f.terms.length f.gr x o) ∧ Own1 3 encI wc.heap.size outs2.flatten (.slice oa ol oc) w5 ∧ But (fun k => k = FB) wc w5 ∧ w5.cell? ⟨FB, 0, none⟩ = some (.int .i64 mj2) ∧ w5.frozen? ⟨FB, 0, none⟩ = false ∧ 0 ≤ mj2 ∧ mj2 ≤ m - 1 ∧ (outs2.flatten.length : Int) ≤ (j + 1 : Nat) + 64 * (m - 1 - mj2)) := hE
              clear hE HEND hrow hno hcap
              simp only [List.length_nil]
              go_wp2_with (at_builtin; refine wpList_append_own_none rfl (.tmp 84) (.tmp 85) 27 rfl wc.heap.size 3 i0 1 Tryd.underlying27 hi0 _ ol TV rfl o5 rfl ?_)
              obtain ⟨outs2, mj2, e1, e2, e3, e4, e5, e6, e7, e8, e9⟩ := HE.out
              exact ⟨⟨j + 1, outs2, mj2, by go_num, by omega, e1, e2, e3, e4, e5, e6, e7, e8, e9⟩, by simp [intOf]; omega⟩
            | some ad =>
              have m1 : (Lq.map encI).length = Lq.length * 1 := by simp
              have n1 : ∀ j u, (Lq.map encI)[j]? = some u → w5.cell? (ad.add j) = some u := by
                intro k u hk
                rw [List.getElem?_map] at hk
                obtain ⟨y, hy, rfl⟩ := Option.map_eq_some_iff.1 hk
                obtain ⟨b, off, e, _, h2⟩ := hrow k y hy
                cases e
                rw [add_plain]; exact h2
              have p1 : ∀ u ∈ Lq.map encI, u.oneCell' = true := one_row Lq
              generalize Lq.map encI = BV at *
              generalize Lq.length = NB at *
              clear hrow hno hcap
              go_wp2_with (at_builtin; refine wpList_append_own _ rfl (.tmp 84) (.tmp 85) 27 rfl wc.heap.size 3 i0 _ 1 8 Tryd.underlying27 hi0 hi1 hi2 hi3 rfl (by decide) _ ol TV rfl o5 ad NB vc BV rfl m1 n1 p1 (by unfold maxLen; omega) (by omega) hszb ?_)
              intro u w6 hown6 hg6 _
              have hE := HEND.out w6 u hown6 hg6
              obtain ⟨ua, uc, rfl⟩ := slice_of_own hown6
              have HE : Hid (∃ (outs2 : List (List Int)) (mj2 : Int), outs2.length = j + 1 ∧ (∀ (i x : Nat) (o : List Int), (r.map fun x => x.sym.toNat)[i]? = some x → outs2[i]? = some o → Drv f.terms.length f.gr x o) ∧ Own1 3 encI wc.heap.size outs2.flatten (.slice ua (ol + NB) uc) w6 ∧ But (fun k => k = FB) wc w6 ∧ w6.cell? ⟨FB, 0, none⟩ = some (.int .i64 mj2) ∧ w6.frozen? ⟨FB, 0, none⟩ = false ∧ 0 ≤ mj2 ∧ mj2 ≤ m - 1 ∧ (outs2.flatten.length : Int) ≤ (j + 1 : Nat) + 64 * (m - 1 - mj2)) := hE
              clear hE HEND hown6 hg6 o5 n1 p1 m1
              go_wp2_with fail
              obtain ⟨outs2, mj2, e1, e2, e3, e4, e5, e6, e7, e8, e9⟩ := HE.out
              exact ⟨⟨j + 1, outs2, mj2, by go_num, by omega, e1, e2, e3, e4, e5, e6, e7, e8, e9⟩, by simp [intOf]; omega⟩
        · obtain rfl : j = r.length := by omega
          have HR : Hid (RowRes f FB s m w (.returned (.tuple #[.slice oa outs.flatten.length oc, .bool true])) wr) := by
            refine ⟨oa, _, oc, true, mj, rfl, fun _ => ⟨hj0, outs.flatten, rfl, sli_own hown' (fun y hy => ?_), .prod HGM.out.1 (by rw [List.length_map]; exact hol) hdr, by omega⟩, cF, zF, by omega, by omega, hst.trans hbW⟩
            obtain ⟨o, ho, hyo⟩ := List.mem_flatten.1 hy
            obtain ⟨i, hi, rfl⟩ := List.getElem_of_mem ho
            have hi' : i < (r.map fun x => x.sym.toNat).length := by rw [List.length_map]; omega
            have hyr := (hdr i _ _ (List.getElem?_eq_getElem hi') (List.getElem?_eq_getElem hi)).range y hyo
            have := HP.out.size
            unfold i64B
            omega
          clear hdr hown' hol
          go_wp2_with fail
          refine bodyPost_ret (v := .tuple #[.slice oa outs.flatten.length oc, .bool true]) (by simp [results, Tryd.f22, go_sem]) rfl ?_
          exact HR.out

theorem row_any (f : Fl) (a : FlA) (picks : List Int) (pv : Value) (FB : Nat) (w0 : World) (hp : FitP f) (hf0 : FlAt f a w0) (hpk : SlI picks pv w0) (hpl : picks.length ≤ 1000) (hFB : w0.heap.size ≤ FB) :
    ∀ (n s : Nat) (m : Int) (w : World), s < f.n → Below w0.heap.size w0 w → w.cell? ⟨FB, 0, none⟩ = some (.int .i64 m) → w.frozen? ⟨FB, 0, none⟩ = false → 0 ≤ m → m ≤ n → m ≤ 60 →
      Calls Tryd.prog 22 #[a.val f, .int .i64 s, pv, .pointer (some ⟨FB, 0, none⟩)] w fun e w' => RowRes f FB s m w e w'
  | 0 => row_step f a picks pv FB w0 hp hf0 hpk hpl hFB 0 (fun _ _ _ _ _ _ _ h0 h1 _ => by omega)
  | n + 1 => row_step f a picks pv FB w0 hp hf0 hpk hpl hFB (n + 1) (fun s m w h1 h2 h3 h4 h5 h6 h7 => row_any f a picks pv FB w0 hp hf0 hpk hpl hFB n s m w h1 h2 h3 h4 h5 (by omega) h7)
end Go.Proofs.YtckbfiigbckmeaaDoor
