/- Sets of words: made, joined, put into. -/
import Derived.Test.YtckbfiigbckmeaaDoorSettle
import Derived.Test.YtckbfiigbckmeaaDoorBitMath
import Derived.Laws.BitsAllLaws
namespace Go.Proofs.YtckbfiigbckmeaaDoor
open Go.RowKit

def encU (x : Nat) : Value := .int .u64 (x : Int)
/-- A set in a block of its own. -/
def SetB (b m : Nat) (ws : List Nat) (W : World) : Prop := W.heap[b]? = some (Obj.cells (ws.map encU).toArray 39 (0, 0)) ∧ Words m ws
theorem SetB.lt {b m ws W} (h : SetB b m ws W) : b < W.heap.size := (Array.getElem?_eq_some_iff.1 h.1).1
theorem SetB.cell {b m ws W} (h : SetB b m ws W) {i : Nat} (hi : i < m) : W.cell? ⟨b, i, none⟩ = some (.int .u64 (wOf ws i)) := by
  have hl : i < ws.length := by rw [h.2.1]; exact hi
  rw [wOf_get hl]
  have := h.1
  simp [World.cell?, this, hl, encU]
theorem SetB.frozen {b m ws W} (h : SetB b m ws W) (i : Nat) : W.frozen? ⟨b, i, none⟩ = false := by
  have := h.1
  simp [World.frozen?, this]
theorem block_set {W : World} {b i : Nat} {cs : Array Value} {t : TypeId} (v : Value) (h : W.heap[b]? = some (Obj.cells cs t (0, 0))) : (W.setCell ⟨b, i, none⟩ v).heap[b]? = some (Obj.cells (cs.setIfInBounds i v) t (0, 0)) := by
  have hlt := (Array.getElem?_eq_some_iff.1 h).1
  have h' : W.heap[b] = Obj.cells cs t (0, 0) := (Array.getElem?_eq_some_iff.1 h).2
  show (W.heap.modify b _)[b]? = _
  rw [Array.getElem?_eq_getElem (by simpa using hlt), Array.getElem_modify_self, h']
  rfl
theorem SetB.set {b m ws W} (h : SetB b m ws W) {i x : Nat} (hx : W64 x) : SetB b m (ws.set i x) (W.setCell ⟨b, i, none⟩ (.int .u64 x)) := by
  refine ⟨(block_set _ h.1).trans ?_, h.2.set hx⟩
  simp [encU, List.map_set]
theorem SetB.but {b m ws W W'} {D : Nat → Prop} (h : SetB b m ws W) (hb : But D W W') (hd : ¬ D b) : SetB b m ws W' := ⟨(hb.block b h.lt hd).trans h.1, h.2⟩

set_option maxHeartbeats 1000000 in
theorem join_any (s o : List Nat) (b c m : Nat) (w : World) (hs : SetB b m s w) (ho : SetB c m o w) (hm : m ≤ 1000) :
    Calls Tryd.prog 57 #[.slice (some ⟨b, 0, none⟩) m m, .slice (some ⟨c, 0, none⟩) m m] w fun e w' => e = .returned (.bool (newW s o)) ∧ SetB b m (orW s o) w' ∧ But (fun k => k = b) w w' := by
  go_enter Tryd.func57, Tryd.ntmps57
  go_wp2
  go_loopw [5, 10] (fun g i wr => ∃ (j : Nat), i = .int .i64 j ∧ j ≤ m ∧ g = .bool (newTo j s o) ∧ SetB b m (joinTo j s o) wr ∧ SetB c m o wr ∧ But (fun k => k = b) w wr) (fun _ i _ => m - (intOf i).toNat)
  case atStart => exact ⟨0, rfl, Nat.zero_le _, rfl, by rw [joinTo_zero]; exact hs, ho, But.refl _ _⟩
  case round =>
    obtain ⟨j, rfl, hj, rfl, h1, h2, h3⟩ := hrel
    by_cases hlt : j < m
    · have hjs : j < s.length := by rw [hs.2.1]; exact hlt
      have c1 := h1.cell hlt
      have c2 := h2.cell hlt
      have fz := h1.frozen j
      rw [joinTo_get hjs, if_neg (Nat.lt_irrefl _)] at c1
      have w1 := hs.2.at j
      have w2 := ho.2.at j
      have HN : Hid (newTo (j + 1) s o = (newTo j s o || decide (wOf s j ||| wOf o j ≠ wOf s j))) := newTo_succ j s o
      have HJ : Hid (joinTo (j + 1) s o = (joinTo j s o).set j (wOf s j ||| wOf o j)) := joinTo_succ
      have HJ2 : Hid (wOf s j ||| wOf o j = wOf s j → joinTo (j + 1) s o = joinTo j s o) := joinTo_same hjs
      have HST : Hid (SetB b m ((joinTo j s o).set j (wOf s j ||| wOf o j)) (wr.setCell ⟨b, j, none⟩ (.int .u64 ((wOf s j ||| wOf o j : Nat) : Int)))) := h1.set (or_lt w1 w2)
      have HBC : Hid (b = c → wOf s j = wOf o j) := fun e => by
        subst e
        have e1 := hs.1.symm.trans ho.1
        simp only [Option.some.injEq, Obj.cells.injEq, and_true] at e1
        have e2 : s.map encU = o.map encU := by simpa using e1
        have e3 : s = o := by
          refine List.map_inj_right (f := encU) (fun x y h => ?_) |>.1 e2
          simp only [encU, Value.int.injEq, true_and] at h
          omega
        rw [e3]
      have HZ := andNot_zero w1 w2
      have e1 := u64_andNot_nat (wOf o j) (wOf s j) w2 w1
      have e2 := u64_or_nat (wOf s j) (wOf o j) w1 w2
      unfold W64 at w1 w2
      generalize wOf s j = x at *
      generalize wOf o j = y at *
      obtain ⟨z, hz⟩ : ∃ z : Int, bits .andNot .u64 (y : Int) (x : Int) = z := ⟨_, rfl⟩
      obtain ⟨u, hu⟩ : ∃ u : Int, bits .or .u64 (x : Int) (y : Int) = u := ⟨_, rfl⟩
      have HU : Hid (((x ||| y : Nat) : Int) = u) := by show _ = _; rw [← hu, e2]
      by_cases hn : x ||| y = x
      · have hz0 : (z != 0) = false := by rw [← hz, e1, HZ.2 hn]; rfl
        have HN2 : Hid (newTo (j + 1) s o = newTo j s o) := by show _ = _; rw [HN.out]; simp [hn]
        have HJ3 : Hid (SetB b m (joinTo (j + 1) s o) wr) := by show SetB _ _ _ _; rw [HJ2.out hn]; exact h1
        clear HN HJ HJ2 HST HBC HZ e1 e2 hn hs ho h1
        generalize newTo j s o = g at *
        go_wp2_with fail
        exact ⟨⟨j + 1, by go_num, by omega, by rw [HN2.out], HJ3.out, h2, h3⟩, by simp [intOf]; omega⟩
      · have hz0 : (z != 0) = true := by
          rw [← hz, e1]
          have : ¬ (y &&& (18446744073709551615 - x) = 0) := fun h => hn (HZ.1 h)
          simp; omega
        have HN2 : Hid (newTo (j + 1) s o = true) := by show _ = _; rw [HN.out]; simp [hn]
        have hbc : b ≠ c := fun e => hn (by rw [HBC.out e, Nat.or_self])
        have HJ3 : Hid (SetB b m (joinTo (j + 1) s o) (wr.setCell ⟨b, j, none⟩ (.int .u64 u)) ∧ SetB c m o (wr.setCell ⟨b, j, none⟩ (.int .u64 u)) ∧ But (fun k => k = b) w (wr.setCell ⟨b, j, none⟩ (.int .u64 u))) := by
          refine ⟨?_, ⟨(Below.heap_setCell wr ⟨b, j, none⟩ _ c (fun e => hbc e.symm)).trans h2.1, h2.2⟩, h3.setCell _ _ (.inr rfl)⟩
          rw [HJ.out, ← HU.out]; exact HST.out
        clear HN HJ HJ2 HST HBC HZ e1 e2 hn hs ho h1 h3 hbc
        generalize newTo j s o = g at *
        go_wp2_with fail
        exact ⟨⟨j + 1, by go_num, by omega, by rw [HN2.out], HJ3.out.1, HJ3.out.2.1, HJ3.out.2.2⟩, by simp [intOf]; omega⟩
    · obtain rfl : j = m := by omega
      have HE : Hid (newW s o = newTo j s o ∧ orW s o = joinTo j s o) := ⟨by unfold newW; rw [hs.2.1], by unfold orW; rw [hs.2.1]⟩
      clear hs ho h2
      generalize newTo j s o = g at *
      go_wp2_with fail
      go_ret
      exact ⟨ret_bool HE.out.1.symm, by rw [HE.out.2]; exact h1, h3⟩

set_option maxHeartbeats 400000 in
theorem sput_any (s : List Nat) (b m n : Nat) (w : World) (hs : SetB b m s w) (hm : m ≤ 1000) (hn : n < 64 * m) :
    Calls Tryd.prog 51 #[.slice (some ⟨b, 0, none⟩) m m, .int .i64 n] w fun e w' => (∃ v, e = .returned v) ∧ SetB b m (putW s n) w' ∧ But (fun k => k = b) w w' := by
  have hi : n / 64 < m := by omega
  have c1 := hs.cell hi
  have fz := hs.frozen (n / 64)
  have w1 := hs.2.at (n / 64)
  have HS : Hid (SetB b m s w) := hs
  have HP : Hid (putW s n = s.set (n / 64) (wOf s (n / 64) ||| 2 ^ (n % 64))) := rfl
  have HPL : Hid (W64 (2 ^ (n % 64))) := pow_lt n
  have hq : ((n : Int) / 64) = ((n / 64 : Nat) : Int) := by omega
  have hr : ((n : Int) % 64) = ((n % 64 : Nat) : Int) := by omega
  have hr2 : n % 64 < 64 := by omega
  generalize n / 64 = q at *
  generalize n % 64 = r at *
  generalize wOf s q = x at *
  clear hs
  go_enter Tryd.func51, Tryd.ntmps51
  go_wp2
  go_big_region
  go_wp2
  go_end0
  have hwr : IntKind.u64.wrap (2 ^ r) = ((2 ^ r : Nat) : Int) := by
    have := HPL.out
    unfold W64 at this
    rw [IntKind.wrap_u64]
    have e : ((2 : Int) ^ r) = ((2 ^ r : Nat) : Int) := by push_cast; rfl
    rw [e]
    generalize 2 ^ r = p at this
    omega
  have h2 : SetB b m (putW s n) (w.setCell ⟨b, q, none⟩ (.int .u64 (bits .or .u64 (x : Int) (IntKind.u64.wrap (2 ^ r))))) := by
    rw [hwr, u64_or_nat x (2 ^ r) w1 HPL.out, HP.out]
    exact HS.out.set (or_lt w1 HPL.out)
  exact ⟨⟨_, rfl⟩, ⟨h2.1, h2.2⟩, ((But.refl (fun k => k = b) w).setCell _ _ (.inr rfl)).drew⟩

theorem info39 : (Tryd.prog.info? 39).map (fun i => (i.zero, i.size, i.bytes)) = some (some (.int .u64 0), 1, 8) := by kernel_rfl
theorem info61 : (Tryd.prog.info? 61).map (fun i => (i.zero, i.size, i.bytes)) = some (some (.slice none 0 0), 1, 24) := by kernel_rfl
theorem setB_made {W : World} {B g M : Nat} (h : W.ownsRow B 39 1 (.slice (some ⟨g, 0, none⟩) M M) M (madeCells #[Value.int .u64 0] M).toList) : SetB g M (List.replicate M 0) W := by
  refine ⟨?_, words_zero M⟩
  obtain ⟨h1, h2⟩ := h
  rcases h2 with ⟨h2, _⟩ | ⟨g', cap, cur, hv, hB, hg, hc, hm, hz, hx⟩
  · cases h2
  · cases hv
    rw [hg]
    have e : cur.toList = (List.replicate M 0).map encU := by
      rw [Nat.mul_one] at hx hz
      rw [List.take_of_length_le (by simp [hz])] at hx
      rw [hx, toList_madeCells_one]
      simp [encU]
    rw [← e]
set_option maxRecDepth 100000 in
set_option maxHeartbeats 400000 in
theorem newSet_any (f : Fl) (a : FlA) (w : World) (hn : f.n ≤ 600) :
    Calls Tryd.prog 34 #[a.val f] w fun e w' => ∃ b, e = .returned (.slice (some ⟨b, 0, none⟩) (f.terms.length / 64 + 1) (f.terms.length / 64 + 1)) ∧ w.heap.size ≤ b ∧ SetB b (f.terms.length / 64 + 1) (List.replicate (f.terms.length / 64 + 1) 0) w' ∧ Below w.heap.size w w' := by
  obtain ⟨i0, hi0, hz0, hz1, hz2⟩ := info_parts info39
  obtain ⟨ta, tc, na, nc, pa, pc⟩ := a
  have X0 := FBox.new f ⟨ta, tc, na, nc, pa, pc⟩ 25 w
  have B0 : Below w.heap.size w (w.alloc (fobj f ⟨ta, tc, na, nc, pa, pc⟩ 25)) := (Below.refl _ _).alloc (Nat.le_refl _) _
  unfold fobj at X0 B0
  unfold FlA.val
  simp only
  obtain ⟨x0, x1, x2, x3⟩ := X0
  unfold Fl.n at hn
  have hT : f.terms.length ≤ 600 := by omega
  go_enter Tryd.func34, Tryd.ntmps34
  have hm1 : ((f.terms.length : Int) / 64 + 1) = ((f.terms.length / 64 + 1 : Nat) : Int) := by omega
  have hm2 : f.terms.length / 64 + 1 ≤ 1000 := by omega
  generalize f.terms.length / 64 + 1 = M at *
  go_wp2_with (at_make; refine wpList_make_full _ rfl _ _ 61 rfl (w.heap.size + 1) 39 i0 _ 1 Tryd.underlying61 hi0 hz0 hz1 _ _ _ _ M rfl rfl rfl rfl (by rw [hz2]; omega) (by unfold maxLen; omega) (by simp) ?_)
  intro w2 hown hg2
  have hown' : w2.ownsRow (w.heap.size + 1) 39 1 (.slice (some ⟨w.heap.size + 1, 0, none⟩) M M) M (madeCells #[Value.int .u64 0] M).toList := by simpa using hown
  have HS : Hid (SetB (w.heap.size + 1) M (List.replicate M 0) w2) := setB_made hown'
  have HB : Hid (Below w.heap.size w w2) := B0.grown hg2 (by simp) (fun k e => by cases e)
  clear hown hown' hg2 x0 x1 x2 x3 B0
  go_wp2_with fail
  go_ret
  exact ⟨w.heap.size + 1, by simp, by omega, HS.out, HB.out⟩
end Go.Proofs.YtckbfiigbckmeaaDoor
