/- Useful of the document. -/
import Derived.Test.YtckbfiigbckmeaaDoorRefEmpty
namespace Go.Proofs.YtckbfiigbckmeaaDoor
open Go.RowKit

/-- The first k true, the others false. -/
def upto (N k : Nat) : List Bool := (List.range N).map fun i => decide (i < k)
theorem upto_len (N k : Nat) : (upto N k).length = N := by simp [upto]
theorem upto_zero (N : Nat) : upto N 0 = List.replicate N false := by
  unfold upto
  apply List.ext_getElem (by simp)
  intro i h1 h2
  simp
theorem upto_on {N k s : Nat} : OnB (upto N k) s ↔ s < N ∧ s < k := by
  unfold OnB upto
  rw [List.getElem?_map]
  by_cases h : s < N
  · rw [List.getElem?_range h]; simp [h]
  · rw [List.getElem?_eq_none (by simp; omega)]; simp [h]
theorem upto_set {N k : Nat} : (upto N k).set k true = upto N (k + 1) := by
  unfold upto
  apply List.ext_getElem (by simp)
  intro i h1 h2
  rw [List.getElem_set]
  split
  · rename_i h; subst h; simp
  · simp; omega
structure RowT (t N G : Nat) (w1 : World) (k : Nat) (W : World) : Prop where
  own : Own1 4 encB G (upto N k) (.slice (some ⟨G, 0, none⟩) (upto N k).length N) W
  below : Below G w1 W
theorem RowT.store {t N G w1 k W} (h : RowT t N G w1 k W) (_hk : k < N) : RowT t N G w1 (k + 1) (W.setCell ⟨G, k, none⟩ (.bool true)) := by
  have h1 := (World.ownsRow.stored h.own k (.bool true)).1
  refine ⟨?_, h.below.setCell (p := ⟨G, k, none⟩) (Nat.le_refl _) _⟩
  unfold Own1
  rw [← upto_set, List.length_set, List.map_set]
  exact h1
theorem RowT.toB {g : Gr} {t N G w1 W} (h : RowT t N G w1 t W) (ht : t ≤ N) : RowB (fun s => s < t) g N G w1 (upto N t) W :=
  ⟨h.own, upto_len N t, fun s hs => .base (upto_on.1 hs).2, fun s hs => upto_on.2 ⟨by omega, hs⟩, h.below⟩

set_option maxRecDepth 100000 in
set_option maxHeartbeats 3200000 in
theorem ruseful_any (f : Fl) (a : FlA) (w : World) (hf : FlAt f a w) (hp : FitP f) :
    Calls Tryd.prog 13 #[a.val f] w fun e w' => GaveB (fun s => s < f.terms.length) f w e w' := by
  have hn : f.n ≤ 600 := hp.size
  have hS := fun W => rsize_any f a W hn
  obtain ⟨i0, hi0, hz0, hz1, hz2⟩ := info_parts info4
  obtain ⟨ta, tc, na, nc, pa, pc⟩ := a
  have X0 := FBox.new f ⟨ta, tc, na, nc, pa, pc⟩ 25 w
  have B0 : Below w.heap.size w (w.alloc (fobj f ⟨ta, tc, na, nc, pa, pc⟩ 25)) := (Below.refl _ _).alloc (Nat.le_refl _) _
  obtain ⟨h0, h1, h2, h3, h4, h5, h6, h7⟩ := hf
  unfold fobj at X0 B0
  unfold FlA.val at hS ⊢
  simp only at *
  clear h0 h1
  have HS : Hid (∀ W, Calls Tryd.prog 28 #[.agg #[.slice ta f.terms.length tc, .slice na f.nons.length nc, .slice pa f.prods.length pc]] W fun e w' => e = .returned (.int .i64 f.n) ∧ Below W.heap.size W w') := hS
  clear hS
  obtain ⟨N, hN⟩ : ∃ N, f.n = N := ⟨_, rfl⟩
  rw [hN] at hn HS
  have HNN : Hid (f.n = N) := hN
  clear hN
  go_enter Tryd.func13, Tryd.ntmps13
  go_wp2_with fail
  refine (HS.out _).mono ?_
  rintro e w1 ⟨rfl, hb1⟩
  have X1 := X0.next hb1
  have B1 := below_then B0 hb1 B0.size
  clear X0 B0 hb1 HS
  go_wp2_with (at_make; refine wpList_make_full _ rfl _ _ 31 rfl w1.heap.size 4 i0 _ 1 Tryd.underlying31 hi0 hz0 hz1 _ _ _ _ N rfl rfl rfl rfl (by rw [hz2]; omega) (by unfold maxLen; omega) (Nat.le_refl _) ?_)
  intro w2 hown hg2
  have X2 := X1.next ((Below.refl _ _).grown hg2 (Nat.le_refl _) (fun k e => by cases e))
  obtain ⟨G, hG⟩ : ∃ G, w1.heap.size = G := ⟨_, rfl⟩
  have R0 : RowT f.terms.length N G w1 0 w2 := by
    rw [← hG]
    refine ⟨?_, (Below.refl _ _).grown hg2 (Nat.le_refl _) (fun k e => by cases e)⟩
    unfold Own1
    rw [show upto N 0 = List.replicate N false from upto_zero N, ← made_false, List.length_replicate]
    simpa using hown
  have hwG : w.heap.size < G := by rw [← hG]; exact X1.1
  have BG : Below G w1 w1 := Below.refl _ _
  have HX : Hid (∀ W, Below G w1 W → FBox f ⟨ta, tc, na, nc, pa, pc⟩ w.heap.size W) := fun W hb => X1.next (by rw [hG]; exact hb)
  have HP : Hid (∀ W, Below G w1 W → PrsAt f.prods pa W) := fun W hb => (h2.next B1).next (by rw [hG]; exact hb)
  have HB : Hid (∀ W, Below G w1 W → Below w.heap.size w W) := fun W hb => below_then B1 (by rw [hG]; exact hb) B1.size
  have HG : Hid (G = w1.heap.size) := hG.symm
  have HT0 : Hid (RowT f.terms.length N G w1 0 w2) := R0
  have htN : f.terms.length ≤ N := by have := HNN.out; unfold Fl.n at this; omega
  have HQ : Hid (FitP f) := hp
  rw [hG]
  clear R0 X1 X2 h2 B1 hown hg2 BG hG hp
  go_wp2_with fail
  go_loopw [4] (fun i wr => ∃ (j : Nat), i = .int .i64 j ∧ j ≤ f.terms.length ∧ RowT f.terms.length N G w1 j wr) (fun i _ => f.terms.length - (intOf i).toNat)
  case atStart => exact ⟨0, rfl, Nat.zero_le _, HT0.out⟩
  case round =>
  clear HT0
  obtain ⟨j, rfl, hj, R⟩ := hrel
  obtain ⟨x1, d0, d1, d2⟩ := HX.out _ R.below
  simp only at d0 d1 d2
  by_cases hlt : j < f.terms.length
  · have HR2 : Hid (RowT f.terms.length N G w1 (j + 1) (wr.setCell ⟨G, j, none⟩ (.bool true))) := R.store (by omega)
    have hfz : wr.frozen? ⟨G, j, none⟩ = false := World.ownsRow.frozenAt R.own j
    have hju : j < (upto N j).length := by rw [upto_len]; omega
    have hcl : wr.cell? ⟨G, j, none⟩ = some (encB (upto N j)[j]) := by
      rw [World.ownsRow.cellAt R.own j (by omega), List.getElem?_map, List.getElem?_eq_getElem hju]
      rfl
    generalize (upto N j)[j] = u at hcl
    clear hju
    clear R
    go_wp2_with fail
    exact ⟨⟨j + 1, by go_num, by omega, HR2.out⟩, by simp [intOf]; omega⟩
  obtain rfl : j = f.terms.length := by omega
  have HR0 : Hid (RowB (fun s => s < f.terms.length) f.gr N G w1 (upto N f.terms.length) wr) := R.toB htN
  clear R
  go_wp2_with fail
  go_loopg [5] (2 * offs (upto N f.terms.length) + 1) (fun k ag wr => ∃ (b : Bool) (L : List Bool), ag = .bool b ∧ k = 2 * offs L + b2n b ∧ RowB (fun s => s < f.terms.length) f.gr N G w1 L wr ∧ (b = false → ∀ q ∈ f.gr, ClosedB L q))
  case atStart => exact ⟨true, _, rfl, rfl, HR0.out, by simp⟩
  case round =>
    clear d0 d1 d2 x1
    obtain ⟨b, L, rfl, rfl, R, hc⟩ := hrel
    clear HR0
    cases b with
    | false =>
      have HZ : Hid (GivesB (fun s => s < f.terms.length) f.gr f.n L ∧ RowB (fun s => s < f.terms.length) f.gr N G w1 L wr) := ⟨R.done HNN.out (hc rfl), R⟩
      clear R hc
      go_wp2_with fail
      go_ret
      obtain ⟨z1, z2⟩ := HZ.out
      obtain ⟨ao, cap, e1, e2, e3, e4, _⟩ := z2.own.at_
      refine ⟨_, L, rfl, z1, ⟨some ⟨G, 0, none⟩, N, by rw [z2.len]; rfl, ?_, (fun h => by cases h), by rw [z2.len]; exact Nat.le_refl _⟩, (fun ad n c e => by cases e; exact Nat.le_of_lt hwG), HB.out _ z2.below⟩
      cases e1
      exact e2
    | true =>
    have HK : Hid (True) := trivial
    have HR : Hid (RowB (fun s => s < f.terms.length) f.gr N G w1 L wr) := R
    clear R hc HK
    go_wp2_with fail
    go_loopw [5, 6] (fun ag i wx => ∃ (b : Bool) (j : Nat) (L' : List Bool), ag = .bool b ∧ i = .int .i64 j ∧ j ≤ f.prods.length ∧ RowB (fun s => s < f.terms.length) f.gr N G w1 L' wx ∧ RoundB f L L' b j) (fun _ i _ => f.prods.length - (intOf i).toNat)
    case atStart => exact ⟨false, 0, L, rfl, rfl, Nat.zero_le _, HR.out, RoundB.start f L⟩
    case round =>
      clear HR
      obtain ⟨b, j, L', rfl, rfl, hj, R, hr⟩ := hrel
      obtain ⟨x1, d0, d1, d2⟩ := HX.out _ R.below
      simp only at d0 d1 d2
      have hGs := R.size HG.out
      by_cases hlt : j < f.prods.length
      · obtain ⟨pb, off, v, rfl, hb, c0, c1, c2, hv, hl, hpr⟩ := (HP.out _ R.below).at (Below.refl _ _) hlt
        obtain ⟨ra, rc, rfl, hI, _, hr1, hr2⟩ := hv
        have hlf := HQ.out.left _ (List.getElem_mem hlt)
        have hrl := HQ.out.right _ (List.getElem_mem hlt)
        have hsy := HQ.out.sym _ (List.getElem_mem hlt)
        have HM : Hid ((f.prods[j].left.toNat, f.prods[j].syms) ∈ f.gr) := gr_mem hlt
        have HY : Hid ((¬ OnB L' f.prods[j].left.toNat) → RoundB f L (L'.set f.prods[j].left.toNat true) true (j + 1)) := fun ho => hr.yes (by rw [R.len, ← HNN.out]; unfold Fl.n; omega) ho
        have HZ : Hid (ClosedB L' (f.prods[j].left.toNat, f.prods[j].syms) → RoundB f L L' b (j + 1)) := fun hc => hr.no hlt hc
        have hln : (f.terms.length + f.nons.length : Nat) = N := HNN.out
        rw [hln] at hlf hsy
        generalize f.prods[j] = p at *
        obtain ⟨pl, pr, pp⟩ := p
        simp only at *
        obtain ⟨l, rfl⟩ : ∃ l : Nat, pl = l := ⟨pl.toNat, by omega⟩
        simp only [Int.toNat_natCast] at HM HY HZ
        have hlN : l < N := by omega
        have hc3 := R.cell hlN
        have HW : Hid (RowB (fun s => s < f.terms.length) f.gr N G w1 L' (wr.alloc (Obj.cells #[Value.int IntKind.i64 l, Value.slice ra pr.length rc, Value.int IntKind.i64 pp] 45))) := R.alloc hGs _
        have BP : Below wr.heap.size wr (wr.alloc (Obj.cells #[Value.int IntKind.i64 l, Value.slice ra pr.length rc, Value.int IntKind.i64 pp] 45)) := (Below.refl _ _).alloc (Nat.le_refl _) _
        have E : (wr.alloc (Obj.cells #[Value.int IntKind.i64 l, Value.slice ra pr.length rc, Value.int IntKind.i64 pp] 45)).cell? ⟨wr.heap.size, 0, none⟩ = some (.int .i64 l) ∧ (wr.alloc (Obj.cells #[Value.int IntKind.i64 l, Value.slice ra pr.length rc, Value.int IntKind.i64 pp] 45)).cell? ⟨wr.heap.size, 1, none⟩ = some (.slice ra pr.length rc) := by refine ⟨?_, ?_⟩ <;> simp
        have HI : Hid (ItsAt pr ra (wr.alloc (Obj.cells #[Value.int IntKind.i64 l, Value.slice ra pr.length rc, Value.int IntKind.i64 pp] 45))) := hI.next BP
        have hc4 := HW.out.cell hlN
        have HLN : Hid (L'.length = N) := R.len
        clear hI R hr HP
        go_upto_region 9 with fail
        generalize wr.alloc (Obj.cells #[Value.int IntKind.i64 l, Value.slice ra pr.length rc, Value.int IntKind.i64 pp] 45) = Wp at *
        obtain ⟨e0, e1⟩ := E
        generalize wr.heap.size = Z at e0 e1 ⊢
        clear c0 c1 c2 d0 d1 d2 hc3 BP hb x1 hGs
        go_wp2_with fail
        obtain ⟨sy, hsyd⟩ : ∃ sy, (⟨(l : Int), pr, pp⟩ : Pr).syms = sy := ⟨_, rfl⟩
        rw [hsyd] at HM HZ
        have HSY : Hid (pr.map (fun x => x.sym.toNat) = sy) := hsyd
        clear hsyd
        go_loopw [8, 9] (fun al k wq => ∃ (m : Nat), k = .int .i64 m ∧ m ≤ pr.length ∧ al = .bool (!onb L' l && (sy.take m).all (onb L')) ∧ ∃ d, wq = Wp.drewN d) (fun _ k _ => pr.length - (intOf k).toNat)
        case atStart => exact ⟨0, rfl, Nat.zero_le _, by simp, 0, rfl⟩
        case round =>
          obtain ⟨m, rfl, hm, rfl, d, rfl⟩ := hrel
          by_cases hml : m < pr.length
          · obtain ⟨bi, oi, rfl, hbi, i0, i1, i2, si, sf, sa⟩ := HI.out.at (Below.refl _ _) hml
            have hs := hsy _ (List.getElem_mem hml)
            have HT : Hid (sy.take (m + 1) = sy.take m ++ [pr[m].sym.toNat]) := by
              show _ = _
              rw [← HSY.out, ← List.map_take, ← List.map_take, List.take_succ_eq_append_getElem hml, List.map_append]
              rfl
            generalize pr[m] = x at *
            obtain ⟨xs, xf, xa⟩ := x
            simp only at *
            obtain ⟨q, rfl⟩ : ∃ q : Nat, xs = q := ⟨xs.toNat, by omega⟩
            simp only [Int.toNat_natCast] at HT
            have hq := HW.out.cell (s := q) (by omega)
            obtain ⟨c, hc⟩ : ∃ c, (!onb L' l && (sy.take m).all (onb L')) = c := ⟨_, rfl⟩
            rw [hc]
            have HC : Hid ((!onb L' l && (sy.take (m + 1)).all (onb L')) = (c && onb L' q)) := by
              show _ = _
              rw [HT.out, List.all_append, ← Bool.and_assoc, hc]
              simp
            clear hc HT
            cases c with
            | true =>
              have HC2 : Hid ((!onb L' l && (sy.take (m + 1)).all (onb L')) = onb L' q) := by show _ = _; rw [HC.out]; rfl
              clear HC
              generalize onb L' q = oq at *
              go_wp2_with fail
              exact ⟨⟨m + 1, by go_num, by omega, by rw [HC2.out], d, rfl⟩, by simp [intOf]; omega⟩
            | false =>
              have HC2 : Hid ((!onb L' l && (sy.take (m + 1)).all (onb L')) = false) := by show _ = _; rw [HC.out]; rfl
              clear HC
              go_wp2_with fail
              exact ⟨⟨m + 1, by go_num, by omega, by rw [HC2.out], d, rfl⟩, by simp [intOf]; omega⟩
          · obtain rfl : m = pr.length := by omega
            have hfull : sy.take pr.length = sy := List.take_of_length_le (by rw [← HSY.out]; simp)
            rw [hfull]
            obtain ⟨c, hc⟩ : ∃ c, (!onb L' l && sy.all (onb L')) = c := ⟨_, rfl⟩
            rw [hc]
            clear hfull
            cases c with
            | true =>
              simp only [Bool.and_eq_true, Bool.not_eq_true', List.all_eq_true] at hc
              have hno : ¬ OnB L' l := fun h => by rw [onb_iff.2 h] at hc; exact absurd hc.1 (by simp)
              have HY2 : Hid (RoundB f L (L'.set l true) true (j + 1)) := HY.out hno
              have HW2 : Hid (RowB (fun s => s < f.terms.length) f.gr N G w1 (L'.set l true) ((Wp.drewN d).setCell ⟨G, l, none⟩ (.bool true))) := (HW.out.drewN d).store hlN HM.out (fun x hx => onb_iff.1 (hc.2 x hx))
              have hfz : Wp.frozen? ⟨G, l, none⟩ = false := World.ownsRow.frozenAt HW.out.own l
              clear hc hno HY HZ HW HM HI
              go_wp2_with fail
              exact ⟨⟨true, j + 1, L'.set l true, rfl, by go_num, by omega, HW2.out, HY2.out⟩, by simp [intOf]; omega⟩
            | false =>
              have HZ2 : Hid (RoundB f L L' b (j + 1)) := HZ.out (fun hx => by
                have : sy.all (onb L') = true := List.all_eq_true.2 (fun x h => onb_iff.2 (hx x h))
                rw [this, Bool.and_true, Bool.not_eq_false'] at hc
                exact onb_iff.1 hc)
              have HW2 : Hid (RowB (fun s => s < f.terms.length) f.gr N G w1 L' (Wp.drewN d)) := HW.out.drewN d
              clear hc HY HZ HW HM HI
              go_wp2_with fail
              exact ⟨⟨b, j + 1, L', rfl, by go_num, by omega, HW2.out, HZ2.out⟩, by simp [intOf]; omega⟩
      · obtain rfl : j = f.prods.length := by omega
        have HE : Hid ((b = false → ∀ q ∈ f.gr, ClosedB L' q) ∧ 2 * offs L' + b2n b < 2 * offs L + b2n true) := by
          refine ⟨fun hb q hq => ?_, ?_⟩
          · rw [(hr.2 hb).1]
            exact (hr.2 hb).2 q (by rw [List.take_of_length_le (by unfold Fl.gr; simp)]; exact hq)
          · cases b with
            | true => have := hr.1 rfl; simp [b2n]; omega
            | false => rw [(hr.2 rfl).1]; simp [b2n]
        have HW2 : Hid (RowB (fun s => s < f.terms.length) f.gr N G w1 L' wr) := R
        clear hr R
        go_wp2_with fail
        go_roundg (2 * offs L' + b2n b)
        case measure => exact HE.out.2
        case rel => exact ⟨b, L', rfl, rfl, HW2.out, HE.out.1⟩
end Go.Proofs.YtckbfiigbckmeaaDoor
