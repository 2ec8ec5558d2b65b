/- Empty and Useful of the document. -/
import Derived.Test.YtckbfiigbckmeaaDoorFew
import Derived.OwnWalk
import Derived.Deep.LoopGhost
import Derived.Deep.Cut
namespace Go.Proofs.YtckbfiigbckmeaaDoor
open Go.RowKit

theorem info4 : (Tryd.prog.info? 4).map (fun i => (i.zero, i.size, i.bytes)) = some (some (.bool false), 1, 1) := by kernel_rfl

set_option maxHeartbeats 800000 in
theorem rsize_any (f : Fl) (a : FlA) (w : World) (hp : f.n ≤ 600) :
    Calls Tryd.prog 28 #[a.val f] w fun e w' => e = .returned (.int .i64 f.n) ∧ Below w.heap.size w w' := by
  obtain ⟨ta, tc, na, nc, pa, pc⟩ := a
  unfold FlA.val
  simp only
  unfold Fl.n at *
  go_enter Tryd.func28, Tryd.ntmps28
  go_wp2_with fail
  go_ret
  exact ⟨ret_int (by omega), (Below.refl _ _).alloc (Nat.le_refl _) _⟩

/-- A row of truths comes back: of each symbol whether it is derived so. -/
def GaveB (base : Nat → Prop) (f : Fl) (w : World) (e : Ending) (w' : World) : Prop := ∃ v L, e = .returned v ∧ GivesB base f.gr f.n L ∧ SlB L v w' ∧ Apart w.heap.size v ∧ Below w.heap.size w w'

/-! The state of the rounds: the row of truths, in a block of its own. -/
structure RowB (base : Nat → Prop) (g : Gr) (N G : Nat) (w1 : World) (L : List Bool) (W : World) : Prop where
  own : Own1 4 encB G L (.slice (some ⟨G, 0, none⟩) L.length N) W
  len : L.length = N
  sound : SoundB base g L
  basic : ∀ s, base s → OnB L s
  below : Below G w1 W

theorem onB_iff {L : List Bool} {s : Nat} (h : s < L.length) : OnB L s ↔ L[s] = true := by
  unfold OnB; rw [List.getElem?_eq_getElem h]; simp
theorem RowB.drewN {base g N G w1 L W} (h : RowB base g N G w1 L W) (m : Nat) : RowB base g N G w1 L (W.drewN m) := ⟨h.own, h.len, h.sound, h.basic, below_drewN h.below m⟩
theorem RowB.alloc {base g N G w1 L W} (h : RowB base g N G w1 L W) (hG : G ≤ W.heap.size) (o : Obj) : RowB base g N G w1 L (W.alloc o) := ⟨World.ownsRow.alloc h.own o, h.len, h.sound, h.basic, h.below.alloc hG o⟩
theorem RowB.store {base g N G w1 L W} (h : RowB base g N G w1 L W) {l : Nat} {r : List Nat} (hl : l < N) (hm : (l, r) ∈ g) (hr : ∀ x ∈ r, OnB L x) : RowB base g N G w1 (L.set l true) (W.setCell ⟨G, l, none⟩ (.bool true)) := by
  have h1 := (World.ownsRow.stored h.own l (.bool true)).1
  refine ⟨?_, by simpa using h.len, soundB_set h.sound (by rw [h.len]; exact hl) hm hr, fun s hs => onB_set (h.basic s hs), h.below.setCell (p := ⟨G, l, none⟩) (Nat.le_refl _) _⟩
  unfold Own1
  rw [List.length_set, List.map_set]
  exact h1
theorem RowB.size {base g N G w1 L W} (h : RowB base g N G w1 L W) (hG : G = w1.heap.size) : G ≤ W.heap.size := by rw [hG]; have := h.below.size; exact this
theorem made_false (N : Nat) : (madeCells #[Value.bool false] N).toList = (List.replicate N false).map encB := by rw [toList_madeCells_one]; simp [encB]
theorem onB_false {N s : Nat} : ¬ OnB (List.replicate N false) s := by
  unfold OnB
  rw [List.getElem?_replicate]
  split <;> simp
def b2n (b : Bool) : Nat := if b then 1 else 0
def onb (L : List Bool) (s : Nat) : Bool := L.getD s false
theorem onb_iff {L : List Bool} {s : Nat} : onb L s = true ↔ OnB L s := by
  unfold onb OnB
  rw [List.getD_eq_getElem?_getD]
  cases h : L[s]? with
  | none => simp
  | some b => simp
theorem onb_get {L : List Bool} {s : Nat} (h : s < L.length) : onb L s = L[s] := by
  unfold onb; rw [List.getD_eq_getElem?_getD, List.getElem?_eq_getElem h]; rfl
theorem RowB.cell {base g N G w1 L W} (h : RowB base g N G w1 L W) {s : Nat} (hs : s < N) : W.cell? ⟨G, s, none⟩ = some (.bool (onb L s)) := by
  have hl : s < L.length := by rw [h.len]; exact hs
  have := World.ownsRow.cellAt h.own s (by omega)
  rw [this, List.getElem?_map, List.getElem?_eq_getElem hl, onb_get hl]
  rfl
theorem gr_mem {f : Fl} {j : Nat} (h : j < f.prods.length) : (f.prods[j].left.toNat, f.prods[j].syms) ∈ f.gr := List.mem_map.2 ⟨_, List.getElem_mem h, rfl⟩
theorem gr_take {f : Fl} {j : Nat} (h : j < f.prods.length) : f.gr.take (j + 1) = f.gr.take j ++ [(f.prods[j].left.toNat, f.prods[j].syms)] := by
  unfold Fl.gr
  rw [← List.map_take, ← List.map_take, List.take_succ_eq_append_getElem h, List.map_append]
  rfl
/-- What a round over the productions up to place j has come to. -/
def RoundB (f : Fl) (L L' : List Bool) (b : Bool) (j : Nat) : Prop := (b = true → offs L' < offs L) ∧ (b = false → L' = L ∧ ∀ q ∈ f.gr.take j, ClosedB L q)
theorem RoundB.start (f : Fl) (L : List Bool) : RoundB f L L false 0 := ⟨by simp, fun _ => ⟨rfl, by simp⟩⟩
theorem RoundB.no {f : Fl} {L L' : List Bool} {b : Bool} {j : Nat} (h : RoundB f L L' b j) (hj : j < f.prods.length) (hc : ClosedB L' (f.prods[j].left.toNat, f.prods[j].syms)) : RoundB f L L' b (j + 1) := by
  refine ⟨h.1, fun hb => ⟨(h.2 hb).1, fun q hq => ?_⟩⟩
  rw [gr_take hj] at hq
  rcases List.mem_append.1 hq with hq | hq
  · exact (h.2 hb).2 q hq
  · simp at hq; subst hq; rw [← (h.2 hb).1]; exact hc
theorem RoundB.yes {f : Fl} {L L' : List Bool} {b : Bool} {j l : Nat} (h : RoundB f L L' b j) (hl : l < L'.length) (ho : ¬ OnB L' l) : RoundB f L (L'.set l true) true (j + 1) := by
  refine ⟨fun _ => ?_, fun hb => by cases hb⟩
  have h1 := offs_set hl ho
  cases b with
  | true => have := h.1 rfl; omega
  | false => have := (h.2 rfl).1; subst this; omega
theorem RowB.done {base} {f : Fl} {N G w1 L W} (h : RowB base f.gr N G w1 L W) (hn : f.n = N) (hc : ∀ q ∈ f.gr, ClosedB L q) : GivesB base f.gr f.n L :=
  ⟨by rw [h.len, hn], fun s _ => ⟨h.sound s, fun hd => complete_B h.basic hc hd⟩⟩

set_option maxRecDepth 100000 in
set_option maxHeartbeats 3200000 in
theorem rempty_any (f : Fl) (a : FlA) (w : World) (hf : FlAt f a w) (hp : FitP f) :
    Calls Tryd.prog 11 #[a.val f] w fun e w' => GaveB (fun _ => False) f w e w' := by
  have hn : f.n ≤ 600 := hp.size
  have hS := fun W => rsize_any f a W hn
  obtain ⟨i0, hi0, hz0, hz1, hz2⟩ := info_parts info4
  obtain ⟨ta, tc, na, nc, pa, pc⟩ := a
  have X0 := FBox.new f ⟨ta, tc, na, nc, pa, pc⟩ 25 w
  have B0 : Below w.heap.size w (w.alloc (fobj f ⟨ta, tc, na, nc, pa, pc⟩ 25)) := (Below.refl _ _).alloc (Nat.le_refl _) _
  obtain ⟨h0, h1, h2, h3, h4, h5, h6, h7⟩ := hf
  unfold fobj at X0 B0
  unfold FlA.val at hS ⊢
  simp only at *
  clear h0 h1
  have HS : Hid (∀ W, Calls Tryd.prog 28 #[.agg #[.slice ta f.terms.length tc, .slice na f.nons.length nc, .slice pa f.prods.length pc]] W fun e w' => e = .returned (.int .i64 f.n) ∧ Below W.heap.size W w') := hS
  clear hS
  obtain ⟨N, hN⟩ : ∃ N, f.n = N := ⟨_, rfl⟩
  rw [hN] at hn HS
  have HNN : Hid (f.n = N) := hN
  clear hN
  go_enter Tryd.func11, Tryd.ntmps11
  go_wp2_with fail
  refine (HS.out _).mono ?_
  rintro e w1 ⟨rfl, hb1⟩
  have X1 := X0.next hb1
  have B1 := below_then B0 hb1 B0.size
  clear X0 B0 hb1 HS
  go_wp2_with (at_make; refine wpList_make_full _ rfl _ _ 31 rfl w1.heap.size 4 i0 _ 1 Tryd.underlying31 hi0 hz0 hz1 _ _ _ _ N rfl rfl rfl rfl (by rw [hz2]; omega) (by unfold maxLen; omega) (Nat.le_refl _) ?_)
  intro w2 hown hg2
  have X2 := X1.next ((Below.refl _ _).grown hg2 (Nat.le_refl _) (fun k e => by cases e))
  obtain ⟨G, hG⟩ : ∃ G, w1.heap.size = G := ⟨_, rfl⟩
  have R0 : RowB (fun _ => False) f.gr N G w1 (List.replicate N false) w2 := by
    rw [← hG]
    refine ⟨?_, by simp, fun s hs => absurd hs onB_false, fun _ h => h.elim, (Below.refl _ _).grown hg2 (Nat.le_refl _) (fun k e => by cases e)⟩
    unfold Own1
    rw [← made_false, List.length_replicate]
    simpa using hown
  have hwG : w.heap.size < G := by rw [← hG]; exact X1.1
  have BG : Below G w1 w1 := Below.refl _ _
  have HX : Hid (∀ W, Below G w1 W → FBox f ⟨ta, tc, na, nc, pa, pc⟩ w.heap.size W) := fun W hb => X1.next (by rw [hG]; exact hb)
  have HP : Hid (∀ W, Below G w1 W → PrsAt f.prods pa W) := fun W hb => (h2.next B1).next (by rw [hG]; exact hb)
  have HB : Hid (∀ W, Below G w1 W → Below w.heap.size w W) := fun W hb => below_then B1 (by rw [hG]; exact hb) B1.size
  have HG : Hid (G = w1.heap.size) := hG.symm
  have HR0 : Hid (RowB (fun _ => False) f.gr N G w1 (List.replicate N false) w2) := R0
  have HQ : Hid (FitP f) := hp
  rw [hG]
  clear R0 X1 X2 h2 B1 hown hg2 BG hG hp
  go_wp2_with fail
  go_loopg [4] (2 * offs (List.replicate N false) + 1) (fun k ag wr => ∃ (b : Bool) (L : List Bool), ag = .bool b ∧ k = 2 * offs L + b2n b ∧ RowB (fun _ => False) f.gr N G w1 L wr ∧ (b = false → ∀ q ∈ f.gr, ClosedB L q))
  case atStart => exact ⟨true, _, rfl, rfl, HR0.out, by simp⟩
  case round =>
    obtain ⟨b, L, rfl, rfl, R, hc⟩ := hrel
    clear HR0
    cases b with
    | false =>
      have HZ : Hid (GivesB (fun _ => False) f.gr f.n L ∧ RowB (fun _ => False) f.gr N G w1 L wr) := ⟨R.done HNN.out (hc rfl), R⟩
      clear R hc
      go_wp2_with fail
      go_ret
      obtain ⟨z1, z2⟩ := HZ.out
      obtain ⟨ao, cap, e1, e2, e3, e4, _⟩ := z2.own.at_
      refine ⟨_, L, rfl, z1, ⟨some ⟨G, 0, none⟩, N, by rw [z2.len]; rfl, ?_, (fun h => by cases h), by rw [z2.len]; exact Nat.le_refl _⟩, (fun ad n c e => by cases e; exact Nat.le_of_lt hwG), HB.out _ z2.below⟩
      cases e1
      exact e2
    | true =>
    have HK : Hid (True) := trivial
    have HR : Hid (RowB (fun _ => False) f.gr N G w1 L wr) := R
    clear R hc HK
    go_wp2_with fail
    go_loopw [4, 5] (fun ag i wx => ∃ (b : Bool) (j : Nat) (L' : List Bool), ag = .bool b ∧ i = .int .i64 j ∧ j ≤ f.prods.length ∧ RowB (fun _ => False) f.gr N G w1 L' wx ∧ RoundB f L L' b j) (fun _ i _ => f.prods.length - (intOf i).toNat)
    case atStart => exact ⟨false, 0, L, rfl, rfl, Nat.zero_le _, HR.out, RoundB.start f L⟩
    case round =>
      clear HR
      obtain ⟨b, j, L', rfl, rfl, hj, R, hr⟩ := hrel
      obtain ⟨x1, d0, d1, d2⟩ := HX.out _ R.below
      simp only at d0 d1 d2
      have hGs := R.size HG.out
      by_cases hlt : j < f.prods.length
      · obtain ⟨pb, off, v, rfl, hb, c0, c1, c2, hv, hl, hpr⟩ := (HP.out _ R.below).at (Below.refl _ _) hlt
        obtain ⟨ra, rc, rfl, hI, _, hr1, hr2⟩ := hv
        have hlf := HQ.out.left _ (List.getElem_mem hlt)
        have hrl := HQ.out.right _ (List.getElem_mem hlt)
        have hsy := HQ.out.sym _ (List.getElem_mem hlt)
        have HM : Hid ((f.prods[j].left.toNat, f.prods[j].syms) ∈ f.gr) := gr_mem hlt
        have HY : Hid ((¬ OnB L' f.prods[j].left.toNat) → RoundB f L (L'.set f.prods[j].left.toNat true) true (j + 1)) := fun ho => hr.yes (by rw [R.len, ← HNN.out]; unfold Fl.n; omega) ho
        have HZ : Hid (ClosedB L' (f.prods[j].left.toNat, f.prods[j].syms) → RoundB f L L' b (j + 1)) := fun hc => hr.no hlt hc
        have hln : (f.terms.length + f.nons.length : Nat) = N := HNN.out
        rw [hln] at hlf hsy
        generalize f.prods[j] = p at *
        obtain ⟨pl, pr, pp⟩ := p
        simp only at *
        obtain ⟨l, rfl⟩ : ∃ l : Nat, pl = l := ⟨pl.toNat, by omega⟩
        simp only [Int.toNat_natCast] at HM HY HZ
        have hlN : l < N := by omega
        have hc3 := R.cell hlN
        have HW : Hid (RowB (fun _ => False) f.gr N G w1 L' (wr.alloc (Obj.cells #[Value.int IntKind.i64 l, Value.slice ra pr.length rc, Value.int IntKind.i64 pp] 45))) := R.alloc hGs _
        have BP : Below wr.heap.size wr (wr.alloc (Obj.cells #[Value.int IntKind.i64 l, Value.slice ra pr.length rc, Value.int IntKind.i64 pp] 45)) := (Below.refl _ _).alloc (Nat.le_refl _) _
        have E : (wr.alloc (Obj.cells #[Value.int IntKind.i64 l, Value.slice ra pr.length rc, Value.int IntKind.i64 pp] 45)).cell? ⟨wr.heap.size, 0, none⟩ = some (.int .i64 l) ∧ (wr.alloc (Obj.cells #[Value.int IntKind.i64 l, Value.slice ra pr.length rc, Value.int IntKind.i64 pp] 45)).cell? ⟨wr.heap.size, 1, none⟩ = some (.slice ra pr.length rc) := by refine ⟨?_, ?_⟩ <;> simp
        have HI : Hid (ItsAt pr ra (wr.alloc (Obj.cells #[Value.int IntKind.i64 l, Value.slice ra pr.length rc, Value.int IntKind.i64 pp] 45))) := hI.next BP
        have hc4 := HW.out.cell hlN
        have HLN : Hid (L'.length = N) := R.len
        clear hI R hr HP
        go_upto_region 9 with fail
        generalize wr.alloc (Obj.cells #[Value.int IntKind.i64 l, Value.slice ra pr.length rc, Value.int IntKind.i64 pp] 45) = Wp at *
        obtain ⟨e0, e1⟩ := E
        generalize wr.heap.size = Z at e0 e1 ⊢
        clear c0 c1 c2 d0 d1 d2 hc3 BP hb x1 hGs
        go_wp2_with fail
        obtain ⟨sy, hsyd⟩ : ∃ sy, (⟨(l : Int), pr, pp⟩ : Pr).syms = sy := ⟨_, rfl⟩
        rw [hsyd] at HM HZ
        have HSY : Hid (pr.map (fun x => x.sym.toNat) = sy) := hsyd
        clear hsyd
        go_loopw [7, 8] (fun al k wq => ∃ (m : Nat), k = .int .i64 m ∧ m ≤ pr.length ∧ al = .bool (!onb L' l && (sy.take m).all (onb L')) ∧ ∃ d, wq = Wp.drewN d) (fun _ k _ => pr.length - (intOf k).toNat)
        case atStart => exact ⟨0, rfl, Nat.zero_le _, by simp, 0, rfl⟩
        case round =>
          obtain ⟨m, rfl, hm, rfl, d, rfl⟩ := hrel
          by_cases hml : m < pr.length
          · obtain ⟨bi, oi, rfl, hbi, i0, i1, i2, si, sf, sa⟩ := HI.out.at (Below.refl _ _) hml
            have hs := hsy _ (List.getElem_mem hml)
            have HT : Hid (sy.take (m + 1) = sy.take m ++ [pr[m].sym.toNat]) := by
              show _ = _
              rw [← HSY.out, ← List.map_take, ← List.map_take, List.take_succ_eq_append_getElem hml, List.map_append]
              rfl
            generalize pr[m] = x at *
            obtain ⟨xs, xf, xa⟩ := x
            simp only at *
            obtain ⟨q, rfl⟩ : ∃ q : Nat, xs = q := ⟨xs.toNat, by omega⟩
            simp only [Int.toNat_natCast] at HT
            have hq := HW.out.cell (s := q) (by omega)
            obtain ⟨c, hc⟩ : ∃ c, (!onb L' l && (sy.take m).all (onb L')) = c := ⟨_, rfl⟩
            rw [hc]
            have HC : Hid ((!onb L' l && (sy.take (m + 1)).all (onb L')) = (c && onb L' q)) := by
              show _ = _
              rw [HT.out, List.all_append, ← Bool.and_assoc, hc]
              simp
            clear hc HT
            cases c with
            | true =>
              have HC2 : Hid ((!onb L' l && (sy.take (m + 1)).all (onb L')) = onb L' q) := by show _ = _; rw [HC.out]; rfl
              clear HC
              generalize onb L' q = oq at *
              go_wp2_with fail
              exact ⟨⟨m + 1, by go_num, by omega, by rw [HC2.out], d, rfl⟩, by simp [intOf]; omega⟩
            | false =>
              have HC2 : Hid ((!onb L' l && (sy.take (m + 1)).all (onb L')) = false) := by show _ = _; rw [HC.out]; rfl
              clear HC
              go_wp2_with fail
              exact ⟨⟨m + 1, by go_num, by omega, by rw [HC2.out], d, rfl⟩, by simp [intOf]; omega⟩
          · obtain rfl : m = pr.length := by omega
            have hfull : sy.take pr.length = sy := List.take_of_length_le (by rw [← HSY.out]; simp)
            rw [hfull]
            obtain ⟨c, hc⟩ : ∃ c, (!onb L' l && sy.all (onb L')) = c := ⟨_, rfl⟩
            rw [hc]
            clear hfull
            cases c with
            | true =>
              simp only [Bool.and_eq_true, Bool.not_eq_true', List.all_eq_true] at hc
              have hno : ¬ OnB L' l := fun h => by rw [onb_iff.2 h] at hc; exact absurd hc.1 (by simp)
              have HY2 : Hid (RoundB f L (L'.set l true) true (j + 1)) := HY.out hno
              have HW2 : Hid (RowB (fun _ => False) f.gr N G w1 (L'.set l true) ((Wp.drewN d).setCell ⟨G, l, none⟩ (.bool true))) := (HW.out.drewN d).store hlN HM.out (fun x hx => onb_iff.1 (hc.2 x hx))
              have hfz : Wp.frozen? ⟨G, l, none⟩ = false := World.ownsRow.frozenAt HW.out.own l
              clear hc hno HY HZ HW HM HI
              go_wp2_with fail
              exact ⟨⟨true, j + 1, L'.set l true, rfl, by go_num, by omega, HW2.out, HY2.out⟩, by simp [intOf]; omega⟩
            | false =>
              have HZ2 : Hid (RoundB f L L' b (j + 1)) := HZ.out (fun hx => by
                have : sy.all (onb L') = true := List.all_eq_true.2 (fun x h => onb_iff.2 (hx x h))
                rw [this, Bool.and_true, Bool.not_eq_false'] at hc
                exact onb_iff.1 hc)
              have HW2 : Hid (RowB (fun _ => False) f.gr N G w1 L' (Wp.drewN d)) := HW.out.drewN d
              clear hc HY HZ HW HM HI
              go_wp2_with fail
              exact ⟨⟨b, j + 1, L', rfl, by go_num, by omega, HW2.out, HZ2.out⟩, by simp [intOf]; omega⟩
      · obtain rfl : j = f.prods.length := by omega
        have HE : Hid ((b = false → ∀ q ∈ f.gr, ClosedB L' q) ∧ 2 * offs L' + b2n b < 2 * offs L + b2n true) := by
          refine ⟨fun hb q hq => ?_, ?_⟩
          · rw [(hr.2 hb).1]
            exact (hr.2 hb).2 q (by rw [List.take_of_length_le (by unfold Fl.gr; simp)]; exact hq)
          · cases b with
            | true => have := hr.1 rfl; simp [b2n]; omega
            | false => rw [(hr.2 rfl).1]; simp [b2n]
        have HW2 : Hid (RowB (fun _ => False) f.gr N G w1 L' wr) := R
        clear hr R
        go_wp2_with fail
        go_roundg (2 * offs L' + b2n b)
        case measure => exact HE.out.2
        case rel => exact ⟨b, L', rfl, rfl, HW2.out, HE.out.1⟩
end Go.Proofs.YtckbfiigbckmeaaDoor
