/- lists of the program: the rising row of each set; First. -/
import Derived.Test.YtckbfiigbckmeaaDoorView
import Derived.Test.YtckbfiigbckmeaaDoorRowsR
import Derived.Test.YtckbfiigbckmeaaDoorLawSmall
namespace Go.Proofs.YtckbfiigbckmeaaDoor
open Go.RowKit

def rowsTo (R : List (List Nat)) (j : Nat) : List (List Int) := (List.range R.length).map fun s => if s < j then listW (WR R s) else []
theorem rowsTo_len (R : List (List Nat)) (j : Nat) : (rowsTo R j).length = R.length := by simp [rowsTo]
theorem rowsTo_zero (R : List (List Nat)) : rowsTo R 0 = List.replicate R.length [] := by
  unfold rowsTo
  apply List.ext_getElem (by simp)
  intro i h1 h2
  simp
theorem rowsTo_succ {R : List (List Nat)} {j : Nat} : rowsTo R (j + 1) = (rowsTo R j).set j (listW (WR R j)) := by
  unfold rowsTo
  apply List.ext_getElem (by simp)
  intro i h1 h2
  rw [List.getElem_set]
  simp only [List.getElem_map, List.getElem_range]
  split
  · rename_i h
    split
    · rename_i e; subst e; rfl
    · rename_i e; rw [if_pos (by omega)]
  · rename_i h
    rw [if_neg (by omega), if_neg (by omega)]
theorem rowsTo_all (R : List (List Nat)) : rowsTo R R.length = R.map listW := by
  unfold rowsTo
  apply List.ext_getElem (by simp)
  intro i h1 h2
  have hi : i < R.length := by simpa using h1
  simp only [List.getElem_map, List.getElem_range, if_pos hi]
  unfold WR
  rw [List.getD_eq_getElem?_getD, List.getElem?_eq_getElem hi]
  rfl

set_option maxRecDepth 100000 in
set_option maxHeartbeats 1000000 in
theorem lists_any (G m : Nat) (bs : List Nat) (R : List (List Nat)) (w : World) (hS : SetsB G m bs R w) (hm : m ≤ 20) (hN : R.length ≤ 600) (hT : Tb w) :
    Calls Tryd.prog 29 #[.slice (some ⟨G, 0, none⟩) R.length R.length] w fun e w' => ∃ v, e = .returned v ∧ SlR (R.map listW) v w' ∧ Below w.heap.size w w' := by
  obtain ⟨i0, hi0, hz0, hz1, hz2⟩ := info_parts info27
  obtain ⟨N, hNN⟩ : ∃ N, R.length = N := ⟨_, rfl⟩
  rw [hNN] at hN ⊢
  have HNN : Hid (R.length = N) := hNN
  clear hNN
  go_enter Tryd.func29, Tryd.ntmps29
  go_wp2_with (at_make; refine wpList_make_full _ rfl _ _ 34 rfl w.heap.size 27 i0 _ 1 Tryd.underlying34 hi0 hz0 hz1 _ _ _ _ N rfl rfl rfl rfl (by rw [hz2]; omega) (by unfold maxLen; omega) (Nat.le_refl _) ?_)
  intro w2 hown hg2
  have R0 : RowR N w.heap.size w (fun _ => True) (rowsTo R 0) w2 := by
    rw [rowsTo_zero, HNN.out]
    exact RowR.made (by simpa using hown) hg2 trivial
  have hC : Steady w.heap.size (fun _ => True) := ⟨fun _ _ => trivial, fun _ _ _ => trivial⟩
  have HC : Hid (Steady w.heap.size (fun _ => True)) := hC
  have HR0 : Hid (RowR N w.heap.size w (fun _ => True) (rowsTo R 0) w2) := R0
  have HSB : Hid (∀ W, Below w.heap.size w W → SetsB G m bs R W) := fun W hb => hS.but (But.of_below hb) (by have := hS.lt; omega) (fun b hb' => by have := hS.blk b hb'; omega)
  have HTB : Hid (∀ W, Below w.heap.size w W → Tb W) := fun W hb => hT.next hb
  have HWL : Hid (∀ s, s < N → ∀ y ∈ listW (WR R s), i64B y) := fun s hs y hy => by
    obtain ⟨k, hk, rfl⟩ := mem_listW.1 hy
    have h1 := bin_lt hk
    have h2 := (hS.each s (by rw [HNN.out]; exact hs)).2.1
    unfold i64B
    omega
  clear hown hg2 R0 hS hT hC
  obtain ⟨H, hH⟩ : ∃ H, w.heap.size = H := ⟨_, rfl⟩
  have HHH : Hid (H = w.heap.size) := hH.symm
  rw [hH] at HC HR0 HSB HTB ⊢
  clear hH
  go_wp2_with fail
  go_loopw [11] (fun i wr => ∃ (j : Nat), i = .int .i64 j ∧ j ≤ N ∧ RowR N H w (fun _ => True) (rowsTo R j) wr) (fun i _ => N - (intOf i).toNat)
  case atStart => exact ⟨0, rfl, Nat.zero_le _, HR0.out⟩
  case round =>
  clear HR0
  obtain ⟨j, rfl, hj, hR⟩ := hrel
  by_cases hlt : j < N
  · have hs := HSB.out _ hR.below
    have hjR : j < R.length := by rw [HNN.out]; exact hlt
    have c1 := hs.cell hjR
    have HCA := list_any _ _ m wr (hs.each j hjR) hm (HTB.out _ hR.below)
    have hGl := hs.lt
    have hHl := hR.lt
    obtain ⟨v0, hv0, _, _⟩ := hR.get hlt
    have hfz := hR.frozen j
    have HST : Hid (∀ W v, Own1 3 encI wr.heap.size (listW (WR R j)) v W → Below wr.heap.size wr W → RowR N H w (fun _ => True) (rowsTo R (j + 1)) (W.setCell ⟨H, j, none⟩ v)) := fun W v ho hb => by
      rw [rowsTo_succ]
      refine (hR.next HC.out HHH.out hb).store HC.out hlt (sli_own ho (HWL.out j hlt)) ?_
      obtain ⟨ao, cap, rfl, _, _, _, h⟩ := ho.at_
      intro ad n c e
      cases e
      rcases h with h | ⟨g, h, hg, _⟩
      · cases h
      · cases h; simp only; omega
    generalize bs.getD j 0 = c at *
    have HCA' : Hid (Calls Tryd.prog 36 #[.slice (some ⟨c, 0, none⟩) m m] wr fun e w' => ∃ v, e = .returned v ∧ Own1 3 encI wr.heap.size (listW (WR R j)) v w' ∧ Below wr.heap.size wr w') := HCA
    clear HCA hs hR hjR
    go_wp2_with fail
    refine HCA'.out.mono ?_
    rintro e w3 ⟨v, rfl, ho, hb3⟩
    have HF := HST.out w3 v ho hb3
    obtain ⟨va, vc, rfl⟩ := slice_of_own ho
    have c3 := (hb3.cell (p := ⟨H, j, none⟩) hHl).trans hv0
    have f3 := (hb3.frozen (p := ⟨H, j, none⟩) hHl).trans hfz
    have HF' : Hid (RowR N H w (fun _ => True) (rowsTo R (j + 1)) (w3.setCell ⟨H, j, none⟩ (.slice va (listW (WR R j)).length vc))) := HF
    generalize (listW (WR R j)).length = n at *
    clear HST HCA' ho hb3 HF hv0 hfz c1
    go_wp2_with fail
    exact ⟨⟨j + 1, by go_num, by omega, HF'.out⟩, by simp [intOf]; omega⟩
  · obtain rfl : j = N := by omega
    have HF : Hid (SlR (R.map listW) (.slice (some ⟨H, 0, none⟩) j j) wr ∧ Below w.heap.size w wr) := by
      have h1 := hR.slR
      rw [show rowsTo R j = R.map listW by rw [← HNN.out]; exact rowsTo_all R] at h1
      exact ⟨h1, by rw [← HHH.out]; exact hR.below⟩
    clear hR
    go_wp2_with fail
    go_ret
    exact ⟨_, rfl, HF.out.1, HF.out.2⟩

set_option maxRecDepth 100000 in
set_option maxHeartbeats 1000000 in
theorem first_any (f : Fl) (a : FlA) (w : World) (hf : FlAt f a w) (hp : FitP f) (hT : Tb w) :
    Calls Tryd.prog 15 #[a.val f] w fun e w' => ∃ v R, e = .returned v ∧ GivesR (FstP f) f.n R ∧ SlR R v w' ∧ Below w.heap.size w w' := by
  have HSO : Hid (∀ W, Below w.heap.size w W → Calls Tryd.prog 26 #[a.val f] W fun e w' => e = .returned (.bool true) ∧ Below W.heap.size W w') := fun W hb => sound_any f a W (hf.next hb) hp
  have HVO : Hid (∀ W, Below w.heap.size w W → Calls Tryd.prog 30 #[a.val f] W fun e w' => ∃ V E G bs L R, e = .returned (.pointer (some ⟨V, 0, none⟩)) ∧ VOk f a (f.terms.length / 64 + 1) W V E G bs L R w' ∧ GivesB (fun s => false = true ∧ s < f.terms.length) f.gr f.n L ∧ StW f (f.terms.length / 64 + 1) R ∧ ∀ q ∈ f.gr, ClosF f R q) := fun W hb => viewOf_any f a W (hf.next hb) hp
  have X0 := FBox.new f a 25 w
  have B0 : Below w.heap.size w (w.alloc (fobj f a 25)) := (Below.refl _ _).alloc (Nat.le_refl _) _
  have hm20 : f.terms.length / 64 + 1 ≤ 20 := by have := hp.size; omega
  have hn : f.n ≤ 600 := hp.size
  obtain ⟨ta, tc, na, nc, pa, pc⟩ := a
  unfold fobj at X0 B0
  unfold FlA.val at HSO HVO ⊢
  simp only at *
  clear hf hp
  go_enter Tryd.func15, Tryd.ntmps15
  go_wp2_with fail
  generalize (w.alloc (Obj.cells #[Value.slice ta f.terms.length tc, Value.slice na f.nons.length nc, Value.slice pa f.prods.length pc] 25)) = W1 at *
  refine (HSO.out _ B0).mono ?_
  rintro e w1 ⟨rfl, hb1⟩
  have X1 := X0.next hb1
  have B1 := below_then B0 hb1 B0.size
  obtain ⟨x0, x1, x2, x3⟩ := X1
  simp only at x1 x2 x3
  clear X0 B0 hb1 HSO
  go_wp2_with fail
  refine (HVO.out _ B1).mono ?_
  rintro e w2 ⟨V, E, G, bs, L, R, rfl, hV, -, hR, hc⟩
  have B2 := below_then B1 hV.below B1.size
  have hRl : R.length = f.n := hR.ok.len
  have v4 := hV.v.c4
  have HGI : Hid (GivesR (FstP f) f.n (R.map listW)) := hR.gives hc
  have HLI := lists_any G _ bs R w2 hV.s hm20 (by omega) (hT.next B2)
  rw [hRl] at HLI
  clear HVO B1 hV hR hc x0 x1 x2 x3 hT
  go_wp2_with fail
  refine HLI.mono ?_
  rintro e w3 ⟨v, rfl, g1, g2⟩
  obtain ⟨ao, cap, rfl, g4⟩ := g1
  have e2 : (R.map listW).length = f.n := by rw [List.length_map]; exact hRl
  rw [e2] at g4 ⊢
  have HF : Hid (SlR (R.map listW) (.slice ao f.n cap) w3 ∧ Below w.heap.size w w3) := ⟨⟨ao, cap, by rw [e2], by rw [e2]; exact g4⟩, below_then B2 g2 B2.size⟩
  clear g2 B2 v4 HLI
  go_wp2_with fail
  go_ret
  exact ⟨_, _, rfl, HGI.out, HF.out.1, HF.out.2⟩
end Go.Proofs.YtckbfiigbckmeaaDoor
