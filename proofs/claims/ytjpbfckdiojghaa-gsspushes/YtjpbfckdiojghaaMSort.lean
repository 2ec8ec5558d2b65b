/- Stacks: slices.SortFunc at spots; slices.SortedFunc of a map's keys. -/
import Derived.Test.YtjpbfckdiojghaaMColl
import Derived.Shelf.SlSortCmp.WholeK
import Derived.Shelf.SlSortCmp.NoneTotal
import Derived.Shelf.SlicesG.Cmp
import Derived.Shelf.Small.Bits
import Derived.Shelf.Lay
import Derived.Ground.SlsfProg
namespace Go.Proofs.Ytjpbfckdiojghaa
open Go.Shelf Go.RowKit Go.Lib Go.Sort Go.Proofs
shelf_lay_g SlLaysF0.n6 Slsf 6 at Try 64 as Try.sortSp

theorem grow_of_below {w w' : World} (hb : Below w.heap.size w w') (hd : w.drawn ≤ w'.drawn) : ∃ q os', w' = grow (w.drewN q) os' := by
  refine ⟨w'.drawn - w.drawn, w'.heap.extract w.heap.size w'.heap.size, ?_⟩
  have h1 : w'.heap = w.heap ++ w'.heap.extract w.heap.size w'.heap.size := by
    apply Array.ext_getElem?
    intro i
    rw [Array.getElem?_append]
    split
    · exact hb.block i (by assumption)
    · rename_i hi
      rw [Array.getElem?_extract]
      split
      · congr 1; omega
      · rw [Array.getElem?_eq_none (by omega)]
  obtain ⟨h', t', d', o', u'⟩ := w'
  have e1 := hb.os
  have e2 := hb.tape
  have e3 := hb.output
  simp only at h1 e1 e2 e3 hd
  unfold grow World.drewN
  simp only [World.mk.injEq]
  exact ⟨h1, e2, by omega, e1, e3⟩
theorem compareG_any (x y : Sp) (W : World) : Calls Try.prog 39 #[spV x, spV y] W fun e w' => e = .returned (.int .i64 (cmpS x y)) ∧ ∃ q os', w' = grow (W.drewN q) os' :=
  (compare_any x y W).mono fun _ _ ⟨h1, h2, h3⟩ => ⟨h1, grow_of_below h2 h3⟩
theorem ltC (x y : Sp) : ltOf cmpS x y = decide (ltS x y) := by
  unfold ltOf
  rw [Bool.eq_iff_iff, decide_eq_true_eq, decide_eq_true_eq]
  exact cmpS_lt
theorem swoC : SWO (ltOf cmpS) where
  irrefl x := by rw [ltC]; simpa using ltS_irrefl x
  trans x y z h1 h2 := by rw [ltC] at *; simp at *; exact ltS_trans h1 h2
  ntrans x y z h1 h2 := by rw [ltC] at *; simp at *; unfold ltS at *; omega
/-- A slice of spots that is read. -/
def SlSp (l : List Sp) (v : Value) (W : World) : Prop :=
  ∃ ao cap, v = .slice ao l.length cap ∧ (∀ (i : Nat) (s : Sp), l[i]? = some s → ∃ b off, ao = some ⟨b, off, none⟩ ∧ b < W.heap.size ∧ W.cell? ⟨b, off + i * 2, none⟩ = some (.int .i64 s.1) ∧ W.cell? ⟨b, off + i * 2 + 1, none⟩ = some (.int .i64 s.2))
theorem SlSp.but {l : List Sp} {v : Value} {W W' : World} {D : Nat → Prop} (h : SlSp l v W) (hb : But D W W') (hd : ∀ k, v.ownBlock = some k → ¬ D k) : SlSp l v W' := by
  obtain ⟨ao, cap, h0, h1⟩ := h
  refine ⟨ao, cap, h0, fun i s hs => ?_⟩
  obtain ⟨b, off, e, hl, c0, c1⟩ := h1 i s hs
  have hn : ¬ D b := hd b (by rw [h0, e]; rfl)
  exact ⟨b, off, e, Nat.lt_of_lt_of_le hl hb.size, (hb.cell (p := ⟨b, off + i * 2, none⟩) hl hn).trans c0, (hb.cell (p := ⟨b, off + i * 2 + 1, none⟩) hl hn).trans c1⟩
theorem enc2_len (x : Sp) : (encP2 x).length = 2 := rfl
theorem OwnSp.holds {B g cap : Nat} {l : List Sp} {W : World} (h : OwnSp B l (.slice (some ⟨g, 0, none⟩) l.length cap) W) : HoldsK encP2 2 W g 0 l.toArray := by
  intro j hj
  have hj2 : j < l.length * 2 := by simpa using hj
  refine ⟨?_, World.ownsRow.frozenAt h _⟩
  rw [Nat.zero_add, World.ownsRow.cellAt h j hj2, get_flatK _ _ _ _ (by simpa using hj)]
  have h3 : j = j / 2 * 2 + j % 2 := by omega
  have h4 : j / 2 < l.length := by omega
  conv => lhs; rw [h3, flatK_get enc2_len (List.getElem?_eq_getElem h4) (by omega)]
  have h5 : j % 2 < 2 := by omega
  generalize j % 2 = c at *
  have e : (l.toArray)[j / 2]! = l[j / 2] := by simp [getElem!_pos, h4]
  rw [e]
  generalize l[j / 2] = x
  match c, h5 with
  | 0, _ => simp [encP2]
  | 1, _ => simp [encP2]
theorem sorted_up {l : List Sp} (hn : l.Nodup) (hs : ∀ i j (hi : i < l.length) (hj : j < l.length), i < j → ¬ ltS l[j] l[i]) : l.Pairwise ltS := by
  rw [List.pairwise_iff_getElem]
  intro i j hi hj hij
  have h1 := hs i j hi hj hij
  by_cases h2 : ltS l[i] l[j]
  · exact h2
  · exfalso
    have hne : l[i] ≠ l[j] := (List.pairwise_iff_getElem.1 hn) i j hi hj hij
    exact h1 (ltS_total h2 hne)

set_option maxHeartbeats 1000000 in
theorem sortSp_any (B : Nat) (v : Value) (l : List Sp) (w : World) (h : OwnSp B l v w) (hn : l.Nodup) (hl : l.length ≤ 100000000) :
    Calls Try.prog 64 #[v, .func (.func 39) #[] #[]] w fun e w' => e = .returned (.tuple #[]) ∧ ∃ l', l'.Pairwise ltS ∧ l'.Perm l ∧ SlSp l' v w' ∧ But (fun k => v.ownBlock = some k) w w' := by
  rcases h.2 with ⟨rfl, h0⟩ | ⟨g, cap, cur, rfl, hB, hg, hcap, _⟩
  · obtain rfl : l = [] := List.eq_nil_of_length_eq_zero h0
    have hcon := AnyF.slices_SortFunc_none Try.sortSp none 0 (.func (.func 39) #[] #[]) w
    change Calls Try.prog 64 _ _ _ at hcon
    refine hcon.mono ?_
    rintro e w' ⟨rfl, rfl⟩
    exact ⟨rfl, [], List.Pairwise.nil, List.Perm.refl _, ⟨none, 0, rfl, fun i s h => by simp at h⟩, But.refl _ _⟩
  have hblk : g < w.heap.size := (World.ownsRow.lt h g rfl).2
  have eg : ∀ args w, (callFunc 39 args).run Try.prog w = .ok (.enter 39 args) w := enters_of Try.func39 (by kernel_rfl) rfl
  have hH := OwnSp.holds h
  have hcon := AnyQ.slices_SortFunc Try.sortSp 2 Try.isAgg48 Try.sizeOf48 encP2 (fun _ => rfl) (fun x v hv => by simp [encP2] at hv; rcases hv with rfl | rfl <;> rfl) cmpS swoC 39 #[] g 0 cap l.toArray w eg (fun _ _ _ _ x y => compareG_any x y _) hH hblk (by simp; omega)
  change Calls Try.prog 64 _ _ _ at hcon
  have e0 : l.toArray.size = l.length := by simp
  rw [e0] at hcon
  refine hcon.mono ?_
  rintro e w' ⟨rfl, d', n, os, ⟨hs, _, hp⟩, hso, rfl⟩
  have hH' := holdsK_sortWorldK encP2 2 w g 0 n l.toArray d' os hblk hH hs
  have hs' : d'.size = l.length := by simpa using hs
  have hperm : d'.toList.Perm l := by
    have h1 : d'.extract 0 l.toArray.size = d' := by rw [← hs]; simp
    have h2 : l.toArray.extract 0 l.toArray.size = l.toArray := by simp
    first
      | (rw [h1, h2] at hp; simpa using hp)
      | (rw [e0] at h1 h2; rw [h1, h2] at hp; simpa using hp)
  have hlen : d'.toList.length = l.length := by simpa using hs'
  refine ⟨rfl, d'.toList, ?_, hperm, ?_, ?_⟩
  · refine sorted_up (hperm.nodup_iff.2 hn) (fun i j hi hj hij => ?_)
    have := hso i j (Nat.zero_le _) hij (by simpa [hs'] using hj)
    rw [ltC] at this
    simp at hi hj
    simp [getElem!_pos, hi, hj] at this ⊢
    exact this
  · have hlt : g < (sortWorldK encP2 2 w g 0 n d' os).heap.size := lt_sortWorldK encP2 2 w g 0 n d' os hblk
    refine ⟨_, cap, by rw [hlen], fun i m hm => ⟨g, 0, rfl, hlt, ?_⟩⟩
    obtain ⟨hi, rfl⟩ := List.getElem?_eq_some_iff.1 hm
    have hi' : i < d'.size := by simpa using hi
    have h0 := (hH'.cell (i := i) (c := 0) hi' (by omega)).1
    have h1 := (hH'.cell (i := i) (c := 1) hi' (by omega)).1
    simp [encP2, getElem!_pos, hi'] at h0 h1
    simpa using ⟨h0, h1⟩
  · refine ⟨rfl, rfl, rfl, size_sortWorldK_c .., fun k hk hd => ?_⟩
    show ((w.heap.modify g _) ++ os)[k]? = w.heap[k]?
    rw [Array.getElem?_append_left (by simp; omega), Array.getElem?_modify, if_neg (fun e => hd (by rw [← e]; rfl))]

set_option maxRecDepth 100000 in
set_option maxHeartbeats 1600000 in
theorem sortedSp_any (Bm b : Nat) (L : List Sp) (g : Sp → Int) (w : World) (hm : w.heap[Bm]? = some (Obj.cells #[.map (some b)] 58)) (hM : MapN b L g w) (hl : L.length ≤ 1000000) :
    Calls Try.prog 48 #[.func (.func 65) #[] #[.pointer (some ⟨Bm, 0, none⟩)], .func (.func 39) #[] #[]] w fun e w' => ∃ v xs, e = .returned v ∧ xs.Perm L ∧ xs.Pairwise ltS ∧ SlSp xs v w' ∧ (∀ k, v.ownBlock = some k → w.heap.size ≤ k) ∧ Below w.heap.size w w' := by
  have HC := collect_any Bm b L g w hm hM hl
  have hnd := hM.nd
  clear hm hM
  go_enter Try.func48, Try.ntmps48
  go_wp2_with fail
  refine HC.mono ?_
  rintro e w1 ⟨v, xs, rfl, h1, h2, h3⟩
  clear HC
  have HS := sortSp_any w.heap.size v xs w1 h2 (h1.nodup_iff.2 hnd) (by rw [h1.length_eq]; omega)
  have HV : Hid (∀ k, v.ownBlock = some k → w.heap.size ≤ k) := fun k hk => (World.ownsRow.lt h2 k hk).1
  obtain ⟨va, vc, rfl⟩ := slice_of_ownK h2
  clear h2
  go_wp2_with fail
  refine HS.mono ?_
  rintro e w2 ⟨rfl, ys, h4, h5, h6, h7⟩
  clear HS
  go_wp2_with fail
  go_ret
  exact ⟨_, ys, rfl, h5.trans h1, h4, h6, HV.out, h3.trans (h7.below h3.size (fun k hk => HV.out k hk))⟩
end Go.Proofs.Ytjpbfckdiojghaa
