/- slices.SortFunc at items, by their order: the rising row of what the row held. -/
import Derived.Test.YtbilbgjojdlobaaGreatDoorJ01
import Derived.Test.YtbilbgjojdlobaaGreatDoorJ02
import Derived.Test.YtbilbgjojdlobaaGreatDoorJ03
import Derived.Test.YtbilbgjojdlobaaGreatDoorJ10
import Derived.Shelf.SlSortCmp.WholeK
import Derived.Shelf.SlicesG.Cmp
import Derived.Shelf.Small.Bits
import Derived.Shelf.Lay
import Derived.Ground.SlsfProg
import Derived.Ground.SlgcProg
import Derived.Sort.LoopGhostIn
namespace Go.Proofs.YtbilbgjojdlobaaGreatDoor
open Go.Shelf Go.RowKit Go.Lib Go.Sort Go.Proofs
shelf_lay_g SlLaysF0.n6 Slsf 6 at Tryz 159 as Tryz.sortLr
shelf_lay_g SlLaysC2.n5 Slgc 5 at Tryz 180 as Tryz.cmpInt

/-- The order of items, as a number. -/
def ordI (x y : Ir) : Int := if x.1 ≠ y.1 then Lib.compareInt x.1 y.1 else if x.2.1 ≠ y.2.1 then Lib.compareInt x.2.1 y.2.1 else Lib.compareInt x.2.2 y.2.2
set_option maxHeartbeats 1000000 in
theorem order_any (x y : Ir) (W : World) : Calls Tryz.prog 160 #[valR x, valR y] W fun e w' => e = .returned (.int .i64 (ordI x y)) ∧ ∃ q os', w' = grow (W.drewN q) os' := by
  have hcon := fun a b W' => AnyG.cmp_Compare_int Tryz.cmpInt a b W'
  change ∀ a b W', Calls Tryz.prog 180 _ _ _ at hcon
  unfold valR ordI
  by_cases h1 : x.1 = y.1
  · have h1' : (x.1 != y.1) = false := by simp [h1]
    rw [if_neg (by simp [h1])]
    by_cases h2 : x.2.1 = y.2.1
    · have h2' : (x.2.1 != y.2.1) = false := by simp [h2]
      rw [if_neg (by simp [h2])]
      have hc := hcon x.2.2 y.2.2
      clear hcon
      generalize Lib.compareInt x.2.2 y.2.2 = r at hc ⊢
      go_enter Tryz.func160, Tryz.ntmps160
      go_wp2_with (go_at_call 180; refine (hc _).mono ?_; rintro e w' ⟨rfl, rfl⟩)
      go_ret
      exact ⟨rfl, 0, _, by rw [alloc_eq_grow, alloc_eq_grow, grow_grow]; rfl⟩
    · have h2' : (x.2.1 != y.2.1) = true := by simp [h2]
      rw [if_pos h2]
      have hc := hcon x.2.1 y.2.1
      clear hcon
      generalize Lib.compareInt x.2.1 y.2.1 = r at hc ⊢
      go_enter Tryz.func160, Tryz.ntmps160
      go_wp2_with (go_at_call 180; refine (hc _).mono ?_; rintro e w' ⟨rfl, rfl⟩)
      go_ret
      exact ⟨rfl, 0, _, by rw [alloc_eq_grow, alloc_eq_grow, grow_grow]; rfl⟩
  · have h1' : (x.1 != y.1) = true := by simp [h1]
    rw [if_pos h1]
    have hc := hcon x.1 y.1
    clear hcon
    generalize Lib.compareInt x.1 y.1 = r at hc ⊢
    go_enter Tryz.func160, Tryz.ntmps160
    go_wp2_with (go_at_call 180; refine (hc _).mono ?_; rintro e w' ⟨rfl, rfl⟩)
    go_ret
    exact ⟨rfl, 0, _, by rw [alloc_eq_grow, alloc_eq_grow, grow_grow]; rfl⟩
theorem ltO (x y : Ir) : ltOf ordI x y = decide (ltI x y) := by
  unfold ltOf ordI Lib.compareInt
  rw [Bool.eq_iff_iff, decide_eq_true_eq, decide_eq_true_eq]
  unfold ltI
  by_cases h1 : x.1 = y.1
  · rw [if_neg (by simp [h1])]
    by_cases h2 : x.2.1 = y.2.1
    · rw [if_neg (by simp [h2])]
      by_cases h3 : x.2.2 < y.2.2
      · simp [h3, h1, h2]
      · by_cases h4 : y.2.2 < x.2.2 <;> simp [h1, h2, h3, h4]
    · rw [if_pos h2]
      by_cases h3 : x.2.1 < y.2.1
      · simp [h3, h1]
      · by_cases h4 : y.2.1 < x.2.1 <;> simp [h1, h2, h3, h4]
  · rw [if_pos h1]
    by_cases h3 : x.1 < y.1
    · simp [h3]
    · by_cases h4 : y.1 < x.1 <;> simp [h1, h3, h4]
theorem swoO : SWO (ltOf ordI) where
  irrefl x := by rw [ltO]; simpa using ltI_irrefl x
  trans x y z h1 h2 := by rw [ltO] at *; simp at *; exact ltI_trans h1 h2
  ntrans x y z h1 h2 := by rw [ltO] at *; simp at *; unfold ltI at *; omega
theorem OwnL.holds {B g cap : Nat} {l : List Ir} {W : World} (h : OwnL B l (.slice (some ⟨g, 0, none⟩) l.length cap) W) : HoldsK encR 3 W g 0 l.toArray := by
  intro j hj
  have hj2 : j < l.length * 3 := by simpa using hj
  refine ⟨?_, World.ownsRow.frozenAt h _⟩
  rw [Nat.zero_add, World.ownsRow.cellAt h j hj2, get_flatK _ _ _ _ (by simpa using hj)]
  have h3 : j = j / 3 * 3 + j % 3 := by omega
  have h4 : j / 3 < l.length := by omega
  conv => lhs; rw [h3, flatR_get (List.getElem?_eq_getElem h4) (by omega)]
  have h5 : j % 3 < 3 := by omega
  generalize j % 3 = c at *
  have e : (l.toArray)[j / 3]! = l[j / 3] := by simp [getElem!_pos, h4]
  rw [e]
  generalize l[j / 3] = x
  match c, h5 with
  | 0, _ => simp [encR]
  | 1, _ => simp [encR]
  | 2, _ => simp [encR]
theorem sorted_rising {l : List Ir} (hn : l.Nodup) (hs : ∀ i j (hi : i < l.length) (hj : j < l.length), i < j → ¬ ltI l[j] l[i]) : RisingI l := by
  unfold RisingI
  rw [List.pairwise_iff_getElem]
  intro i j hi hj hij
  have h1 := hs i j hi hj hij
  by_cases h2 : ltI l[i] l[j]
  · exact h2
  · exfalso
    have hne : l[i] ≠ l[j] := (List.pairwise_iff_getElem.1 hn) i j hi hj hij
    exact h1 (ltI_total h2 hne)

set_option maxHeartbeats 1000000 in
theorem sort_any (B g cap : Nat) (l : List Ir) (w : World) (h : OwnL B l (.slice (some ⟨g, 0, none⟩) l.length cap) w) (hn : l.Nodup) (hok : ∀ x ∈ l, okR x) (hcap : l.length ≤ cap) (hl : l.length ≤ 100000000) :
    Calls Tryz.prog 159 #[.slice (some ⟨g, 0, none⟩) l.length cap, .func (.func 160) #[] #[]] w fun e w' => e = .returned (.tuple #[]) ∧ ∃ l', RisingI l' ∧ l'.Perm l ∧ SlL l' (.slice (some ⟨g, 0, none⟩) l'.length cap) w' ∧ But (fun k => k = g) w w' := by
  have hblk : g < w.heap.size := (World.ownsRow.lt h g rfl).2
  have eg : ∀ args w, (callFunc 160 args).run Tryz.prog w = .ok (.enter 160 args) w := enters_of Tryz.func160 (by kernel_rfl) rfl
  have hH := OwnL.holds h
  have hcon := AnyQ.slices_SortFunc Tryz.sortLr 3 Tryz.isAgg77 Tryz.sizeOf77 encR (fun _ => rfl) (fun x v hv => by simp [encR] at hv; rcases hv with rfl | rfl | rfl <;> rfl) ordI swoO 160 #[] g 0 cap l.toArray w eg (fun _ _ _ _ x y => order_any x y _) hH hblk (by simp; omega)
  change Calls Tryz.prog 159 _ _ _ at hcon
  have e0 : l.toArray.size = l.length := by simp
  rw [e0] at hcon
  refine hcon.mono ?_
  rintro e w' ⟨rfl, d', n, os, ⟨hs, _, hp⟩, hso, rfl⟩
  have hH' := holdsK_sortWorldK encR 3 w g 0 n l.toArray d' os hblk hH hs
  have hs' : d'.size = l.length := by simpa using hs
  have hperm : d'.toList.Perm l := by
    have h1 : d'.extract 0 l.toArray.size = d' := by rw [← hs]; simp
    have h2 : l.toArray.extract 0 l.toArray.size = l.toArray := by simp
    first
      | (rw [h1, h2] at hp; simpa using hp)
      | (rw [e0] at h1 h2; rw [h1, h2] at hp; simpa using hp)
  refine ⟨rfl, d'.toList, ?_, hperm, ?_, ?_⟩
  · refine sorted_rising (hperm.nodup_iff.2 hn) (fun i j hi hj hij => ?_)
    have := hso i j (Nat.zero_le _) hij (by simpa [hs'] using hj)
    rw [ltO] at this
    simp at hi hj
    simp [getElem!_pos, hi, hj] at this ⊢
    exact this
  · have hlt : g < (sortWorldK encR 3 w g 0 n d' os).heap.size := lt_sortWorldK encR 3 w g 0 n d' os hblk
    refine ⟨_, cap, rfl, fun i m hm => ⟨g, 0, rfl, hlt, ?_⟩, (fun h => by cases h), by simpa [hs'] using hcap⟩
    obtain ⟨hi, rfl⟩ := List.getElem?_eq_some_iff.1 hm
    have hi' : i < d'.size := by simpa using hi
    have h0 := (hH'.cell (i := i) (c := 0) hi' (by omega)).1
    have h1 := (hH'.cell (i := i) (c := 1) hi' (by omega)).1
    have h2 := (hH'.cell (i := i) (c := 2) hi' (by omega)).1
    simp [encR, getElem!_pos, hi'] at h0 h1 h2
    have hk := hok _ (hperm.mem_iff.1 (List.getElem_mem hi))
    simp at hk
    simpa using ⟨h0, h1, h2, hk⟩
  · refine ⟨rfl, rfl, rfl, size_sortWorldK_c .., fun k hk hd => ?_⟩
    show ((w.heap.modify g _) ++ os)[k]? = w.heap[k]?
    rw [Array.getElem?_append_left (by simp; omega), Array.getElem?_modify, if_neg (fun e => hd e.symm)]
end Go.Proofs.YtbilbgjojdlobaaGreatDoor
/- grown: the set of items when nothing is left that they begin with. -/
namespace Go.Proofs.YtbilbgjojdlobaaGreatDoor
open Go.RowKit Go.Shelf
attribute [local go_sem] Oper.semAt_some

/-- A function's end, whose defers are marks of ranges that are over: one value comes back. -/
theorem leaves_marks_v {F : Fence} {n : Nat} {P : Program} {fn : Func} {tmps : Array Value} {B : Nat} {Rw : World → Prop} {R : Ending → World → Prop} {v : Value} (hfin : ∀ W, Rw W → R (.returned v) W) (hres : ∀ W, (results fn tmps).run P W = .ok v W)
    (hR : ∀ W d, B ≤ d → W.heap[d]? = some (.deferred (some [])) → Rw W → Rw (W.putObj d (.deferred none))) :
    ∀ (Ds : List Nat) (W : World), Mk B Ds W → Rw W → LeavesInM F n P fn tmps R (Ds.map mark) .returning W
  | [], W, _, h => ⟨v, hres W, hfin W h⟩
  | d :: Ds, W, hM, h => by
    obtain ⟨hB, hd⟩ := hM.2 d (by simp)
    have hn := List.nodup_cons.1 hM.1
    refine ⟨by simp, .inl ⟨d, _, rfl, run_takeDeferred hd, ?_⟩⟩
    refine leaves_marks_v hfin hres hR Ds _ ⟨hn.2, fun e he => ?_⟩ (hR W d hB hd h)
    have := hM.2 e (by simp [he])
    exact ⟨this.1, (World.putObj_heap_other (fun h' => hn.1 (by rw [← h']; exact he))).trans this.2⟩
theorem wpIn_calm {F : Fence} {n : Nat} {P : Program} {c : Code} {Q : Exit → Act → World → Prop} {a : Act} {w : World} (h : c.wpIn F n P (fun e a w => (∀ c, e ≠ Exit.panic c) ∧ Q e a w) a w) : c.wpIn F n P Q a w := wpIn_mono h (fun _ _ _ h => h.2)
theorem IBox (x : Value) (ty : TypeId) (w : World) : (w.alloc (Obj.cells #[x] ty)).cell? ⟨w.heap.size, 0, none⟩ = some x ∧ (w.alloc (Obj.cells #[x] ty)).frozen? ⟨w.heap.size, 0, none⟩ = false ∧ w.heap.size < (w.alloc (Obj.cells #[x] ty)).heap.size := by
  refine ⟨?_, ?_, ?_⟩ <;> simp
theorem fitI_ok {f : Fl} (hp : FitP f) {x : Ir} (h : fitI f x = true) : okR x := by
  have h1 := fitI_iff.1 h
  have h2 := rightI_le hp x.1
  have h3 := hp.prods
  have h4 : f.terms.length + f.nons.length ≤ 600 := hp.size
  exact ⟨by unfold i64B; omega, by unfold i64B; omega, by unfold i64B; omega⟩

theorem SlL.putObj {l : List Ir} {v : Value} {W : World} {d : Nat} {o : Obj} (h : SlL l v W) (hd : W.heap[d]? = some (.deferred (some []))) : SlL l v (W.putObj d o) := by
  obtain ⟨ao, cap, h0, h1, h2⟩ := h
  have hb := But.putObj W d o
  refine ⟨ao, cap, h0, fun i x hi => ?_, h2⟩
  obtain ⟨b, off, e, hbl, c0, c1, c2, hok⟩ := h1 i x hi
  have hne : b ≠ d := fun e => by subst e; simp [World.cell?, hd] at c0
  exact ⟨b, off, e, Nat.lt_of_lt_of_le hbl hb.size, (hb.cell (p := ⟨b, off + i * 3, none⟩) hbl hne).trans c0, (hb.cell (p := ⟨b, off + i * 3 + 1, none⟩) hbl hne).trans c1, (hb.cell (p := ⟨b, off + i * 3 + 2, none⟩) hbl hne).trans c2, hok⟩

set_option maxRecDepth 100000 in
set_option maxHeartbeats 4000000 in
theorem grown_in (n : Nat) (hn : 6 ≤ n) (f : Fl) (a : FlA) (Le : List Bool) (R : List (List Int)) (wv : World) (Bi Bc Bb G V : Nat) (S0 : Ir → Prop) (lv0 : Value) (L0 : List Ir) (w : World)
    (h : GS Bi Bc Bb G V lv0 L0 [] [] w) (hv : VwAt f a V Le R wv) (hf : FlAt f a wv) (hfe : FE f R Le) (hwv : wv.heap.size ≤ Bi) (hB : Below wv.heap.size wv w) (hp : FitP f) (hG : GI f S0 L0 [] [] 0) (hne : L0 ≠ []) :
    CallsIn Fence.wide n Tryz.prog 130 #[.pointer (some ⟨G, 0, none⟩)] w fun e W' => ∃ v', e = .returned v' ∧ (∃ L', ClosI f S0 L' ∧ SlL L' v' W' ∧ Apart Bi v') ∧ Below Bi w W' := by
  refine callsIn_of_wp_marks Tryz.func130 rfl trivial ?_ rfl
  simp only [Tryz.ntmps130, List.size_toArray, List.length_cons, List.length_nil, Nat.reduceAdd, Nat.reduceSub, Array.replicate_succ, Array.replicate_zero, List.push_toArray, List.append_toArray, List.nil_append, List.cons_append]
  have hdst := And.intro h.o1 (And.intro h.o2 h.o3)
  have hGl := h.lt
  have HFP : Hid (FitP f) := hp
  have HFE : Hid (FE f R Le) := hfe
  have HV : Hid (VwAt f a V Le R wv) := hv
  have HFA : Hid (FlAt f a wv) := hf
  have HBV : Hid (Below wv.heap.size wv w) := hB
  have hBK : Below w.heap.size w (w.alloc (Obj.cells #[.pointer (some ⟨G, 0, none⟩)] 186)) := (Below.refl _ _).alloc (Nat.le_refl _) _
  have HST : Hid (GInv f S0 Bi Bc Bb G V w.heap.size w [] 0 L0 [] [] lv0 (w.alloc (Obj.cells #[.pointer (some ⟨G, 0, none⟩)] 186))) := by
    refine ⟨h.next hBK, hG, ⟨fun q hq => ?_, fun q e hq => ?_⟩, ⟨List.nodup_nil, by simp⟩, by simp, hBK.mono (by omega), List.length_pos_iff.2 hne⟩
    · have : (w.alloc (Obj.cells #[.pointer (some ⟨G, 0, none⟩)] 186)).heap.size = w.heap.size + 1 := by simp
      rcases hq with hq | hq | hq
      · omega
      · omega
      · cases hq
    · have := World.ownsRow.lt h.own q e
      rcases hq with hq | hq | hq
      · omega
      · omega
      · cases hq
  clear h hv hf hfe hB hp hG hne hBK
  refine wpIn_calm ?_
  gi_wp2
  generalize w.alloc (Obj.cells #[.pointer (some ⟨G, 0, none⟩)] 186) = w0 at *
  refine wpIn_loop_ghost (fun m a' W => ∃ (t4 t5 t6 t7 t8 t9 t10 t11 t12 t13 t14 t15 t16 t17 t18 t19 t20 t21 t22 t23 t24 t25 t26 t27 t28 t29 t30 t31 t32 t33 t34 t35 t36 t37 t38 t39 t40 t41 t42 t43 t44 t45 t46 t47 t48 t49 t50 t51 t52 t53 t54 t55 t56 t57 t58 t59 t60 : Value) (Ds : List Nat) (k : Nat) (L : List Ir) (C S : List (Int × Int)) (lv : Value), a' = { tmps := #[.pointer (some ⟨G, 0, none⟩), .pointer (some ⟨w.heap.size, 0, none⟩), .slice none 0 0, .int .i64 k, t4, t5, t6, t7, t8, t9, t10, t11, t12, t13, t14, t15, t16, t17, t18, t19, t20, t21, t22, t23, t24, t25, t26, t27, t28, t29, t30, t31, t32, t33, t34, t35, t36, t37, t38, t39, t40, t41, t42, t43, t44, t45, t46, t47, t48, t49, t50, t51, t52, t53, t54, t55, t56, t57, t58, t59, t60, undef, undef, undef, undef, undef, undef, undef, undef, undef], defers := Ds.map mark } ∧ m = maxI + 1 - k ∧ GInv f S0 Bi Bc Bb G V w.heap.size w Ds k L C S lv W) (maxI + 1) ?start ?round
  case start => exact ⟨undef, undef, undef, undef, undef, undef, undef, undef, undef, undef, undef, undef, undef, undef, undef, undef, undef, undef, undef, undef, undef, undef, undef, undef, undef, undef, undef, undef, undef, undef, undef, undef, undef, undef, undef, undef, undef, undef, undef, undef, undef, undef, undef, undef, undef, undef, undef, undef, undef, undef, undef, undef, undef, undef, undef, undef, undef, [], 0, L0, [], [], lv0, rfl, rfl, HST.out⟩
  case round =>
  clear HST
  rintro m a' W ⟨t4, t5, t6, t7, t8, t9, t10, t11, t12, t13, t14, t15, t16, t17, t18, t19, t20, t21, t22, t23, t24, t25, t26, t27, t28, t29, t30, t31, t32, t33, t34, t35, t36, t37, t38, t39, t40, t41, t42, t43, t44, t45, t46, t47, t48, t49, t50, t51, t52, t53, t54, t55, t56, t57, t58, t59, t60, Ds, k, L, C, S, lv, rfl, rfl, hGS, hGI, hAp, hMk, hc0, hBw, hLp⟩
  have hLm := hGI.len HFP.out
  unfold maxI at hLm
  obtain ⟨la, lc, rfl⟩ := slice_of_ownK hGS.own
  have hg2 := hGS.g2
  have hK0 : w.heap.size < W.heap.size := World.block_lt_of_cell? _ _ hc0
  by_cases hlt : k < L.length
  case neg =>
    obtain rfl : k = L.length := by have := hGI.le; omega
    have HCL : Hid (∀ x, x ∈ L ↔ Cl f S0 x) := hGI.done'
    have hown := hGS.own
    obtain ⟨g, rfl, hgG, hglt, hcap⟩ : ∃ g, la = some ⟨g, 0, none⟩ ∧ G + 1 ≤ g ∧ g < W.heap.size ∧ L.length ≤ lc := by
      obtain ⟨h1, h2⟩ := hGS.own
      rcases h2 with ⟨e, hn⟩ | ⟨g, cap, cur, e, hB, hg, hcap, h3⟩
      · omega
      · cases e; exact ⟨g, rfl, hB, (Array.getElem?_eq_some_iff.1 hg).1, hcap⟩
    have hSort := sort_any (G + 1) g lc L W hown hGI.nodup (fun x hx => fitI_ok HFP.out (cl_fit (hGI.sound x hx))) hcap (by omega)
    have HSO : Hid (Calls Tryz.prog 159 #[.slice (some ⟨g, 0, none⟩) L.length lc, .func (.func 160) #[] #[]] W fun e w' => e = .returned (.tuple #[]) ∧ ∃ l', RisingI l' ∧ l'.Perm L ∧ SlL l' (.slice (some ⟨g, 0, none⟩) l'.length lc) w' ∧ But (fun k => k = g) W w') := hSort
    have HAA : Hid (∀ q, (q < Bi ∨ q = w.heap.size ∨ q ∈ Ds) → q ≠ g) := fun q hq e => hAp.2 g rfl (e ▸ hq)
    clear hSort hown hGI hAp hGS
    gi_wp2_with fail
    refine ⟨trivial, fun _ => by omega, ?_⟩
    refine (callsIn_wide.2 HSO.out).mono ?_
    rintro e W3 ⟨rfl, l', hr, hpm, hsl, hb3⟩
    have hlen : l'.length = L.length := hpm.length_eq
    have c3 : W3.cell? ⟨w.heap.size, 0, none⟩ = some (.pointer (some ⟨G, 0, none⟩)) := (hb3.cell (p := ⟨w.heap.size, 0, none⟩) hK0 (HAA.out _ (.inr (.inl rfl)))).trans hc0
    have c4 : W3.cell? ⟨G, 2, none⟩ = some (.slice (some ⟨g, 0, none⟩) L.length lc) := (hb3.cell (p := ⟨G, 2, none⟩) (World.block_lt_of_cell? _ _ hg2) (by simp only; omega)).trans hg2
    have hMk3 : Mk Bi Ds W3 := ⟨hMk.1, fun d hd => ⟨(hMk.2 d hd).1, hb3.same (hMk.2 d hd).2 (HAA.out d (.inr (.inr hd)))⟩⟩
    have HF : Hid ((∃ L', ClosI f S0 L' ∧ SlL L' (.slice (some ⟨g, 0, none⟩) L.length lc) W3 ∧ Apart Bi (.slice (some ⟨g, 0, none⟩) L.length lc)) ∧ Below Bi w W3) := ⟨⟨l', ⟨hr, fun x => (hpm.mem_iff).trans (HCL.out x)⟩, hlen ▸ hsl, fun ad n c e => by cases e; simp only; omega⟩, hBw.trans (hb3.below (by have := hBw.size; omega) (fun k hk => by omega))⟩
    clear hsl hr hpm hb3 HSO hc0 hg2
    gi_wp2
    refine ⟨fun c hc => (by cases hc), ?_⟩
    refine leaves_marks_v (v := .slice (some ⟨g, 0, none⟩) L.length lc) (Rw := fun W' => (∃ L', ClosI f S0 L' ∧ SlL L' (.slice (some ⟨g, 0, none⟩) L.length lc) W' ∧ Apart Bi (.slice (some ⟨g, 0, none⟩) L.length lc)) ∧ Below Bi w W') (fun W' hw => ⟨_, rfl, hw⟩) (fun W' => by refine (results_tmp rfl _ _ _).trans ?_; rfl) (fun W' d hd hh hw => ?_) Ds W3 hMk3 HF.out
    obtain ⟨⟨L', k1, k2, k3⟩, k4⟩ := hw
    exact ⟨⟨L', k1, k2.putObj hh, k3⟩, k4.trans ((But.putObj W' d _).below (by have := k4.size; omega) (fun k hk => by omega))⟩
  -- a round
  obtain ⟨g, rfl, hgG, hglt, hcap⟩ : ∃ g, la = some ⟨g, 0, none⟩ ∧ G + 1 ≤ g ∧ g < W.heap.size ∧ L.length ≤ lc := by
    obtain ⟨h1, h2⟩ := hGS.own
    rcases h2 with ⟨e, hn⟩ | ⟨g, cap, cur, e, hB, hg, hcap, h3⟩
    · omega
    · cases e; exact ⟨g, rfl, hB, (Array.getElem?_eq_some_iff.1 hg).1, hcap⟩
  have hxk : L[k]? = some L[k] := by simp [hlt]
  have hSl : SlL L (.slice (some ⟨g, 0, none⟩) L.length lc) W := OwnL.sl hGS.own (fun x hx => fitI_ok HFP.out (cl_fit (hGI.sound x hx)))
  obtain ⟨ao, cap, e0, hI, _, _⟩ := hSl
  cases e0
  obtain ⟨b, off, e1, hbl, c0, c1, c2, hok⟩ := hI.at (Below.refl _ _) hlt
  cases e1
  have hCx : Cl f S0 L[k] := hGI.sound _ (by simp)
  generalize L[k] = x at *
  obtain ⟨x0, x1, x2⟩ := x
  simp only [Nat.zero_add] at c0 c1 c2
  obtain ⟨ta, tc, na, nc, pa, pc⟩ := a
  have hg0 := hGS.g0
  have HG : Hid (GS Bi Bc Bb G V (.slice (some ⟨g, 0, none⟩) L.length lc) L C S W) := hGS
  have HGI : Hid (GI f S0 L C S k ∧ L[k]? = some (x0, x1, x2) ∧ Cl f S0 (x0, x1, x2)) := ⟨hGI, hxk, hCx⟩
  have HAP : Hid (Apt (fun q => q < Bi ∨ q = w.heap.size ∨ q ∈ Ds) Bi Bc Bb G (.slice (some ⟨g, 0, none⟩) L.length lc) W) := hAp
  have HMK : Hid (Mk Bi Ds W) := hMk
  have hkl : (k : Int) < L.length := by omega
  have Bx : Below W.heap.size W (W.alloc (Obj.cells #[.int .i64 x0, .int .i64 x1, .int .i64 x2] 77)) := (Below.refl _ _).alloc (Nat.le_refl _) _
  have X0 := RBox.new (x0, x1, x2) 77 W
  have hBV : Below wv.heap.size wv W := HBV.out.trans (hBw.mono hwv)
  clear hGS hGI hxk hAp hMk hI hCx hok
  gi_wp2
  refine wpIn_wide.2 ?_
  have hg0' : G < W.heap.size := World.block_lt_of_cell? _ _ hg0
  have hn6 : f.n ≤ 600 := HFP.out.size
  have hBw4 : Below Bi w (W.alloc (Obj.cells #[.int .i64 x0, .int .i64 x1, .int .i64 x2] 77)) := hBw.trans (Bx.mono (by have := hBw.size; omega))
  obtain ⟨hXl, y0, y1, y2⟩ := X0
  simp only at y0 y1 y2
  have hc4 := (Bx.cell (p := ⟨w.heap.size, 0, none⟩) hK0).trans hc0
  have hg4 := (Bx.cell (p := ⟨G, 0, none⟩) hg0').trans hg0
  have hBV4 : Below wv.heap.size wv (W.alloc (Obj.cells #[.int .i64 x0, .int .i64 x1, .int .i64 x2] 77)) := hBV.trans (Bx.mono hBV.size)
  have HG4 : Hid (GS Bi Bc Bb G V (.slice (some ⟨g, 0, none⟩) L.length lc) L C S (W.alloc (Obj.cells #[.int .i64 x0, .int .i64 x1, .int .i64 x2] 77))) := HG.out.next Bx
  have HMK4 : Hid (Mk Bi Ds (W.alloc (Obj.cells #[.int .i64 x0, .int .i64 x1, .int .i64 x2] 77))) := ⟨HMK.out.1, fun d hd => ⟨(HMK.out.2 d hd).1, (Bx.block d (HMK.out.lt d hd)).trans (HMK.out.2 d hd).2⟩⟩
  have HAP4 : Hid (Apt (fun q => q < Bi ∨ q = w.heap.size ∨ q ∈ Ds ∨ q = W.heap.size) Bi Bc Bb G (.slice (some ⟨g, 0, none⟩) L.length lc) (W.alloc (Obj.cells #[.int .i64 x0, .int .i64 x1, .int .i64 x2] 77))) := by
    refine ⟨fun q hq => ?_, fun q e hq => ?_⟩
    · rcases hq with hq | hq | hq | hq
      · exact (HAP.out.next Bx.size).1 q (.inl hq)
      · exact (HAP.out.next Bx.size).1 q (.inr (.inl hq))
      · exact (HAP.out.next Bx.size).1 q (.inr (.inr hq))
      · subst hq; exact ⟨hXl, by omega, by omega, by omega, by omega⟩
    · rcases hq with hq | hq | hq | hq
      · exact HAP.out.2 q e (.inl hq)
      · exact HAP.out.2 q e (.inr (.inl hq))
      · exact HAP.out.2 q e (.inr (.inr hq))
      · have hq' : g = W.heap.size := by cases e; exact hq
        omega
  clear HG HMK HAP hc0 hg0 c0 c1 c2 hBw hBV Bx hg2
  generalize W.heap.size = X at *
  generalize W.alloc (Obj.cells #[.int .i64 x0, .int .i64 x1, .int .i64 x2] 77) = W4 at *
  have HVV := HV.out
  obtain ⟨hvb, _⟩ := id HVV
  obtain ⟨hVl, u0, u1, u2⟩ := hvb
  simp only at u0 u1 u2
  have HSI : Hid (∀ W', Below W4.heap.size W4 W' → (W'.cell? ⟨w.heap.size, 0, none⟩ = some (.pointer (some ⟨G, 0, none⟩)) ∧ W'.cell? ⟨G, 0, none⟩ = some (.pointer (some ⟨V, 0, none⟩)) ∧ W'.cell? ⟨V, 0, none⟩ = some (.slice ta f.terms.length tc) ∧ W'.cell? ⟨V, 1, none⟩ = some (.slice na f.nons.length nc) ∧ W'.cell? ⟨V, 2, none⟩ = some (.slice pa f.prods.length pc) ∧ W'.cell? ⟨X, 0, none⟩ = some (.int .i64 x0) ∧ W'.cell? ⟨X, 1, none⟩ = some (.int .i64 x1) ∧ W'.cell? ⟨X, 2, none⟩ = some (.int .i64 x2) ∧ Below W4.heap.size W4 W')) := fun W' hb => by
    have hbv := hBV4.trans (hb.mono hBV4.size)
    have hBs := hBw4.size
    exact ⟨(hb.cell (p := ⟨w.heap.size, 0, none⟩) (World.block_lt_of_cell? _ _ hc4)).trans hc4, (hb.cell (p := ⟨G, 0, none⟩) (World.block_lt_of_cell? _ _ hg4)).trans hg4, (hbv.cell (p := ⟨V, 0, none⟩) hVl).trans u0, (hbv.cell (p := ⟨V, 1, none⟩) hVl).trans u1, (hbv.cell (p := ⟨V, 2, none⟩) hVl).trans u2, (hb.cell (p := ⟨X, 0, none⟩) hXl).trans y0, (hb.cell (p := ⟨X, 1, none⟩) hXl).trans y1, (hb.cell (p := ⟨X, 2, none⟩) hXl).trans y2, hb⟩
  have HNX : Hid (∀ W', Below W4.heap.size W4 W' → Calls Tryz.prog 61 #[.agg #[.slice ta f.terms.length tc, .slice na f.nons.length nc, .slice pa f.prods.length pc], .agg #[.int .i64 x0, .int .i64 x1, .int .i64 x2]] W' fun e w' => e = .returned (.tuple #[.int .i64 ((nextI f (x0, x1, x2)).getD 0), .bool (nextI f (x0, x1, x2)).isSome]) ∧ Below W'.heap.size W' w') := fun W' hb => next_item f ⟨ta, tc, na, nc, pa, pc⟩ (x0, x1, x2) W' (HFA.out.next (hBV4.trans (hb.mono hBV4.size))) hn6
  obtain ⟨nx, hnx⟩ : ∃ nx, nextI f (x0, x1, x2) = nx := ⟨_, rfl⟩
  rw [hnx] at HNX
  have HNE : Hid (nextI f (x0, x1, x2) = nx) := hnx
  obtain ⟨nz, hnz⟩ : ∃ nz, nx.getD 0 = nz := ⟨_, rfl⟩
  obtain ⟨nb, hnb⟩ : ∃ nb, nx.isSome = nb := ⟨_, rfl⟩
  have HNZ : Hid (nx.getD 0 = nz ∧ nx.isSome = nb) := ⟨hnz, hnb⟩
  rw [hnz, hnb] at HNX
  clear hnx hnz hnb u0 u1 u2 hc4 hg4 y0 y1 y2 HVV
  have hS0 := HSI.out _ (Below.refl _ W4).drew
  refine wp_region_L (fun W => W.cell? ⟨w.heap.size, 0, none⟩ = some (.pointer (some ⟨G, 0, none⟩)) ∧ W.cell? ⟨G, 0, none⟩ = some (.pointer (some ⟨V, 0, none⟩)) ∧ W.cell? ⟨V, 0, none⟩ = some (.slice ta f.terms.length tc) ∧ W.cell? ⟨V, 1, none⟩ = some (.slice na f.nons.length nc) ∧ W.cell? ⟨V, 2, none⟩ = some (.slice pa f.prods.length pc) ∧ W.cell? ⟨X, 0, none⟩ = some (.int .i64 x0) ∧ W.cell? ⟨X, 1, none⟩ = some (.int .i64 x1) ∧ W.cell? ⟨X, 2, none⟩ = some (.int .i64 x2) ∧ Below W4.heap.size W4 W) 15 (by kernel_rfl) 15 rfl ?_
  refine wpAnyL_take' (i := 0) (v := ?_) (oi := ⟨some 25, .load 186 (.tmp 1), 186, "grower.go:46", #[], none⟩) rfl (by kernel_rfl) (by kernel_rfl) (by kernel_rfl) (by kernel_rfl) rfl (fun _ _ _ h => (And.left (show (∀ c, _ ≠ Exit.panic c) ∧ _ from h) _ rfl).elim) (Or.inl ⟨by rfl, ?_⟩) hS0 ?_
  rotate_left
  · intro W hSW
    go_simp
    try with_reducible rfl
  simp only [Act.put, sA, s0, sS]
  refine wpAnyL_take' (i := 1) (v := ?_) (oi := ⟨some 26, .nilCheck (.tmp 25), 0, "grower.go:46", #[⟨0, .data⟩], none⟩) rfl (by kernel_rfl) (by kernel_rfl) (by kernel_rfl) (by kernel_rfl) rfl (fun _ _ _ h => (And.left (show (∀ c, _ ≠ Exit.panic c) ∧ _ from h) _ rfl).elim) (Or.inl ⟨by rfl, ?_⟩) hS0 ?_
  rotate_left
  · intro W hSW
    go_simp
    try with_reducible rfl
  simp only [Act.put, sA, s0, sS]
  refine wpAnyL_take' (i := 2) (v := ?_) (oi := ⟨some 27, .fieldAddr 214 (.tmp 26) 0, 0, "grower.go:46", #[⟨1, .data⟩], none⟩) rfl (by kernel_rfl) (by kernel_rfl) (by kernel_rfl) (by kernel_rfl) rfl (fun _ _ _ h => (And.left (show (∀ c, _ ≠ Exit.panic c) ∧ _ from h) _ rfl).elim) (Or.inl ⟨by rfl, ?_⟩) hS0 ?_
  rotate_left
  · intro W hSW
    go_simp
    try with_reducible rfl
  simp only [Act.put, sA, s0, sS]
  refine wpAnyL_take' (i := 3) (v := ?_) (oi := ⟨some 28, .load 111 (.tmp 27), 111, "grower.go:46", #[⟨2, .data⟩], none⟩) rfl (by kernel_rfl) (by kernel_rfl) (by kernel_rfl) (by kernel_rfl) rfl (fun _ _ _ h => (And.left (show (∀ c, _ ≠ Exit.panic c) ∧ _ from h) _ rfl).elim) (Or.inl ⟨by rfl, ?_⟩) hS0 ?_
  rotate_left
  · intro W hSW
    go_simp
    try with_reducible rfl
  simp only [Act.put, sA, s0, sS]
  refine wpAnyL_take' (i := 4) (v := ?_) (oi := ⟨some 29, .nilCheck (.tmp 28), 0, "grower.go:46", #[⟨3, .data⟩], none⟩) rfl (by kernel_rfl) (by kernel_rfl) (by kernel_rfl) (by kernel_rfl) rfl (fun _ _ _ h => (And.left (show (∀ c, _ ≠ Exit.panic c) ∧ _ from h) _ rfl).elim) (Or.inl ⟨by rfl, ?_⟩) hS0 ?_
  rotate_left
  · intro W hSW
    go_simp
    try with_reducible rfl
  simp only [Act.put, sA, s0, sS]
  refine wpAnyL_take' (i := 5) (v := ?_) (oi := ⟨some 30, .fieldAddr 152 (.tmp 29) 0, 0, "grower.go:46", #[⟨4, .data⟩], none⟩) rfl (by kernel_rfl) (by kernel_rfl) (by kernel_rfl) (by kernel_rfl) rfl (fun _ _ _ h => (And.left (show (∀ c, _ ≠ Exit.panic c) ∧ _ from h) _ rfl).elim) (Or.inl ⟨by rfl, ?_⟩) hS0 ?_
  rotate_left
  · intro W hSW
    go_simp
    try with_reducible rfl
  simp only [Act.put, sA, s0, sS]
  refine wpAnyL_take' (i := 6) (v := ?_) (oi := ⟨some 31, .load 25 (.tmp 30), 25, "grower.go:46", #[⟨5, .data⟩], none⟩) rfl (by kernel_rfl) (by kernel_rfl) (by kernel_rfl) (by kernel_rfl) rfl (fun _ _ _ h => (And.left (show (∀ c, _ ≠ Exit.panic c) ∧ _ from h) _ rfl).elim) (Or.inl ⟨by rfl, ?_⟩) hS0 ?_
  rotate_left
  · intro W hSW
    go_simp
    try with_reducible rfl
  simp only [Act.put, sA, s0, sS]
  refine wpAnyL_take' (i := 7) (v := ?_) (oi := ⟨some 32, .load 77 (.tmp 4), 77, "grower.go:46", #[], none⟩) rfl (by kernel_rfl) (by kernel_rfl) (by kernel_rfl) (by kernel_rfl) rfl (fun _ _ _ h => (And.left (show (∀ c, _ ≠ Exit.panic c) ∧ _ from h) _ rfl).elim) (Or.inl ⟨by rfl, ?_⟩) hS0 ?_
  rotate_left
  · intro W hSW
    go_simp
    try with_reducible rfl
  simp only [Act.put, sA, s0, sS]
  refine wpAnyL_two (i := 8) (j := 12) (oi := ⟨some 33, .call ⟨.value (.func 61), #[.tmp 31, .tmp 32], #[25, 77]⟩, 78, "grower.go:46", #[⟨6, .data⟩, ⟨7, .data⟩], none⟩) (oj := ⟨some 5, .alloc 3, 0, "grower.go:46", #[], none⟩) (by kernel_rfl) rfl rfl rfl rfl (fun K hK => ?_) (fun K hK => ?_)
  · go_simp
    refine (HNX.out _ (Below.refl _ W4).drew).mono ?_
    rintro e W5 ⟨rfl, hb5⟩
    have B5 : Below W4.heap.size W4 W5 := below_then (Below.refl _ _).drew hb5 (Nat.le_refl _)
    have hS5 := HSI.out _ B5
    refine hK.out _ _ (fun _ => hS5) ?_
    clear hK
    refine wpAnyL_take' (i := 9) (v := ?_) (oi := ⟨some 24, .move (.tmp 33), 78, "grower.go:46", #[⟨8, .data⟩], none⟩) rfl (by kernel_rfl) (by kernel_rfl) (by kernel_rfl) (by kernel_rfl) rfl (fun _ _ _ h => (And.left (show (∀ c, _ ≠ Exit.panic c) ∧ _ from h) _ rfl).elim) (Or.inl ⟨by rfl, ?_⟩) hS5 ?_
    rotate_left
    · intro W hSW
      go_simp
      try with_reducible rfl
    simp only [Act.put, sA, s0, sS]
    refine wpAnyL_take' (i := 10) (v := ?_) (oi := ⟨some 34, .extract (.tmp 24) 0, 3, "grower.go:46", #[⟨9, .data⟩], none⟩) rfl (by kernel_rfl) (by kernel_rfl) (by kernel_rfl) (by kernel_rfl) rfl (fun _ _ _ h => (And.left (show (∀ c, _ ≠ Exit.panic c) ∧ _ from h) _ rfl).elim) (Or.inl ⟨by rfl, ?_⟩) hS5 ?_
    rotate_left
    · intro W hSW
      go_simp
      try with_reducible rfl
    simp only [Act.put, sA, s0, sS]
    refine wpAnyL_take' (i := 11) (v := ?_) (oi := ⟨some 35, .extract (.tmp 24) 1, 4, "grower.go:46", #[⟨9, .data⟩, ⟨13, .gcOnly .lateStores⟩], none⟩) rfl (by kernel_rfl) (by kernel_rfl) (by kernel_rfl) (by kernel_rfl) rfl (fun _ _ _ h => (And.left (show (∀ c, _ ≠ Exit.panic c) ∧ _ from h) _ rfl).elim) (Or.inl ⟨by rfl, ?_⟩) hS5 ?_
    rotate_left
    · intro W hSW
      go_simp
      try with_reducible rfl
    simp only [Act.put, sA, s0, sS]
    refine wpAnyL_one' (i := 12) (o := ⟨some 5, .alloc 3, 0, "grower.go:46", #[], none⟩) (by kernel_rfl) rfl rfl (fun K hK => ?_)
    go_simp
    have B6 : Below W4.heap.size W4 (W5.alloc (Obj.cells #[.int .i64 0] 3)) := B5.alloc B5.size _
    have hS6 := HSI.out _ B6
    refine hK.out _ _ (fun _ => hS6) ?_
    clear hK
    refine wpAnyL_one' (i := 13) (o := ⟨none, .store 3 (.tmp 5) (.tmp 34), 0, "grower.go:46", #[⟨12, .data⟩, ⟨10, .data⟩, ⟨8, .chain⟩, ⟨0, .phase⟩, ⟨1, .phase⟩, ⟨2, .phase⟩, ⟨3, .phase⟩, ⟨4, .phase⟩, ⟨5, .phase⟩, ⟨6, .phase⟩, ⟨7, .phase⟩, ⟨8, .phase⟩, ⟨9, .phase⟩, ⟨10, .phase⟩, ⟨11, .textOnly .lateStores⟩, ⟨12, .phase⟩], none⟩) (by kernel_rfl) rfl rfl (fun K hK => ?_)
    go_simp
    have B7 : Below W4.heap.size W4 (W5.alloc (Obj.cells #[.int .i64 nz] 3)) := B5.alloc B5.size _
    have hS7 := HSI.out _ B7
    refine hK.out _ _ (fun _ => hS7) ?_
    clear hK
    refine wpAnyL_one' (i := 14) (o := ⟨some 6, .assign (.tmp 35), 4, "grower.go:46", #[⟨11, .data⟩, ⟨13, .chain⟩, ⟨0, .phase⟩, ⟨1, .phase⟩, ⟨2, .phase⟩, ⟨3, .phase⟩, ⟨4, .phase⟩, ⟨5, .phase⟩, ⟨6, .phase⟩, ⟨7, .phase⟩, ⟨8, .phase⟩, ⟨9, .phase⟩, ⟨10, .phase⟩, ⟨11, .phase⟩, ⟨12, .phase⟩, ⟨13, .phase⟩], none⟩) (by kernel_rfl) rfl rfl (fun K hK => ?_)
    go_simp
    refine hK.out _ _ (fun _ => hS7) ?_
    clear hK
    refine wpAnyL_done (by kernel_rfl) ?_ _
    have hY7 := (IBox (.int .i64 nz) 3 W5).1
    have hYl := (IBox (.int .i64 nz) 3 W5).2.2
    have hYw : W4.heap.size ≤ W5.heap.size := B5.size
    clear hS5 hS6 hS7 B6 hb5 hS0
    generalize W5.alloc (Obj.cells #[.int .i64 nz] 3) = W6 at *
    generalize W5.heap.size = Y at *
    have HINV0 : Hid (∀ W6', Below W4.heap.size W4 W6' → GI f S0 L C S (k + 1) → GInv f S0 Bi Bc Bb G V w.heap.size w Ds (k + 1) L C S (.slice (some ⟨g, 0, none⟩) L.length lc) W6') := fun W6' hb hgi => ⟨HG4.out.next hb, hgi, ⟨fun q hq => (HAP4.out.next hb.size).1 q (hq.imp id (fun h => h.imp id .inl)), fun q e hq => HAP4.out.2 q e (hq.imp id (fun h => h.imp id .inl))⟩, ⟨HMK4.out.1, fun d hd => ⟨(HMK4.out.2 d hd).1, (hb.block d (HMK4.out.lt d hd)).trans (HMK4.out.2 d hd).2⟩⟩, (HSI.out _ hb).1, hBw4.trans (hb.mono (by have := hBw4.size; omega)), hLp⟩
    cases nx with
    | none =>
      obtain ⟨h1, h2⟩ := HNZ.out
      simp only [Option.getD_none, Option.isSome_none] at h1 h2
      subst h1 h2
      have HINV := HINV0.out _ B7.drew (HGI.out.1.skip HGI.out.2.1 (fun s q p hs => by rw [HNE.out] at hs; cases hs))
      have hS8 := B7.drew
      gi_wp2
      refine wpIn_wide.2 ?_
      refine wp_region_L (fun W => Below W4.heap.size W4 W) 16 (by kernel_rfl) 16 rfl ?_
      refine wpAnyL_take' (i := 0) (v := ?_) (oi := ⟨some 36, .move (.tmp 6), 4, "grower.go:47", #[], none⟩) rfl (by kernel_rfl) (by kernel_rfl) (by kernel_rfl) (by kernel_rfl) rfl (fun _ _ _ h => (And.left (show (∀ c, _ ≠ Exit.panic c) ∧ _ from h) _ rfl).elim) (Or.inl ⟨by rfl, ?_⟩) hS8 ?_
      rotate_left
      · intro W hSW
        go_simp
        try with_reducible rfl
      simp only [Act.put, sA, s0, sS]
      refine wpAnyL_take' (i := 1) (v := ?_) (oi := ⟨some 37, .unOp .not 4 (.tmp 36), 4, "grower.go:47", #[⟨0, .data⟩], none⟩) rfl (by kernel_rfl) (by kernel_rfl) (by kernel_rfl) (by kernel_rfl) rfl (fun _ _ _ h => (And.left (show (∀ c, _ ≠ Exit.panic c) ∧ _ from h) _ rfl).elim) (Or.inl ⟨by rfl, ?_⟩) hS8 ?_
      rotate_left
      · intro W hSW
        go_simp
        try with_reducible rfl
      simp only [Act.put, sA, s0, sS]
      refine wpAnyL_take' (i := 2) (v := ?_) (oi := ⟨some 38, .move (.tmp 37), 4, "grower.go:47", #[⟨1, .data⟩], none⟩) rfl (by kernel_rfl) (by kernel_rfl) (by kernel_rfl) (by kernel_rfl) rfl (fun _ _ _ h => (And.left (show (∀ c, _ ≠ Exit.panic c) ∧ _ from h) _ rfl).elim) (Or.inl ⟨by rfl, ?_⟩) hS8 ?_
      rotate_left
      · intro W hSW
        go_simp
        try with_reducible rfl
      simp only [Act.put, sA, s0, sS]
      refine wpAnyL_take' (i := 3) (v := undef) (oi := ⟨some 39, .load 186 (.tmp 1), 186, "grower.go:47", #[⟨2, .guard⟩], some (2, false)⟩) rfl (by kernel_rfl) (by kernel_rfl) (by kernel_rfl) (by kernel_rfl) rfl (fun _ _ _ h => (And.left (show (∀ c, _ ≠ Exit.panic c) ∧ _ from h) _ rfl).elim) (Or.inr ⟨by rfl, rfl⟩) hS8 ?_
      simp only [Act.put, sA, s0, sS]
      refine wpAnyL_take' (i := 4) (v := undef) (oi := ⟨some 40, .nilCheck (.tmp 39), 0, "grower.go:47", #[⟨3, .data⟩, ⟨2, .guard⟩], some (2, false)⟩) rfl (by kernel_rfl) (by kernel_rfl) (by kernel_rfl) (by kernel_rfl) rfl (fun _ _ _ h => (And.left (show (∀ c, _ ≠ Exit.panic c) ∧ _ from h) _ rfl).elim) (Or.inr ⟨by rfl, rfl⟩) hS8 ?_
      simp only [Act.put, sA, s0, sS]
      refine wpAnyL_take' (i := 5) (v := undef) (oi := ⟨some 41, .fieldAddr 214 (.tmp 40) 0, 0, "grower.go:47", #[⟨4, .data⟩, ⟨2, .guard⟩], some (2, false)⟩) rfl (by kernel_rfl) (by kernel_rfl) (by kernel_rfl) (by kernel_rfl) rfl (fun _ _ _ h => (And.left (show (∀ c, _ ≠ Exit.panic c) ∧ _ from h) _ rfl).elim) (Or.inr ⟨by rfl, rfl⟩) hS8 ?_
      simp only [Act.put, sA, s0, sS]
      refine wpAnyL_take' (i := 6) (v := undef) (oi := ⟨some 42, .load 111 (.tmp 41), 111, "grower.go:47", #[⟨5, .data⟩, ⟨2, .guard⟩], some (2, false)⟩) rfl (by kernel_rfl) (by kernel_rfl) (by kernel_rfl) (by kernel_rfl) rfl (fun _ _ _ h => (And.left (show (∀ c, _ ≠ Exit.panic c) ∧ _ from h) _ rfl).elim) (Or.inr ⟨by rfl, rfl⟩) hS8 ?_
      simp only [Act.put, sA, s0, sS]
      refine wpAnyL_take' (i := 7) (v := undef) (oi := ⟨some 43, .nilCheck (.tmp 42), 0, "grower.go:47", #[⟨6, .data⟩, ⟨2, .guard⟩], some (2, false)⟩) rfl (by kernel_rfl) (by kernel_rfl) (by kernel_rfl) (by kernel_rfl) rfl (fun _ _ _ h => (And.left (show (∀ c, _ ≠ Exit.panic c) ∧ _ from h) _ rfl).elim) (Or.inr ⟨by rfl, rfl⟩) hS8 ?_
      simp only [Act.put, sA, s0, sS]
      refine wpAnyL_take' (i := 8) (v := undef) (oi := ⟨some 44, .fieldAddr 152 (.tmp 43) 3, 0, "grower.go:47", #[⟨7, .data⟩, ⟨2, .guard⟩], some (2, false)⟩) rfl (by kernel_rfl) (by kernel_rfl) (by kernel_rfl) (by kernel_rfl) rfl (fun _ _ _ h => (And.left (show (∀ c, _ ≠ Exit.panic c) ∧ _ from h) _ rfl).elim) (Or.inr ⟨by rfl, rfl⟩) hS8 ?_
      simp only [Act.put, sA, s0, sS]
      refine wpAnyL_take' (i := 9) (v := undef) (oi := ⟨some 45, .load 149 (.tmp 44), 149, "grower.go:47", #[⟨8, .data⟩, ⟨2, .guard⟩], some (2, false)⟩) rfl (by kernel_rfl) (by kernel_rfl) (by kernel_rfl) (by kernel_rfl) rfl (fun _ _ _ h => (And.left (show (∀ c, _ ≠ Exit.panic c) ∧ _ from h) _ rfl).elim) (Or.inr ⟨by rfl, rfl⟩) hS8 ?_
      simp only [Act.put, sA, s0, sS]
      refine wpAnyL_take' (i := 10) (v := undef) (oi := ⟨some 46, .load 3 (.tmp 5), 3, "grower.go:47", #[⟨2, .guard⟩], some (2, false)⟩) rfl (by kernel_rfl) (by kernel_rfl) (by kernel_rfl) (by kernel_rfl) rfl (fun _ _ _ h => (And.left (show (∀ c, _ ≠ Exit.panic c) ∧ _ from h) _ rfl).elim) (Or.inr ⟨by rfl, rfl⟩) hS8 ?_
      simp only [Act.put, sA, s0, sS]
      refine wpAnyL_take' (i := 11) (v := undef) (oi := ⟨some 47, .indexAddr 149 (.tmp 45) (.tmp 46), 0, "grower.go:47", #[⟨9, .data⟩, ⟨10, .data⟩, ⟨2, .guard⟩], some (2, false)⟩) rfl (by kernel_rfl) (by kernel_rfl) (by kernel_rfl) (by kernel_rfl) rfl (fun _ _ _ h => (And.left (show (∀ c, _ ≠ Exit.panic c) ∧ _ from h) _ rfl).elim) (Or.inr ⟨by rfl, rfl⟩) hS8 ?_
      simp only [Act.put, sA, s0, sS]
      refine wpAnyL_take' (i := 12) (v := undef) (oi := ⟨some 48, .load 43 (.tmp 47), 43, "grower.go:47", #[⟨11, .data⟩, ⟨2, .guard⟩], some (2, false)⟩) rfl (by kernel_rfl) (by kernel_rfl) (by kernel_rfl) (by kernel_rfl) rfl (fun _ _ _ h => (And.left (show (∀ c, _ ≠ Exit.panic c) ∧ _ from h) _ rfl).elim) (Or.inr ⟨by rfl, rfl⟩) hS8 ?_
      simp only [Act.put, sA, s0, sS]
      refine wpAnyL_take' (i := 13) (v := undef) (oi := ⟨some 49, .call ⟨.builtin .len, #[.tmp 48], #[43]⟩, 3, "grower.go:47", #[⟨12, .data⟩, ⟨2, .guard⟩], some (2, false)⟩) rfl (by kernel_rfl) (by kernel_rfl) (by kernel_rfl) (by kernel_rfl) rfl (fun _ _ _ h => (And.left (show (∀ c, _ ≠ Exit.panic c) ∧ _ from h) _ rfl).elim) (Or.inr ⟨by rfl, rfl⟩) hS8 ?_
      simp only [Act.put, sA, s0, sS]
      refine wpAnyL_take' (i := 14) (v := undef) (oi := ⟨some 50, .binOp .eql 3 (.tmp 49) (.const (.int .i64 0)) 3, 4, "grower.go:47", #[⟨13, .data⟩, ⟨2, .guard⟩], some (2, false)⟩) rfl (by kernel_rfl) (by kernel_rfl) (by kernel_rfl) (by kernel_rfl) rfl (fun _ _ _ h => (And.left (show (∀ c, _ ≠ Exit.panic c) ∧ _ from h) _ rfl).elim) (Or.inr ⟨by rfl, rfl⟩) hS8 ?_
      simp only [Act.put, sA, s0, sS]
      refine wpAnyL_take' (i := 15) (v := ?_) (oi := ⟨some 51, .pick (.tmp 38) (.const (.bool true)) (.tmp 50), 4, "grower.go:47", #[⟨2, .data⟩, ⟨14, .data⟩], none⟩) rfl (by kernel_rfl) (by kernel_rfl) (by kernel_rfl) (by kernel_rfl) rfl (fun _ _ _ h => (And.left (show (∀ c, _ ≠ Exit.panic c) ∧ _ from h) _ rfl).elim) (Or.inl ⟨by rfl, ?_⟩) hS8 ?_
      rotate_left
      · intro W hSW
        go_simp
        try with_reducible rfl
      simp only [Act.put, sA, s0, sS]
      refine wpAnyL_done (by kernel_rfl) ?_ _
      gi_wp2
      exact ⟨maxI + 1 - (k + 1), by unfold maxI; omega, _, _, _, _, _, _, _, _, _, _, _, _, _, _, _, _, _, _, _, _, _, _, _, _, _, _, _, _, _, _, _, _, _, _, _, _, _, _, _, _, _, _, _, _, _, _, _, _, _, _, _, _, _, _, _, _, _, Ds, k + 1, L, C, S, _, rfl, rfl, HINV⟩
    | some z =>
      obtain ⟨h1, h2⟩ := HNZ.out
      simp only [Option.getD_some, Option.isSome_some] at h1 h2
      subst h1 h2
      have hzl := nextI_lt HFP.out HNE.out
      obtain ⟨s, rfl⟩ : ∃ s : Nat, z = s := ⟨z.toNat, by omega⟩
      have hs : s < f.n := by omega
      have hsI : (s : Int) < f.n := by omega
      obtain ⟨_, ve, vf, vp, v3, v4, v5, v6, v7, v8⟩ := HV.out
      obtain ⟨pa', pc', rfl, hrows, _⟩ := v8
      rw [ofsL_len] at v5
      obtain ⟨pb, po, u, rfl, hpb, hrc, hru⟩ := hrows s _ (ofsL_get hs)
      obtain ⟨PL, hPL⟩ : ∃ PL, ofA f (s : Int) = PL := ⟨_, rfl⟩
      rw [hPL] at hru
      obtain ⟨ra, rc, rfl, hrow, _⟩ := hru
      have HS6 : Hid (∀ W', Below W4.heap.size W4 W' → W'.cell? ⟨Y, 0, none⟩ = some (.int .i64 s) → (W'.cell? ⟨w.heap.size, 0, none⟩ = some (.pointer (some ⟨G, 0, none⟩)) ∧ W'.cell? ⟨G, 0, none⟩ = some (.pointer (some ⟨V, 0, none⟩)) ∧ W'.cell? ⟨V, 5, none⟩ = some (.slice (some ⟨pb, po, none⟩) f.n pc') ∧ W'.cell? ⟨pb, po + s, none⟩ = some (.slice ra PL.length rc) ∧ W'.cell? ⟨Y, 0, none⟩ = some (.int .i64 s))) := fun W' hb hy => by
        have hbv := hBV4.trans (hb.mono hBV4.size)
        have h5 := HSI.out _ hb
        exact ⟨h5.1, h5.2.1, (hbv.cell (p := ⟨V, 5, none⟩) hVl).trans v5, (hbv.cell (p := ⟨pb, po + s, none⟩) hpb).trans hrc, hy⟩
      have hS8 := HS6.out W6.drew B7.drew hY7
      have HPL : Hid (ofA f (s : Int) = PL) := hPL
      clear hPL hrows hrow hrc v3 v4 v5 v6 v7
      rcases Nat.eq_zero_or_pos PL.length with hP0 | hP0
      · have HINV := HINV0.out _ B7.drew (HGI.out.1.skip HGI.out.2.1 (fun s' q p hs' hq hl => by
          rw [HNE.out] at hs'
          cases hs'
          have hm : (q : Int) ∈ ofA f (s : Int) := mem_ofA.2 ⟨q, p, rfl, hq, hl⟩
          rw [HPL.out, List.eq_nil_of_length_eq_zero hP0] at hm
          cases hm))
        have hP1 : ((PL.length : Int) == 0) = true := by rw [hP0]; rfl
        gi_wp2
        refine wpIn_wide.2 ?_
        refine wp_region_L (fun W => W.cell? ⟨w.heap.size, 0, none⟩ = some (.pointer (some ⟨G, 0, none⟩)) ∧ W.cell? ⟨G, 0, none⟩ = some (.pointer (some ⟨V, 0, none⟩)) ∧ W.cell? ⟨V, 5, none⟩ = some (.slice (some ⟨pb, po, none⟩) f.n pc') ∧ W.cell? ⟨pb, po + s, none⟩ = some (.slice ra PL.length rc) ∧ W.cell? ⟨Y, 0, none⟩ = some (.int .i64 s)) 16 (by kernel_rfl) 16 rfl ?_
        refine wpAnyL_take' (i := 0) (v := ?_) (oi := ⟨some 36, .move (.tmp 6), 4, "grower.go:47", #[], none⟩) rfl (by kernel_rfl) (by kernel_rfl) (by kernel_rfl) (by kernel_rfl) rfl (fun _ _ _ h => (And.left (show (∀ c, _ ≠ Exit.panic c) ∧ _ from h) _ rfl).elim) (Or.inl ⟨by rfl, ?_⟩) hS8 ?_
        rotate_left
        · intro W hSW
          go_simp
          try with_reducible rfl
        simp only [Act.put, sA, s0, sS]
        refine wpAnyL_take' (i := 1) (v := ?_) (oi := ⟨some 37, .unOp .not 4 (.tmp 36), 4, "grower.go:47", #[⟨0, .data⟩], none⟩) rfl (by kernel_rfl) (by kernel_rfl) (by kernel_rfl) (by kernel_rfl) rfl (fun _ _ _ h => (And.left (show (∀ c, _ ≠ Exit.panic c) ∧ _ from h) _ rfl).elim) (Or.inl ⟨by rfl, ?_⟩) hS8 ?_
        rotate_left
        · intro W hSW
          go_simp
          try with_reducible rfl
        simp only [Act.put, sA, s0, sS]
        refine wpAnyL_take' (i := 2) (v := ?_) (oi := ⟨some 38, .move (.tmp 37), 4, "grower.go:47", #[⟨1, .data⟩], none⟩) rfl (by kernel_rfl) (by kernel_rfl) (by kernel_rfl) (by kernel_rfl) rfl (fun _ _ _ h => (And.left (show (∀ c, _ ≠ Exit.panic c) ∧ _ from h) _ rfl).elim) (Or.inl ⟨by rfl, ?_⟩) hS8 ?_
        rotate_left
        · intro W hSW
          go_simp
          try with_reducible rfl
        simp only [Act.put, sA, s0, sS]
        refine wpAnyL_take' (i := 3) (v := ?_) (oi := ⟨some 39, .load 186 (.tmp 1), 186, "grower.go:47", #[⟨2, .guard⟩], some (2, false)⟩) rfl (by kernel_rfl) (by kernel_rfl) (by kernel_rfl) (by kernel_rfl) rfl (fun _ _ _ h => (And.left (show (∀ c, _ ≠ Exit.panic c) ∧ _ from h) _ rfl).elim) (Or.inl ⟨by rfl, ?_⟩) hS8 ?_
        rotate_left
        · intro W hSW
          go_simp
          try with_reducible rfl
        simp only [Act.put, sA, s0, sS]
        refine wpAnyL_take' (i := 4) (v := ?_) (oi := ⟨some 40, .nilCheck (.tmp 39), 0, "grower.go:47", #[⟨3, .data⟩, ⟨2, .guard⟩], some (2, false)⟩) rfl (by kernel_rfl) (by kernel_rfl) (by kernel_rfl) (by kernel_rfl) rfl (fun _ _ _ h => (And.left (show (∀ c, _ ≠ Exit.panic c) ∧ _ from h) _ rfl).elim) (Or.inl ⟨by rfl, ?_⟩) hS8 ?_
        rotate_left
        · intro W hSW
          go_simp
          try with_reducible rfl
        simp only [Act.put, sA, s0, sS]
        refine wpAnyL_take' (i := 5) (v := ?_) (oi := ⟨some 41, .fieldAddr 214 (.tmp 40) 0, 0, "grower.go:47", #[⟨4, .data⟩, ⟨2, .guard⟩], some (2, false)⟩) rfl (by kernel_rfl) (by kernel_rfl) (by kernel_rfl) (by kernel_rfl) rfl (fun _ _ _ h => (And.left (show (∀ c, _ ≠ Exit.panic c) ∧ _ from h) _ rfl).elim) (Or.inl ⟨by rfl, ?_⟩) hS8 ?_
        rotate_left
        · intro W hSW
          go_simp
          try with_reducible rfl
        simp only [Act.put, sA, s0, sS]
        refine wpAnyL_take' (i := 6) (v := ?_) (oi := ⟨some 42, .load 111 (.tmp 41), 111, "grower.go:47", #[⟨5, .data⟩, ⟨2, .guard⟩], some (2, false)⟩) rfl (by kernel_rfl) (by kernel_rfl) (by kernel_rfl) (by kernel_rfl) rfl (fun _ _ _ h => (And.left (show (∀ c, _ ≠ Exit.panic c) ∧ _ from h) _ rfl).elim) (Or.inl ⟨by rfl, ?_⟩) hS8 ?_
        rotate_left
        · intro W hSW
          go_simp
          try with_reducible rfl
        simp only [Act.put, sA, s0, sS]
        refine wpAnyL_take' (i := 7) (v := ?_) (oi := ⟨some 43, .nilCheck (.tmp 42), 0, "grower.go:47", #[⟨6, .data⟩, ⟨2, .guard⟩], some (2, false)⟩) rfl (by kernel_rfl) (by kernel_rfl) (by kernel_rfl) (by kernel_rfl) rfl (fun _ _ _ h => (And.left (show (∀ c, _ ≠ Exit.panic c) ∧ _ from h) _ rfl).elim) (Or.inl ⟨by rfl, ?_⟩) hS8 ?_
        rotate_left
        · intro W hSW
          go_simp
          try with_reducible rfl
        simp only [Act.put, sA, s0, sS]
        refine wpAnyL_take' (i := 8) (v := ?_) (oi := ⟨some 44, .fieldAddr 152 (.tmp 43) 3, 0, "grower.go:47", #[⟨7, .data⟩, ⟨2, .guard⟩], some (2, false)⟩) rfl (by kernel_rfl) (by kernel_rfl) (by kernel_rfl) (by kernel_rfl) rfl (fun _ _ _ h => (And.left (show (∀ c, _ ≠ Exit.panic c) ∧ _ from h) _ rfl).elim) (Or.inl ⟨by rfl, ?_⟩) hS8 ?_
        rotate_left
        · intro W hSW
          go_simp
          try with_reducible rfl
        simp only [Act.put, sA, s0, sS]
        refine wpAnyL_take' (i := 9) (v := ?_) (oi := ⟨some 45, .load 149 (.tmp 44), 149, "grower.go:47", #[⟨8, .data⟩, ⟨2, .guard⟩], some (2, false)⟩) rfl (by kernel_rfl) (by kernel_rfl) (by kernel_rfl) (by kernel_rfl) rfl (fun _ _ _ h => (And.left (show (∀ c, _ ≠ Exit.panic c) ∧ _ from h) _ rfl).elim) (Or.inl ⟨by rfl, ?_⟩) hS8 ?_
        rotate_left
        · intro W hSW
          go_simp
          try with_reducible rfl
        simp only [Act.put, sA, s0, sS]
        refine wpAnyL_take' (i := 10) (v := ?_) (oi := ⟨some 46, .load 3 (.tmp 5), 3, "grower.go:47", #[⟨2, .guard⟩], some (2, false)⟩) rfl (by kernel_rfl) (by kernel_rfl) (by kernel_rfl) (by kernel_rfl) rfl (fun _ _ _ h => (And.left (show (∀ c, _ ≠ Exit.panic c) ∧ _ from h) _ rfl).elim) (Or.inl ⟨by rfl, ?_⟩) hS8 ?_
        rotate_left
        · intro W hSW
          go_simp
          try with_reducible rfl
        simp only [Act.put, sA, s0, sS]
        refine wpAnyL_take' (i := 11) (v := ?_) (oi := ⟨some 47, .indexAddr 149 (.tmp 45) (.tmp 46), 0, "grower.go:47", #[⟨9, .data⟩, ⟨10, .data⟩, ⟨2, .guard⟩], some (2, false)⟩) rfl (by kernel_rfl) (by kernel_rfl) (by kernel_rfl) (by kernel_rfl) rfl (fun _ _ _ h => (And.left (show (∀ c, _ ≠ Exit.panic c) ∧ _ from h) _ rfl).elim) (Or.inl ⟨by rfl, ?_⟩) hS8 ?_
        rotate_left
        · intro W hSW
          go_simp
          try with_reducible rfl
        simp only [Act.put, sA, s0, sS]
        refine wpAnyL_take' (i := 12) (v := ?_) (oi := ⟨some 48, .load 43 (.tmp 47), 43, "grower.go:47", #[⟨11, .data⟩, ⟨2, .guard⟩], some (2, false)⟩) rfl (by kernel_rfl) (by kernel_rfl) (by kernel_rfl) (by kernel_rfl) rfl (fun _ _ _ h => (And.left (show (∀ c, _ ≠ Exit.panic c) ∧ _ from h) _ rfl).elim) (Or.inl ⟨by rfl, ?_⟩) hS8 ?_
        rotate_left
        · intro W hSW
          go_simp
          try with_reducible rfl
        simp only [Act.put, sA, s0, sS]
        refine wpAnyL_take' (i := 13) (v := ?_) (oi := ⟨some 49, .call ⟨.builtin .len, #[.tmp 48], #[43]⟩, 3, "grower.go:47", #[⟨12, .data⟩, ⟨2, .guard⟩], some (2, false)⟩) rfl (by kernel_rfl) (by kernel_rfl) (by kernel_rfl) (by kernel_rfl) rfl (fun _ _ _ h => (And.left (show (∀ c, _ ≠ Exit.panic c) ∧ _ from h) _ rfl).elim) (Or.inl ⟨by rfl, ?_⟩) hS8 ?_
        rotate_left
        · intro W hSW
          go_simp
          try with_reducible rfl
        simp only [Act.put, sA, s0, sS]
        refine wpAnyL_take' (i := 14) (v := ?_) (oi := ⟨some 50, .binOp .eql 3 (.tmp 49) (.const (.int .i64 0)) 3, 4, "grower.go:47", #[⟨13, .data⟩, ⟨2, .guard⟩], some (2, false)⟩) rfl (by kernel_rfl) (by kernel_rfl) (by kernel_rfl) (by kernel_rfl) rfl (fun _ _ _ h => (And.left (show (∀ c, _ ≠ Exit.panic c) ∧ _ from h) _ rfl).elim) (Or.inl ⟨by rfl, ?_⟩) hS8 ?_
        rotate_left
        · intro W hSW
          go_simp
          try with_reducible rfl
        simp only [Act.put, sA, s0, sS]
        refine wpAnyL_take' (i := 15) (v := ?_) (oi := ⟨some 51, .pick (.tmp 38) (.const (.bool true)) (.tmp 50), 4, "grower.go:47", #[⟨2, .data⟩, ⟨14, .data⟩], none⟩) rfl (by kernel_rfl) (by kernel_rfl) (by kernel_rfl) (by kernel_rfl) rfl (fun _ _ _ h => (And.left (show (∀ c, _ ≠ Exit.panic c) ∧ _ from h) _ rfl).elim) (Or.inl ⟨by rfl, ?_⟩) hS8 ?_
        rotate_left
        · intro W hSW
          go_simp
          try with_reducible rfl
        simp only [Act.put, sA, s0, sS]
        refine wpAnyL_done (by kernel_rfl) ?_ _
        gi_wp2
        exact ⟨maxI + 1 - (k + 1), by unfold maxI; omega, _, _, _, _, _, _, _, _, _, _, _, _, _, _, _, _, _, _, _, _, _, _, _, _, _, _, _, _, _, _, _, _, _, _, _, _, _, _, _, _, _, _, _, _, _, _, _, _, _, _, _, _, _, _, _, _, _, Ds, k + 1, L, C, S, _, rfl, rfl, HINV⟩
      · have hP1 : ((PL.length : Int) == 0) = false := beq_eq_false_iff_ne.2 (by omega)
        gi_wp2
        refine wpIn_wide.2 ?_
        refine wp_region_L (fun W => W.cell? ⟨w.heap.size, 0, none⟩ = some (.pointer (some ⟨G, 0, none⟩)) ∧ W.cell? ⟨G, 0, none⟩ = some (.pointer (some ⟨V, 0, none⟩)) ∧ W.cell? ⟨V, 5, none⟩ = some (.slice (some ⟨pb, po, none⟩) f.n pc') ∧ W.cell? ⟨pb, po + s, none⟩ = some (.slice ra PL.length rc) ∧ W.cell? ⟨Y, 0, none⟩ = some (.int .i64 s)) 16 (by kernel_rfl) 16 rfl ?_
        refine wpAnyL_take' (i := 0) (v := ?_) (oi := ⟨some 36, .move (.tmp 6), 4, "grower.go:47", #[], none⟩) rfl (by kernel_rfl) (by kernel_rfl) (by kernel_rfl) (by kernel_rfl) rfl (fun _ _ _ h => (And.left (show (∀ c, _ ≠ Exit.panic c) ∧ _ from h) _ rfl).elim) (Or.inl ⟨by rfl, ?_⟩) hS8 ?_
        rotate_left
        · intro W hSW
          go_simp
          try with_reducible rfl
        simp only [Act.put, sA, s0, sS]
        refine wpAnyL_take' (i := 1) (v := ?_) (oi := ⟨some 37, .unOp .not 4 (.tmp 36), 4, "grower.go:47", #[⟨0, .data⟩], none⟩) rfl (by kernel_rfl) (by kernel_rfl) (by kernel_rfl) (by kernel_rfl) rfl (fun _ _ _ h => (And.left (show (∀ c, _ ≠ Exit.panic c) ∧ _ from h) _ rfl).elim) (Or.inl ⟨by rfl, ?_⟩) hS8 ?_
        rotate_left
        · intro W hSW
          go_simp
          try with_reducible rfl
        simp only [Act.put, sA, s0, sS]
        refine wpAnyL_take' (i := 2) (v := ?_) (oi := ⟨some 38, .move (.tmp 37), 4, "grower.go:47", #[⟨1, .data⟩], none⟩) rfl (by kernel_rfl) (by kernel_rfl) (by kernel_rfl) (by kernel_rfl) rfl (fun _ _ _ h => (And.left (show (∀ c, _ ≠ Exit.panic c) ∧ _ from h) _ rfl).elim) (Or.inl ⟨by rfl, ?_⟩) hS8 ?_
        rotate_left
        · intro W hSW
          go_simp
          try with_reducible rfl
        simp only [Act.put, sA, s0, sS]
        refine wpAnyL_take' (i := 3) (v := ?_) (oi := ⟨some 39, .load 186 (.tmp 1), 186, "grower.go:47", #[⟨2, .guard⟩], some (2, false)⟩) rfl (by kernel_rfl) (by kernel_rfl) (by kernel_rfl) (by kernel_rfl) rfl (fun _ _ _ h => (And.left (show (∀ c, _ ≠ Exit.panic c) ∧ _ from h) _ rfl).elim) (Or.inl ⟨by rfl, ?_⟩) hS8 ?_
        rotate_left
        · intro W hSW
          go_simp
          try with_reducible rfl
        simp only [Act.put, sA, s0, sS]
        refine wpAnyL_take' (i := 4) (v := ?_) (oi := ⟨some 40, .nilCheck (.tmp 39), 0, "grower.go:47", #[⟨3, .data⟩, ⟨2, .guard⟩], some (2, false)⟩) rfl (by kernel_rfl) (by kernel_rfl) (by kernel_rfl) (by kernel_rfl) rfl (fun _ _ _ h => (And.left (show (∀ c, _ ≠ Exit.panic c) ∧ _ from h) _ rfl).elim) (Or.inl ⟨by rfl, ?_⟩) hS8 ?_
        rotate_left
        · intro W hSW
          go_simp
          try with_reducible rfl
        simp only [Act.put, sA, s0, sS]
        refine wpAnyL_take' (i := 5) (v := ?_) (oi := ⟨some 41, .fieldAddr 214 (.tmp 40) 0, 0, "grower.go:47", #[⟨4, .data⟩, ⟨2, .guard⟩], some (2, false)⟩) rfl (by kernel_rfl) (by kernel_rfl) (by kernel_rfl) (by kernel_rfl) rfl (fun _ _ _ h => (And.left (show (∀ c, _ ≠ Exit.panic c) ∧ _ from h) _ rfl).elim) (Or.inl ⟨by rfl, ?_⟩) hS8 ?_
        rotate_left
        · intro W hSW
          go_simp
          try with_reducible rfl
        simp only [Act.put, sA, s0, sS]
        refine wpAnyL_take' (i := 6) (v := ?_) (oi := ⟨some 42, .load 111 (.tmp 41), 111, "grower.go:47", #[⟨5, .data⟩, ⟨2, .guard⟩], some (2, false)⟩) rfl (by kernel_rfl) (by kernel_rfl) (by kernel_rfl) (by kernel_rfl) rfl (fun _ _ _ h => (And.left (show (∀ c, _ ≠ Exit.panic c) ∧ _ from h) _ rfl).elim) (Or.inl ⟨by rfl, ?_⟩) hS8 ?_
        rotate_left
        · intro W hSW
          go_simp
          try with_reducible rfl
        simp only [Act.put, sA, s0, sS]
        refine wpAnyL_take' (i := 7) (v := ?_) (oi := ⟨some 43, .nilCheck (.tmp 42), 0, "grower.go:47", #[⟨6, .data⟩, ⟨2, .guard⟩], some (2, false)⟩) rfl (by kernel_rfl) (by kernel_rfl) (by kernel_rfl) (by kernel_rfl) rfl (fun _ _ _ h => (And.left (show (∀ c, _ ≠ Exit.panic c) ∧ _ from h) _ rfl).elim) (Or.inl ⟨by rfl, ?_⟩) hS8 ?_
        rotate_left
        · intro W hSW
          go_simp
          try with_reducible rfl
        simp only [Act.put, sA, s0, sS]
        refine wpAnyL_take' (i := 8) (v := ?_) (oi := ⟨some 44, .fieldAddr 152 (.tmp 43) 3, 0, "grower.go:47", #[⟨7, .data⟩, ⟨2, .guard⟩], some (2, false)⟩) rfl (by kernel_rfl) (by kernel_rfl) (by kernel_rfl) (by kernel_rfl) rfl (fun _ _ _ h => (And.left (show (∀ c, _ ≠ Exit.panic c) ∧ _ from h) _ rfl).elim) (Or.inl ⟨by rfl, ?_⟩) hS8 ?_
        rotate_left
        · intro W hSW
          go_simp
          try with_reducible rfl
        simp only [Act.put, sA, s0, sS]
        refine wpAnyL_take' (i := 9) (v := ?_) (oi := ⟨some 45, .load 149 (.tmp 44), 149, "grower.go:47", #[⟨8, .data⟩, ⟨2, .guard⟩], some (2, false)⟩) rfl (by kernel_rfl) (by kernel_rfl) (by kernel_rfl) (by kernel_rfl) rfl (fun _ _ _ h => (And.left (show (∀ c, _ ≠ Exit.panic c) ∧ _ from h) _ rfl).elim) (Or.inl ⟨by rfl, ?_⟩) hS8 ?_
        rotate_left
        · intro W hSW
          go_simp
          try with_reducible rfl
        simp only [Act.put, sA, s0, sS]
        refine wpAnyL_take' (i := 10) (v := ?_) (oi := ⟨some 46, .load 3 (.tmp 5), 3, "grower.go:47", #[⟨2, .guard⟩], some (2, false)⟩) rfl (by kernel_rfl) (by kernel_rfl) (by kernel_rfl) (by kernel_rfl) rfl (fun _ _ _ h => (And.left (show (∀ c, _ ≠ Exit.panic c) ∧ _ from h) _ rfl).elim) (Or.inl ⟨by rfl, ?_⟩) hS8 ?_
        rotate_left
        · intro W hSW
          go_simp
          try with_reducible rfl
        simp only [Act.put, sA, s0, sS]
        refine wpAnyL_take' (i := 11) (v := ?_) (oi := ⟨some 47, .indexAddr 149 (.tmp 45) (.tmp 46), 0, "grower.go:47", #[⟨9, .data⟩, ⟨10, .data⟩, ⟨2, .guard⟩], some (2, false)⟩) rfl (by kernel_rfl) (by kernel_rfl) (by kernel_rfl) (by kernel_rfl) rfl (fun _ _ _ h => (And.left (show (∀ c, _ ≠ Exit.panic c) ∧ _ from h) _ rfl).elim) (Or.inl ⟨by rfl, ?_⟩) hS8 ?_
        rotate_left
        · intro W hSW
          go_simp
          try with_reducible rfl
        simp only [Act.put, sA, s0, sS]
        refine wpAnyL_take' (i := 12) (v := ?_) (oi := ⟨some 48, .load 43 (.tmp 47), 43, "grower.go:47", #[⟨11, .data⟩, ⟨2, .guard⟩], some (2, false)⟩) rfl (by kernel_rfl) (by kernel_rfl) (by kernel_rfl) (by kernel_rfl) rfl (fun _ _ _ h => (And.left (show (∀ c, _ ≠ Exit.panic c) ∧ _ from h) _ rfl).elim) (Or.inl ⟨by rfl, ?_⟩) hS8 ?_
        rotate_left
        · intro W hSW
          go_simp
          try with_reducible rfl
        simp only [Act.put, sA, s0, sS]
        refine wpAnyL_take' (i := 13) (v := ?_) (oi := ⟨some 49, .call ⟨.builtin .len, #[.tmp 48], #[43]⟩, 3, "grower.go:47", #[⟨12, .data⟩, ⟨2, .guard⟩], some (2, false)⟩) rfl (by kernel_rfl) (by kernel_rfl) (by kernel_rfl) (by kernel_rfl) rfl (fun _ _ _ h => (And.left (show (∀ c, _ ≠ Exit.panic c) ∧ _ from h) _ rfl).elim) (Or.inl ⟨by rfl, ?_⟩) hS8 ?_
        rotate_left
        · intro W hSW
          go_simp
          try with_reducible rfl
        simp only [Act.put, sA, s0, sS]
        refine wpAnyL_take' (i := 14) (v := ?_) (oi := ⟨some 50, .binOp .eql 3 (.tmp 49) (.const (.int .i64 0)) 3, 4, "grower.go:47", #[⟨13, .data⟩, ⟨2, .guard⟩], some (2, false)⟩) rfl (by kernel_rfl) (by kernel_rfl) (by kernel_rfl) (by kernel_rfl) rfl (fun _ _ _ h => (And.left (show (∀ c, _ ≠ Exit.panic c) ∧ _ from h) _ rfl).elim) (Or.inl ⟨by rfl, ?_⟩) hS8 ?_
        rotate_left
        · intro W hSW
          go_simp
          try with_reducible rfl
        simp only [Act.put, sA, s0, sS]
        refine wpAnyL_take' (i := 15) (v := ?_) (oi := ⟨some 51, .pick (.tmp 38) (.const (.bool true)) (.tmp 50), 4, "grower.go:47", #[⟨2, .data⟩, ⟨14, .data⟩], none⟩) rfl (by kernel_rfl) (by kernel_rfl) (by kernel_rfl) (by kernel_rfl) rfl (fun _ _ _ h => (And.left (show (∀ c, _ ≠ Exit.panic c) ∧ _ from h) _ rfl).elim) (Or.inl ⟨by rfl, ?_⟩) hS8 ?_
        rotate_left
        · intro W hSW
          go_simp
          try with_reducible rfl
        simp only [Act.put, sA, s0, sS]
        refine wpAnyL_done (by kernel_rfl) ?_ _
        have B8 := B7.drew
        have hY8 : W6.drew.cell? ⟨Y, 0, none⟩ = some (.int .i64 s) := hY7
        have hYl8 : Y < W6.drew.heap.size := hYl
        have HLK := looks_any G (x0, x1, x2) W6.drew
        unfold valR at HLK
        simp only at HLK
        have c08 := (HSI.out _ B8).1
        have y08 := (HSI.out _ B8).2.2.2.2.2.1
        have y18 := (HSI.out _ B8).2.2.2.2.2.2.1
        have y28 := (HSI.out _ B8).2.2.2.2.2.2.2.1
        generalize W6.drew = Wd at *
        gi_wp2_with fail
        refine ⟨trivial, fun _ => by omega, ?_⟩
        refine (callsIn_wide.2 HLK).mono ?_
        rintro e W7 ⟨rfl, ty7, rfl⟩
        have B9 : Below W4.heap.size W4 ((Wd.alloc (Obj.cells #[.pointer (some ⟨G, 0, none⟩)] ty7)).alloc (Obj.cells #[.int .i64 x0, .int .i64 x1, .int .i64 x2] 77)) := (B8.alloc B8.size _).alloc (by have := B8.size; simp; omega) _
        have k1 : ((Wd.alloc (Obj.cells #[.pointer (some ⟨G, 0, none⟩)] ty7)).alloc (Obj.cells #[.int .i64 x0, .int .i64 x1, .int .i64 x2] 77)).cell? ⟨Wd.heap.size, 0, none⟩ = some (.pointer (some ⟨G, 0, none⟩)) := (((Below.refl _ (Wd.alloc (Obj.cells #[.pointer (some ⟨G, 0, none⟩)] ty7))).alloc (Nat.le_refl _) _).cell (p := ⟨Wd.heap.size, 0, none⟩) (IBox _ _ Wd).2.2).trans (IBox _ _ Wd).1
        have k2 := RBox.new (x0, x1, x2) 77 (Wd.alloc (Obj.cells #[.pointer (some ⟨G, 0, none⟩)] ty7))
        rw [World.size_alloc] at k2
        have kY : ((Wd.alloc (Obj.cells #[.pointer (some ⟨G, 0, none⟩)] ty7)).alloc (Obj.cells #[.int .i64 x0, .int .i64 x1, .int .i64 x2] 77)).cell? ⟨Y, 0, none⟩ = some (.int .i64 s) := ((((Below.refl _ Wd).alloc (Nat.le_refl _) _).alloc (by simp) _).cell (p := ⟨Y, 0, none⟩) hYl8).trans hY8
        have hsz7 : ((Wd.alloc (Obj.cells #[.pointer (some ⟨G, 0, none⟩)] ty7)).alloc (Obj.cells #[.int .i64 x0, .int .i64 x1, .int .i64 x2] 77)).heap.size = Wd.heap.size + 2 := by simp
        have hYg : W4.heap.size ≤ Y := by omega
        have hd4 := B8.size
        have hap : Apt (fun q => q < Bi ∨ q = w.heap.size ∨ q ∈ Ds ∨ q = Y ∨ q = Wd.heap.size ∨ q = Wd.heap.size + 1) Bi Bc Bb G (.slice (some ⟨g, 0, none⟩) L.length lc) ((Wd.alloc (Obj.cells #[.pointer (some ⟨G, 0, none⟩)] ty7)).alloc (Obj.cells #[.int .i64 x0, .int .i64 x1, .int .i64 x2] 77)) := by
          have hg := HG4.out.lt
          refine ⟨fun q hq => ?_, fun q e hq => ?_⟩
          · rcases hq with hq | hq | hq | hq | hq | hq
            · exact (HAP4.out.next B9.size).1 q (.inl hq)
            · exact (HAP4.out.next B9.size).1 q (.inr (.inl hq))
            · exact (HAP4.out.next B9.size).1 q (.inr (.inr (.inl hq)))
            · omega
            · omega
            · omega
          · have hql := World.ownsRow.lt HG4.out.own q e
            rcases hq with hq | hq | hq | hq | hq | hq
            · exact HAP4.out.2 q e (.inl hq)
            · exact HAP4.out.2 q e (.inr (.inl hq))
            · exact HAP4.out.2 q e (.inr (.inr (.inl hq)))
            · omega
            · omega
            · omega
        have HFIN : Hid (∀ (D : Nat) (L' : List Ir) (C' S' : List (Int × Int)) (lv' : Value) (W' : World), GInv f S0 Bi Bc Bb G V w.heap.size w (D :: Ds) (k + 1) L' C' S' lv' W' → GInv f S0 Bi Bc Bb G V w.heap.size w (D :: Ds) (k + 1) L' C' S' lv' W') := fun _ _ _ _ _ _ h => h
        have HA7 : Hid (GS Bi Bc Bb G V (.slice (some ⟨g, 0, none⟩) L.length lc) L C S ((Wd.alloc (Obj.cells #[.pointer (some ⟨G, 0, none⟩)] ty7)).alloc (Obj.cells #[.int .i64 x0, .int .i64 x1, .int .i64 x2] 77))) := HG4.out.next B9
        have HM7 : Hid (Mk Bi Ds ((Wd.alloc (Obj.cells #[.pointer (some ⟨G, 0, none⟩)] ty7)).alloc (Obj.cells #[.int .i64 x0, .int .i64 x1, .int .i64 x2] 77))) := ⟨HMK4.out.1, fun d hd => ⟨(HMK4.out.2 d hd).1, (B9.block d (HMK4.out.lt d hd)).trans (HMK4.out.2 d hd).2⟩⟩
        have c07 := (HSI.out _ B9).1
        have bv7 := hBV4.trans (B9.mono hBV4.size)
        have bw7 := hBw4.trans (B9.mono (by have := hBw4.size; omega))
        have HK7 : Hid (_ ∧ _ ∧ _ ∧ _ ∧ _ ∧ _ ∧ _) := And.intro k1 (And.intro k2 (And.intro kY (And.intro hap (And.intro c07 (And.intro bv7 bw7)))))
        clear k1 k2 kY hap c07 bv7 bw7 B9 B8 c08 y08 y18 y28 hY8 HLK hS8
        generalize (Wd.alloc (Obj.cells #[.pointer (some ⟨G, 0, none⟩)] ty7)).alloc (Obj.cells #[.int .i64 x0, .int .i64 x1, .int .i64 x2] 77) = W8 at *
        gi_wp2
        refine grown_range n (by omega) f ⟨ta, tc, na, nc, pa, pc⟩ Le R wv Bi Bc Bb G V w.heap.size Wd.heap.size (Wd.heap.size + 1) Y S0 Ds k s _ L C S (x0, x1, x2) w W8 HA7.out HV.out HFA.out HFE.out hwv HK7.out.2.2.2.2.2.1 HFP.out HGI.out.1 HGI.out.2.1 HGI.out.2.2 HNE.out HK7.out.2.2.2.1 HM7.out HK7.out.2.2.2.2.1 HK7.out.2.2.1 HK7.out.1 HK7.out.2.1 HK7.out.2.2.2.2.2.2 ?_
        intro D L' C' S' lv' W9 hinv
        have HI9 : Hid (GInv f S0 Bi Bc Bb G V w.heap.size w (D :: Ds) (k + 1) L' C' S' lv' W9) := hinv
        clear hinv HA7 HM7 HK7 HFIN
        gi_wp2
        exact ⟨maxI + 1 - (k + 1), by unfold maxI; omega, _, _, _, _, _, _, _, _, _, _, _, _, _, _, _, _, _, _, _, _, _, _, _, _, _, _, _, _, _, _, _, _, _, _, _, _, _, _, _, _, _, _, _, _, _, _, _, _, _, _, _, _, _, _, _, _, _, D :: Ds, k + 1, L', C', S', _, rfl, rfl, HI9.out⟩
  · go_simp
    have B4 : Below W4.heap.size W4 (W4.drew.alloc (Obj.cells #[.int .i64 0] 3)) := (Below.refl _ _).drew.alloc (Nat.le_refl _) _
    have hS4 := HSI.out _ B4
    refine hK.out _ _ (fun _ => hS4) ?_
    clear hK
    have hy4 : (W4.drew.alloc (Obj.cells #[.int .i64 0] 3)).cell? ⟨W4.drew.heap.size, 0, none⟩ = some (.int .i64 0) := (IBox _ _ W4.drew).1
    have hf4 : (W4.drew.alloc (Obj.cells #[.int .i64 0] 3)).frozen? ⟨W4.drew.heap.size, 0, none⟩ = false := (IBox _ _ W4.drew).2.1
    have hl4 : W4.heap.size < (W4.drew.alloc (Obj.cells #[.int .i64 0] 3)).heap.size := (IBox _ _ W4.drew).2.2
    have hN4 := HNX.out _ B4
    refine wpAnyL_one' (i := 8) (o := ⟨some 33, .call ⟨.value (.func 61), #[.tmp 31, .tmp 32], #[25, 77]⟩, 78, "grower.go:46", #[⟨6, .data⟩, ⟨7, .data⟩], none⟩) (by kernel_rfl) rfl rfl (fun K hK => ?_)
    go_simp
    refine hN4.mono ?_
    rintro e W5 ⟨rfl, hb5⟩
    have B5 : Below W4.heap.size W4 W5 := B4.trans (hb5.mono B4.size)
    have hS5 := HSI.out _ B5
    have hy5 : W5.cell? ⟨W4.heap.size, 0, none⟩ = some (.int .i64 0) := (hb5.cell (p := ⟨W4.heap.size, 0, none⟩) hl4).trans hy4
    have hf5 : W5.frozen? ⟨W4.heap.size, 0, none⟩ = false := (World.frozen?_of_block (hb5.block _ hl4)).trans hf4
    refine hK.out _ _ (fun _ => hS5) ?_
    clear hK
    refine wpAnyL_take' (i := 9) (v := ?_) (oi := ⟨some 24, .move (.tmp 33), 78, "grower.go:46", #[⟨8, .data⟩], none⟩) rfl (by kernel_rfl) (by kernel_rfl) (by kernel_rfl) (by kernel_rfl) rfl (fun _ _ _ h => (And.left (show (∀ c, _ ≠ Exit.panic c) ∧ _ from h) _ rfl).elim) (Or.inl ⟨by rfl, ?_⟩) hS5 ?_
    rotate_left
    · intro W hSW
      go_simp
      try with_reducible rfl
    simp only [Act.put, sA, s0, sS]
    refine wpAnyL_take' (i := 10) (v := ?_) (oi := ⟨some 34, .extract (.tmp 24) 0, 3, "grower.go:46", #[⟨9, .data⟩], none⟩) rfl (by kernel_rfl) (by kernel_rfl) (by kernel_rfl) (by kernel_rfl) rfl (fun _ _ _ h => (And.left (show (∀ c, _ ≠ Exit.panic c) ∧ _ from h) _ rfl).elim) (Or.inl ⟨by rfl, ?_⟩) hS5 ?_
    rotate_left
    · intro W hSW
      go_simp
      try with_reducible rfl
    simp only [Act.put, sA, s0, sS]
    refine wpAnyL_take' (i := 11) (v := ?_) (oi := ⟨some 35, .extract (.tmp 24) 1, 4, "grower.go:46", #[⟨9, .data⟩, ⟨13, .gcOnly .lateStores⟩], none⟩) rfl (by kernel_rfl) (by kernel_rfl) (by kernel_rfl) (by kernel_rfl) rfl (fun _ _ _ h => (And.left (show (∀ c, _ ≠ Exit.panic c) ∧ _ from h) _ rfl).elim) (Or.inl ⟨by rfl, ?_⟩) hS5 ?_
    rotate_left
    · intro W hSW
      go_simp
      try with_reducible rfl
    simp only [Act.put, sA, s0, sS]
    refine wpAnyL_one' (i := 13) (o := ⟨none, .store 3 (.tmp 5) (.tmp 34), 0, "grower.go:46", #[⟨12, .data⟩, ⟨10, .data⟩, ⟨8, .chain⟩, ⟨0, .phase⟩, ⟨1, .phase⟩, ⟨2, .phase⟩, ⟨3, .phase⟩, ⟨4, .phase⟩, ⟨5, .phase⟩, ⟨6, .phase⟩, ⟨7, .phase⟩, ⟨8, .phase⟩, ⟨9, .phase⟩, ⟨10, .phase⟩, ⟨11, .textOnly .lateStores⟩, ⟨12, .phase⟩], none⟩) (by kernel_rfl) rfl rfl (fun K hK => ?_)
    go_simp
    have B7 : Below W4.heap.size W4 (W5.setCell ⟨W4.heap.size, 0, none⟩ (.int .i64 nz)) := B5.setCell (Nat.le_refl _) _
    have hS7 := HSI.out _ B7
    refine hK.out _ _ (fun _ => hS7) ?_
    clear hK
    refine wpAnyL_one' (i := 14) (o := ⟨some 6, .assign (.tmp 35), 4, "grower.go:46", #[⟨11, .data⟩, ⟨13, .chain⟩, ⟨0, .phase⟩, ⟨1, .phase⟩, ⟨2, .phase⟩, ⟨3, .phase⟩, ⟨4, .phase⟩, ⟨5, .phase⟩, ⟨6, .phase⟩, ⟨7, .phase⟩, ⟨8, .phase⟩, ⟨9, .phase⟩, ⟨10, .phase⟩, ⟨11, .phase⟩, ⟨12, .phase⟩, ⟨13, .phase⟩], none⟩) (by kernel_rfl) rfl rfl (fun K hK => ?_)
    go_simp
    refine hK.out _ _ (fun _ => hS7) ?_
    clear hK
    refine wpAnyL_done (by kernel_rfl) ?_ _
    have hY7 : (W5.setCell ⟨W4.heap.size, 0, none⟩ (.int .i64 nz)).cell? ⟨W4.heap.size, 0, none⟩ = some (.int .i64 nz) := World.cell?_setCell_same _ _ _ hy5
    have hYl : W4.heap.size < (W5.setCell ⟨W4.heap.size, 0, none⟩ (.int .i64 nz)).heap.size := World.block_lt_of_cell? _ _ hY7
    clear hS4 hS5 hS7 hb5 hS0 hy4 hf4 hy5 hf5 hN4 B4 hl4
    generalize W5.setCell ⟨W4.heap.size, 0, none⟩ (.int .i64 nz) = W6 at *
    have HINV0 : Hid (∀ W6', Below W4.heap.size W4 W6' → GI f S0 L C S (k + 1) → GInv f S0 Bi Bc Bb G V w.heap.size w Ds (k + 1) L C S (.slice (some ⟨g, 0, none⟩) L.length lc) W6') := fun W6' hb hgi => ⟨HG4.out.next hb, hgi, ⟨fun q hq => (HAP4.out.next hb.size).1 q (hq.imp id (fun h => h.imp id .inl)), fun q e hq => HAP4.out.2 q e (hq.imp id (fun h => h.imp id .inl))⟩, ⟨HMK4.out.1, fun d hd => ⟨(HMK4.out.2 d hd).1, (hb.block d (HMK4.out.lt d hd)).trans (HMK4.out.2 d hd).2⟩⟩, (HSI.out _ hb).1, hBw4.trans (hb.mono (by have := hBw4.size; omega)), hLp⟩
    cases nx with
    | none =>
      obtain ⟨h1, h2⟩ := HNZ.out
      simp only [Option.getD_none, Option.isSome_none] at h1 h2
      subst h1 h2
      have HINV := HINV0.out _ B7.drew (HGI.out.1.skip HGI.out.2.1 (fun s q p hs => by rw [HNE.out] at hs; cases hs))
      have hS8 := B7.drew
      gi_wp2
      refine wpIn_wide.2 ?_
      refine wp_region_L (fun W => Below W4.heap.size W4 W) 16 (by kernel_rfl) 16 rfl ?_
      refine wpAnyL_take' (i := 0) (v := ?_) (oi := ⟨some 36, .move (.tmp 6), 4, "grower.go:47", #[], none⟩) rfl (by kernel_rfl) (by kernel_rfl) (by kernel_rfl) (by kernel_rfl) rfl (fun _ _ _ h => (And.left (show (∀ c, _ ≠ Exit.panic c) ∧ _ from h) _ rfl).elim) (Or.inl ⟨by rfl, ?_⟩) hS8 ?_
      rotate_left
      · intro W hSW
        go_simp
        try with_reducible rfl
      simp only [Act.put, sA, s0, sS]
      refine wpAnyL_take' (i := 1) (v := ?_) (oi := ⟨some 37, .unOp .not 4 (.tmp 36), 4, "grower.go:47", #[⟨0, .data⟩], none⟩) rfl (by kernel_rfl) (by kernel_rfl) (by kernel_rfl) (by kernel_rfl) rfl (fun _ _ _ h => (And.left (show (∀ c, _ ≠ Exit.panic c) ∧ _ from h) _ rfl).elim) (Or.inl ⟨by rfl, ?_⟩) hS8 ?_
      rotate_left
      · intro W hSW
        go_simp
        try with_reducible rfl
      simp only [Act.put, sA, s0, sS]
      refine wpAnyL_take' (i := 2) (v := ?_) (oi := ⟨some 38, .move (.tmp 37), 4, "grower.go:47", #[⟨1, .data⟩], none⟩) rfl (by kernel_rfl) (by kernel_rfl) (by kernel_rfl) (by kernel_rfl) rfl (fun _ _ _ h => (And.left (show (∀ c, _ ≠ Exit.panic c) ∧ _ from h) _ rfl).elim) (Or.inl ⟨by rfl, ?_⟩) hS8 ?_
      rotate_left
      · intro W hSW
        go_simp
        try with_reducible rfl
      simp only [Act.put, sA, s0, sS]
      refine wpAnyL_take' (i := 3) (v := undef) (oi := ⟨some 39, .load 186 (.tmp 1), 186, "grower.go:47", #[⟨2, .guard⟩], some (2, false)⟩) rfl (by kernel_rfl) (by kernel_rfl) (by kernel_rfl) (by kernel_rfl) rfl (fun _ _ _ h => (And.left (show (∀ c, _ ≠ Exit.panic c) ∧ _ from h) _ rfl).elim) (Or.inr ⟨by rfl, rfl⟩) hS8 ?_
      simp only [Act.put, sA, s0, sS]
      refine wpAnyL_take' (i := 4) (v := undef) (oi := ⟨some 40, .nilCheck (.tmp 39), 0, "grower.go:47", #[⟨3, .data⟩, ⟨2, .guard⟩], some (2, false)⟩) rfl (by kernel_rfl) (by kernel_rfl) (by kernel_rfl) (by kernel_rfl) rfl (fun _ _ _ h => (And.left (show (∀ c, _ ≠ Exit.panic c) ∧ _ from h) _ rfl).elim) (Or.inr ⟨by rfl, rfl⟩) hS8 ?_
      simp only [Act.put, sA, s0, sS]
      refine wpAnyL_take' (i := 5) (v := undef) (oi := ⟨some 41, .fieldAddr 214 (.tmp 40) 0, 0, "grower.go:47", #[⟨4, .data⟩, ⟨2, .guard⟩], some (2, false)⟩) rfl (by kernel_rfl) (by kernel_rfl) (by kernel_rfl) (by kernel_rfl) rfl (fun _ _ _ h => (And.left (show (∀ c, _ ≠ Exit.panic c) ∧ _ from h) _ rfl).elim) (Or.inr ⟨by rfl, rfl⟩) hS8 ?_
      simp only [Act.put, sA, s0, sS]
      refine wpAnyL_take' (i := 6) (v := undef) (oi := ⟨some 42, .load 111 (.tmp 41), 111, "grower.go:47", #[⟨5, .data⟩, ⟨2, .guard⟩], some (2, false)⟩) rfl (by kernel_rfl) (by kernel_rfl) (by kernel_rfl) (by kernel_rfl) rfl (fun _ _ _ h => (And.left (show (∀ c, _ ≠ Exit.panic c) ∧ _ from h) _ rfl).elim) (Or.inr ⟨by rfl, rfl⟩) hS8 ?_
      simp only [Act.put, sA, s0, sS]
      refine wpAnyL_take' (i := 7) (v := undef) (oi := ⟨some 43, .nilCheck (.tmp 42), 0, "grower.go:47", #[⟨6, .data⟩, ⟨2, .guard⟩], some (2, false)⟩) rfl (by kernel_rfl) (by kernel_rfl) (by kernel_rfl) (by kernel_rfl) rfl (fun _ _ _ h => (And.left (show (∀ c, _ ≠ Exit.panic c) ∧ _ from h) _ rfl).elim) (Or.inr ⟨by rfl, rfl⟩) hS8 ?_
      simp only [Act.put, sA, s0, sS]
      refine wpAnyL_take' (i := 8) (v := undef) (oi := ⟨some 44, .fieldAddr 152 (.tmp 43) 3, 0, "grower.go:47", #[⟨7, .data⟩, ⟨2, .guard⟩], some (2, false)⟩) rfl (by kernel_rfl) (by kernel_rfl) (by kernel_rfl) (by kernel_rfl) rfl (fun _ _ _ h => (And.left (show (∀ c, _ ≠ Exit.panic c) ∧ _ from h) _ rfl).elim) (Or.inr ⟨by rfl, rfl⟩) hS8 ?_
      simp only [Act.put, sA, s0, sS]
      refine wpAnyL_take' (i := 9) (v := undef) (oi := ⟨some 45, .load 149 (.tmp 44), 149, "grower.go:47", #[⟨8, .data⟩, ⟨2, .guard⟩], some (2, false)⟩) rfl (by kernel_rfl) (by kernel_rfl) (by kernel_rfl) (by kernel_rfl) rfl (fun _ _ _ h => (And.left (show (∀ c, _ ≠ Exit.panic c) ∧ _ from h) _ rfl).elim) (Or.inr ⟨by rfl, rfl⟩) hS8 ?_
      simp only [Act.put, sA, s0, sS]
      refine wpAnyL_take' (i := 10) (v := undef) (oi := ⟨some 46, .load 3 (.tmp 5), 3, "grower.go:47", #[⟨2, .guard⟩], some (2, false)⟩) rfl (by kernel_rfl) (by kernel_rfl) (by kernel_rfl) (by kernel_rfl) rfl (fun _ _ _ h => (And.left (show (∀ c, _ ≠ Exit.panic c) ∧ _ from h) _ rfl).elim) (Or.inr ⟨by rfl, rfl⟩) hS8 ?_
      simp only [Act.put, sA, s0, sS]
      refine wpAnyL_take' (i := 11) (v := undef) (oi := ⟨some 47, .indexAddr 149 (.tmp 45) (.tmp 46), 0, "grower.go:47", #[⟨9, .data⟩, ⟨10, .data⟩, ⟨2, .guard⟩], some (2, false)⟩) rfl (by kernel_rfl) (by kernel_rfl) (by kernel_rfl) (by kernel_rfl) rfl (fun _ _ _ h => (And.left (show (∀ c, _ ≠ Exit.panic c) ∧ _ from h) _ rfl).elim) (Or.inr ⟨by rfl, rfl⟩) hS8 ?_
      simp only [Act.put, sA, s0, sS]
      refine wpAnyL_take' (i := 12) (v := undef) (oi := ⟨some 48, .load 43 (.tmp 47), 43, "grower.go:47", #[⟨11, .data⟩, ⟨2, .guard⟩], some (2, false)⟩) rfl (by kernel_rfl) (by kernel_rfl) (by kernel_rfl) (by kernel_rfl) rfl (fun _ _ _ h => (And.left (show (∀ c, _ ≠ Exit.panic c) ∧ _ from h) _ rfl).elim) (Or.inr ⟨by rfl, rfl⟩) hS8 ?_
      simp only [Act.put, sA, s0, sS]
      refine wpAnyL_take' (i := 13) (v := undef) (oi := ⟨some 49, .call ⟨.builtin .len, #[.tmp 48], #[43]⟩, 3, "grower.go:47", #[⟨12, .data⟩, ⟨2, .guard⟩], some (2, false)⟩) rfl (by kernel_rfl) (by kernel_rfl) (by kernel_rfl) (by kernel_rfl) rfl (fun _ _ _ h => (And.left (show (∀ c, _ ≠ Exit.panic c) ∧ _ from h) _ rfl).elim) (Or.inr ⟨by rfl, rfl⟩) hS8 ?_
      simp only [Act.put, sA, s0, sS]
      refine wpAnyL_take' (i := 14) (v := undef) (oi := ⟨some 50, .binOp .eql 3 (.tmp 49) (.const (.int .i64 0)) 3, 4, "grower.go:47", #[⟨13, .data⟩, ⟨2, .guard⟩], some (2, false)⟩) rfl (by kernel_rfl) (by kernel_rfl) (by kernel_rfl) (by kernel_rfl) rfl (fun _ _ _ h => (And.left (show (∀ c, _ ≠ Exit.panic c) ∧ _ from h) _ rfl).elim) (Or.inr ⟨by rfl, rfl⟩) hS8 ?_
      simp only [Act.put, sA, s0, sS]
      refine wpAnyL_take' (i := 15) (v := ?_) (oi := ⟨some 51, .pick (.tmp 38) (.const (.bool true)) (.tmp 50), 4, "grower.go:47", #[⟨2, .data⟩, ⟨14, .data⟩], none⟩) rfl (by kernel_rfl) (by kernel_rfl) (by kernel_rfl) (by kernel_rfl) rfl (fun _ _ _ h => (And.left (show (∀ c, _ ≠ Exit.panic c) ∧ _ from h) _ rfl).elim) (Or.inl ⟨by rfl, ?_⟩) hS8 ?_
      rotate_left
      · intro W hSW
        go_simp
        try with_reducible rfl
      simp only [Act.put, sA, s0, sS]
      refine wpAnyL_done (by kernel_rfl) ?_ _
      gi_wp2
      exact ⟨maxI + 1 - (k + 1), by unfold maxI; omega, _, _, _, _, _, _, _, _, _, _, _, _, _, _, _, _, _, _, _, _, _, _, _, _, _, _, _, _, _, _, _, _, _, _, _, _, _, _, _, _, _, _, _, _, _, _, _, _, _, _, _, _, _, _, _, _, _, Ds, k + 1, L, C, S, _, rfl, rfl, HINV⟩
    | some z =>
      obtain ⟨h1, h2⟩ := HNZ.out
      simp only [Option.getD_some, Option.isSome_some] at h1 h2
      subst h1 h2
      have hzl := nextI_lt HFP.out HNE.out
      obtain ⟨s, rfl⟩ : ∃ s : Nat, z = s := ⟨z.toNat, by omega⟩
      have hs : s < f.n := by omega
      have hsI : (s : Int) < f.n := by omega
      obtain ⟨_, ve, vf, vp, v3, v4, v5, v6, v7, v8⟩ := HV.out
      obtain ⟨pa', pc', rfl, hrows, _⟩ := v8
      rw [ofsL_len] at v5
      obtain ⟨pb, po, u, rfl, hpb, hrc, hru⟩ := hrows s _ (ofsL_get hs)
      obtain ⟨PL, hPL⟩ : ∃ PL, ofA f (s : Int) = PL := ⟨_, rfl⟩
      rw [hPL] at hru
      obtain ⟨ra, rc, rfl, hrow, _⟩ := hru
      have HS6 : Hid (∀ W', Below W4.heap.size W4 W' → W'.cell? ⟨W4.heap.size, 0, none⟩ = some (.int .i64 s) → (W'.cell? ⟨w.heap.size, 0, none⟩ = some (.pointer (some ⟨G, 0, none⟩)) ∧ W'.cell? ⟨G, 0, none⟩ = some (.pointer (some ⟨V, 0, none⟩)) ∧ W'.cell? ⟨V, 5, none⟩ = some (.slice (some ⟨pb, po, none⟩) f.n pc') ∧ W'.cell? ⟨pb, po + s, none⟩ = some (.slice ra PL.length rc) ∧ W'.cell? ⟨W4.heap.size, 0, none⟩ = some (.int .i64 s))) := fun W' hb hy => by
        have hbv := hBV4.trans (hb.mono hBV4.size)
        have h5 := HSI.out _ hb
        exact ⟨h5.1, h5.2.1, (hbv.cell (p := ⟨V, 5, none⟩) hVl).trans v5, (hbv.cell (p := ⟨pb, po + s, none⟩) hpb).trans hrc, hy⟩
      have hS8 := HS6.out W6.drew B7.drew hY7
      have HPL : Hid (ofA f (s : Int) = PL) := hPL
      clear hPL hrows hrow hrc v3 v4 v5 v6 v7
      rcases Nat.eq_zero_or_pos PL.length with hP0 | hP0
      · have HINV := HINV0.out _ B7.drew (HGI.out.1.skip HGI.out.2.1 (fun s' q p hs' hq hl => by
          rw [HNE.out] at hs'
          cases hs'
          have hm : (q : Int) ∈ ofA f (s : Int) := mem_ofA.2 ⟨q, p, rfl, hq, hl⟩
          rw [HPL.out, List.eq_nil_of_length_eq_zero hP0] at hm
          cases hm))
        have hP1 : ((PL.length : Int) == 0) = true := by rw [hP0]; rfl
        gi_wp2
        refine wpIn_wide.2 ?_
        refine wp_region_L (fun W => W.cell? ⟨w.heap.size, 0, none⟩ = some (.pointer (some ⟨G, 0, none⟩)) ∧ W.cell? ⟨G, 0, none⟩ = some (.pointer (some ⟨V, 0, none⟩)) ∧ W.cell? ⟨V, 5, none⟩ = some (.slice (some ⟨pb, po, none⟩) f.n pc') ∧ W.cell? ⟨pb, po + s, none⟩ = some (.slice ra PL.length rc) ∧ W.cell? ⟨W4.heap.size, 0, none⟩ = some (.int .i64 s)) 16 (by kernel_rfl) 16 rfl ?_
        refine wpAnyL_take' (i := 0) (v := ?_) (oi := ⟨some 36, .move (.tmp 6), 4, "grower.go:47", #[], none⟩) rfl (by kernel_rfl) (by kernel_rfl) (by kernel_rfl) (by kernel_rfl) rfl (fun _ _ _ h => (And.left (show (∀ c, _ ≠ Exit.panic c) ∧ _ from h) _ rfl).elim) (Or.inl ⟨by rfl, ?_⟩) hS8 ?_
        rotate_left
        · intro W hSW
          go_simp
          try with_reducible rfl
        simp only [Act.put, sA, s0, sS]
        refine wpAnyL_take' (i := 1) (v := ?_) (oi := ⟨some 37, .unOp .not 4 (.tmp 36), 4, "grower.go:47", #[⟨0, .data⟩], none⟩) rfl (by kernel_rfl) (by kernel_rfl) (by kernel_rfl) (by kernel_rfl) rfl (fun _ _ _ h => (And.left (show (∀ c, _ ≠ Exit.panic c) ∧ _ from h) _ rfl).elim) (Or.inl ⟨by rfl, ?_⟩) hS8 ?_
        rotate_left
        · intro W hSW
          go_simp
          try with_reducible rfl
        simp only [Act.put, sA, s0, sS]
        refine wpAnyL_take' (i := 2) (v := ?_) (oi := ⟨some 38, .move (.tmp 37), 4, "grower.go:47", #[⟨1, .data⟩], none⟩) rfl (by kernel_rfl) (by kernel_rfl) (by kernel_rfl) (by kernel_rfl) rfl (fun _ _ _ h => (And.left (show (∀ c, _ ≠ Exit.panic c) ∧ _ from h) _ rfl).elim) (Or.inl ⟨by rfl, ?_⟩) hS8 ?_
        rotate_left
        · intro W hSW
          go_simp
          try with_reducible rfl
        simp only [Act.put, sA, s0, sS]
        refine wpAnyL_take' (i := 3) (v := ?_) (oi := ⟨some 39, .load 186 (.tmp 1), 186, "grower.go:47", #[⟨2, .guard⟩], some (2, false)⟩) rfl (by kernel_rfl) (by kernel_rfl) (by kernel_rfl) (by kernel_rfl) rfl (fun _ _ _ h => (And.left (show (∀ c, _ ≠ Exit.panic c) ∧ _ from h) _ rfl).elim) (Or.inl ⟨by rfl, ?_⟩) hS8 ?_
        rotate_left
        · intro W hSW
          go_simp
          try with_reducible rfl
        simp only [Act.put, sA, s0, sS]
        refine wpAnyL_take' (i := 4) (v := ?_) (oi := ⟨some 40, .nilCheck (.tmp 39), 0, "grower.go:47", #[⟨3, .data⟩, ⟨2, .guard⟩], some (2, false)⟩) rfl (by kernel_rfl) (by kernel_rfl) (by kernel_rfl) (by kernel_rfl) rfl (fun _ _ _ h => (And.left (show (∀ c, _ ≠ Exit.panic c) ∧ _ from h) _ rfl).elim) (Or.inl ⟨by rfl, ?_⟩) hS8 ?_
        rotate_left
        · intro W hSW
          go_simp
          try with_reducible rfl
        simp only [Act.put, sA, s0, sS]
        refine wpAnyL_take' (i := 5) (v := ?_) (oi := ⟨some 41, .fieldAddr 214 (.tmp 40) 0, 0, "grower.go:47", #[⟨4, .data⟩, ⟨2, .guard⟩], some (2, false)⟩) rfl (by kernel_rfl) (by kernel_rfl) (by kernel_rfl) (by kernel_rfl) rfl (fun _ _ _ h => (And.left (show (∀ c, _ ≠ Exit.panic c) ∧ _ from h) _ rfl).elim) (Or.inl ⟨by rfl, ?_⟩) hS8 ?_
        rotate_left
        · intro W hSW
          go_simp
          try with_reducible rfl
        simp only [Act.put, sA, s0, sS]
        refine wpAnyL_take' (i := 6) (v := ?_) (oi := ⟨some 42, .load 111 (.tmp 41), 111, "grower.go:47", #[⟨5, .data⟩, ⟨2, .guard⟩], some (2, false)⟩) rfl (by kernel_rfl) (by kernel_rfl) (by kernel_rfl) (by kernel_rfl) rfl (fun _ _ _ h => (And.left (show (∀ c, _ ≠ Exit.panic c) ∧ _ from h) _ rfl).elim) (Or.inl ⟨by rfl, ?_⟩) hS8 ?_
        rotate_left
        · intro W hSW
          go_simp
          try with_reducible rfl
        simp only [Act.put, sA, s0, sS]
        refine wpAnyL_take' (i := 7) (v := ?_) (oi := ⟨some 43, .nilCheck (.tmp 42), 0, "grower.go:47", #[⟨6, .data⟩, ⟨2, .guard⟩], some (2, false)⟩) rfl (by kernel_rfl) (by kernel_rfl) (by kernel_rfl) (by kernel_rfl) rfl (fun _ _ _ h => (And.left (show (∀ c, _ ≠ Exit.panic c) ∧ _ from h) _ rfl).elim) (Or.inl ⟨by rfl, ?_⟩) hS8 ?_
        rotate_left
        · intro W hSW
          go_simp
          try with_reducible rfl
        simp only [Act.put, sA, s0, sS]
        refine wpAnyL_take' (i := 8) (v := ?_) (oi := ⟨some 44, .fieldAddr 152 (.tmp 43) 3, 0, "grower.go:47", #[⟨7, .data⟩, ⟨2, .guard⟩], some (2, false)⟩) rfl (by kernel_rfl) (by kernel_rfl) (by kernel_rfl) (by kernel_rfl) rfl (fun _ _ _ h => (And.left (show (∀ c, _ ≠ Exit.panic c) ∧ _ from h) _ rfl).elim) (Or.inl ⟨by rfl, ?_⟩) hS8 ?_
        rotate_left
        · intro W hSW
          go_simp
          try with_reducible rfl
        simp only [Act.put, sA, s0, sS]
        refine wpAnyL_take' (i := 9) (v := ?_) (oi := ⟨some 45, .load 149 (.tmp 44), 149, "grower.go:47", #[⟨8, .data⟩, ⟨2, .guard⟩], some (2, false)⟩) rfl (by kernel_rfl) (by kernel_rfl) (by kernel_rfl) (by kernel_rfl) rfl (fun _ _ _ h => (And.left (show (∀ c, _ ≠ Exit.panic c) ∧ _ from h) _ rfl).elim) (Or.inl ⟨by rfl, ?_⟩) hS8 ?_
        rotate_left
        · intro W hSW
          go_simp
          try with_reducible rfl
        simp only [Act.put, sA, s0, sS]
        refine wpAnyL_take' (i := 10) (v := ?_) (oi := ⟨some 46, .load 3 (.tmp 5), 3, "grower.go:47", #[⟨2, .guard⟩], some (2, false)⟩) rfl (by kernel_rfl) (by kernel_rfl) (by kernel_rfl) (by kernel_rfl) rfl (fun _ _ _ h => (And.left (show (∀ c, _ ≠ Exit.panic c) ∧ _ from h) _ rfl).elim) (Or.inl ⟨by rfl, ?_⟩) hS8 ?_
        rotate_left
        · intro W hSW
          go_simp
          try with_reducible rfl
        simp only [Act.put, sA, s0, sS]
        refine wpAnyL_take' (i := 11) (v := ?_) (oi := ⟨some 47, .indexAddr 149 (.tmp 45) (.tmp 46), 0, "grower.go:47", #[⟨9, .data⟩, ⟨10, .data⟩, ⟨2, .guard⟩], some (2, false)⟩) rfl (by kernel_rfl) (by kernel_rfl) (by kernel_rfl) (by kernel_rfl) rfl (fun _ _ _ h => (And.left (show (∀ c, _ ≠ Exit.panic c) ∧ _ from h) _ rfl).elim) (Or.inl ⟨by rfl, ?_⟩) hS8 ?_
        rotate_left
        · intro W hSW
          go_simp
          try with_reducible rfl
        simp only [Act.put, sA, s0, sS]
        refine wpAnyL_take' (i := 12) (v := ?_) (oi := ⟨some 48, .load 43 (.tmp 47), 43, "grower.go:47", #[⟨11, .data⟩, ⟨2, .guard⟩], some (2, false)⟩) rfl (by kernel_rfl) (by kernel_rfl) (by kernel_rfl) (by kernel_rfl) rfl (fun _ _ _ h => (And.left (show (∀ c, _ ≠ Exit.panic c) ∧ _ from h) _ rfl).elim) (Or.inl ⟨by rfl, ?_⟩) hS8 ?_
        rotate_left
        · intro W hSW
          go_simp
          try with_reducible rfl
        simp only [Act.put, sA, s0, sS]
        refine wpAnyL_take' (i := 13) (v := ?_) (oi := ⟨some 49, .call ⟨.builtin .len, #[.tmp 48], #[43]⟩, 3, "grower.go:47", #[⟨12, .data⟩, ⟨2, .guard⟩], some (2, false)⟩) rfl (by kernel_rfl) (by kernel_rfl) (by kernel_rfl) (by kernel_rfl) rfl (fun _ _ _ h => (And.left (show (∀ c, _ ≠ Exit.panic c) ∧ _ from h) _ rfl).elim) (Or.inl ⟨by rfl, ?_⟩) hS8 ?_
        rotate_left
        · intro W hSW
          go_simp
          try with_reducible rfl
        simp only [Act.put, sA, s0, sS]
        refine wpAnyL_take' (i := 14) (v := ?_) (oi := ⟨some 50, .binOp .eql 3 (.tmp 49) (.const (.int .i64 0)) 3, 4, "grower.go:47", #[⟨13, .data⟩, ⟨2, .guard⟩], some (2, false)⟩) rfl (by kernel_rfl) (by kernel_rfl) (by kernel_rfl) (by kernel_rfl) rfl (fun _ _ _ h => (And.left (show (∀ c, _ ≠ Exit.panic c) ∧ _ from h) _ rfl).elim) (Or.inl ⟨by rfl, ?_⟩) hS8 ?_
        rotate_left
        · intro W hSW
          go_simp
          try with_reducible rfl
        simp only [Act.put, sA, s0, sS]
        refine wpAnyL_take' (i := 15) (v := ?_) (oi := ⟨some 51, .pick (.tmp 38) (.const (.bool true)) (.tmp 50), 4, "grower.go:47", #[⟨2, .data⟩, ⟨14, .data⟩], none⟩) rfl (by kernel_rfl) (by kernel_rfl) (by kernel_rfl) (by kernel_rfl) rfl (fun _ _ _ h => (And.left (show (∀ c, _ ≠ Exit.panic c) ∧ _ from h) _ rfl).elim) (Or.inl ⟨by rfl, ?_⟩) hS8 ?_
        rotate_left
        · intro W hSW
          go_simp
          try with_reducible rfl
        simp only [Act.put, sA, s0, sS]
        refine wpAnyL_done (by kernel_rfl) ?_ _
        gi_wp2
        exact ⟨maxI + 1 - (k + 1), by unfold maxI; omega, _, _, _, _, _, _, _, _, _, _, _, _, _, _, _, _, _, _, _, _, _, _, _, _, _, _, _, _, _, _, _, _, _, _, _, _, _, _, _, _, _, _, _, _, _, _, _, _, _, _, _, _, _, _, _, _, _, Ds, k + 1, L, C, S, _, rfl, rfl, HINV⟩
      · have hP1 : ((PL.length : Int) == 0) = false := beq_eq_false_iff_ne.2 (by omega)
        gi_wp2
        refine wpIn_wide.2 ?_
        refine wp_region_L (fun W => W.cell? ⟨w.heap.size, 0, none⟩ = some (.pointer (some ⟨G, 0, none⟩)) ∧ W.cell? ⟨G, 0, none⟩ = some (.pointer (some ⟨V, 0, none⟩)) ∧ W.cell? ⟨V, 5, none⟩ = some (.slice (some ⟨pb, po, none⟩) f.n pc') ∧ W.cell? ⟨pb, po + s, none⟩ = some (.slice ra PL.length rc) ∧ W.cell? ⟨W4.heap.size, 0, none⟩ = some (.int .i64 s)) 16 (by kernel_rfl) 16 rfl ?_
        refine wpAnyL_take' (i := 0) (v := ?_) (oi := ⟨some 36, .move (.tmp 6), 4, "grower.go:47", #[], none⟩) rfl (by kernel_rfl) (by kernel_rfl) (by kernel_rfl) (by kernel_rfl) rfl (fun _ _ _ h => (And.left (show (∀ c, _ ≠ Exit.panic c) ∧ _ from h) _ rfl).elim) (Or.inl ⟨by rfl, ?_⟩) hS8 ?_
        rotate_left
        · intro W hSW
          go_simp
          try with_reducible rfl
        simp only [Act.put, sA, s0, sS]
        refine wpAnyL_take' (i := 1) (v := ?_) (oi := ⟨some 37, .unOp .not 4 (.tmp 36), 4, "grower.go:47", #[⟨0, .data⟩], none⟩) rfl (by kernel_rfl) (by kernel_rfl) (by kernel_rfl) (by kernel_rfl) rfl (fun _ _ _ h => (And.left (show (∀ c, _ ≠ Exit.panic c) ∧ _ from h) _ rfl).elim) (Or.inl ⟨by rfl, ?_⟩) hS8 ?_
        rotate_left
        · intro W hSW
          go_simp
          try with_reducible rfl
        simp only [Act.put, sA, s0, sS]
        refine wpAnyL_take' (i := 2) (v := ?_) (oi := ⟨some 38, .move (.tmp 37), 4, "grower.go:47", #[⟨1, .data⟩], none⟩) rfl (by kernel_rfl) (by kernel_rfl) (by kernel_rfl) (by kernel_rfl) rfl (fun _ _ _ h => (And.left (show (∀ c, _ ≠ Exit.panic c) ∧ _ from h) _ rfl).elim) (Or.inl ⟨by rfl, ?_⟩) hS8 ?_
        rotate_left
        · intro W hSW
          go_simp
          try with_reducible rfl
        simp only [Act.put, sA, s0, sS]
        refine wpAnyL_take' (i := 3) (v := ?_) (oi := ⟨some 39, .load 186 (.tmp 1), 186, "grower.go:47", #[⟨2, .guard⟩], some (2, false)⟩) rfl (by kernel_rfl) (by kernel_rfl) (by kernel_rfl) (by kernel_rfl) rfl (fun _ _ _ h => (And.left (show (∀ c, _ ≠ Exit.panic c) ∧ _ from h) _ rfl).elim) (Or.inl ⟨by rfl, ?_⟩) hS8 ?_
        rotate_left
        · intro W hSW
          go_simp
          try with_reducible rfl
        simp only [Act.put, sA, s0, sS]
        refine wpAnyL_take' (i := 4) (v := ?_) (oi := ⟨some 40, .nilCheck (.tmp 39), 0, "grower.go:47", #[⟨3, .data⟩, ⟨2, .guard⟩], some (2, false)⟩) rfl (by kernel_rfl) (by kernel_rfl) (by kernel_rfl) (by kernel_rfl) rfl (fun _ _ _ h => (And.left (show (∀ c, _ ≠ Exit.panic c) ∧ _ from h) _ rfl).elim) (Or.inl ⟨by rfl, ?_⟩) hS8 ?_
        rotate_left
        · intro W hSW
          go_simp
          try with_reducible rfl
        simp only [Act.put, sA, s0, sS]
        refine wpAnyL_take' (i := 5) (v := ?_) (oi := ⟨some 41, .fieldAddr 214 (.tmp 40) 0, 0, "grower.go:47", #[⟨4, .data⟩, ⟨2, .guard⟩], some (2, false)⟩) rfl (by kernel_rfl) (by kernel_rfl) (by kernel_rfl) (by kernel_rfl) rfl (fun _ _ _ h => (And.left (show (∀ c, _ ≠ Exit.panic c) ∧ _ from h) _ rfl).elim) (Or.inl ⟨by rfl, ?_⟩) hS8 ?_
        rotate_left
        · intro W hSW
          go_simp
          try with_reducible rfl
        simp only [Act.put, sA, s0, sS]
        refine wpAnyL_take' (i := 6) (v := ?_) (oi := ⟨some 42, .load 111 (.tmp 41), 111, "grower.go:47", #[⟨5, .data⟩, ⟨2, .guard⟩], some (2, false)⟩) rfl (by kernel_rfl) (by kernel_rfl) (by kernel_rfl) (by kernel_rfl) rfl (fun _ _ _ h => (And.left (show (∀ c, _ ≠ Exit.panic c) ∧ _ from h) _ rfl).elim) (Or.inl ⟨by rfl, ?_⟩) hS8 ?_
        rotate_left
        · intro W hSW
          go_simp
          try with_reducible rfl
        simp only [Act.put, sA, s0, sS]
        refine wpAnyL_take' (i := 7) (v := ?_) (oi := ⟨some 43, .nilCheck (.tmp 42), 0, "grower.go:47", #[⟨6, .data⟩, ⟨2, .guard⟩], some (2, false)⟩) rfl (by kernel_rfl) (by kernel_rfl) (by kernel_rfl) (by kernel_rfl) rfl (fun _ _ _ h => (And.left (show (∀ c, _ ≠ Exit.panic c) ∧ _ from h) _ rfl).elim) (Or.inl ⟨by rfl, ?_⟩) hS8 ?_
        rotate_left
        · intro W hSW
          go_simp
          try with_reducible rfl
        simp only [Act.put, sA, s0, sS]
        refine wpAnyL_take' (i := 8) (v := ?_) (oi := ⟨some 44, .fieldAddr 152 (.tmp 43) 3, 0, "grower.go:47", #[⟨7, .data⟩, ⟨2, .guard⟩], some (2, false)⟩) rfl (by kernel_rfl) (by kernel_rfl) (by kernel_rfl) (by kernel_rfl) rfl (fun _ _ _ h => (And.left (show (∀ c, _ ≠ Exit.panic c) ∧ _ from h) _ rfl).elim) (Or.inl ⟨by rfl, ?_⟩) hS8 ?_
        rotate_left
        · intro W hSW
          go_simp
          try with_reducible rfl
        simp only [Act.put, sA, s0, sS]
        refine wpAnyL_take' (i := 9) (v := ?_) (oi := ⟨some 45, .load 149 (.tmp 44), 149, "grower.go:47", #[⟨8, .data⟩, ⟨2, .guard⟩], some (2, false)⟩) rfl (by kernel_rfl) (by kernel_rfl) (by kernel_rfl) (by kernel_rfl) rfl (fun _ _ _ h => (And.left (show (∀ c, _ ≠ Exit.panic c) ∧ _ from h) _ rfl).elim) (Or.inl ⟨by rfl, ?_⟩) hS8 ?_
        rotate_left
        · intro W hSW
          go_simp
          try with_reducible rfl
        simp only [Act.put, sA, s0, sS]
        refine wpAnyL_take' (i := 10) (v := ?_) (oi := ⟨some 46, .load 3 (.tmp 5), 3, "grower.go:47", #[⟨2, .guard⟩], some (2, false)⟩) rfl (by kernel_rfl) (by kernel_rfl) (by kernel_rfl) (by kernel_rfl) rfl (fun _ _ _ h => (And.left (show (∀ c, _ ≠ Exit.panic c) ∧ _ from h) _ rfl).elim) (Or.inl ⟨by rfl, ?_⟩) hS8 ?_
        rotate_left
        · intro W hSW
          go_simp
          try with_reducible rfl
        simp only [Act.put, sA, s0, sS]
        refine wpAnyL_take' (i := 11) (v := ?_) (oi := ⟨some 47, .indexAddr 149 (.tmp 45) (.tmp 46), 0, "grower.go:47", #[⟨9, .data⟩, ⟨10, .data⟩, ⟨2, .guard⟩], some (2, false)⟩) rfl (by kernel_rfl) (by kernel_rfl) (by kernel_rfl) (by kernel_rfl) rfl (fun _ _ _ h => (And.left (show (∀ c, _ ≠ Exit.panic c) ∧ _ from h) _ rfl).elim) (Or.inl ⟨by rfl, ?_⟩) hS8 ?_
        rotate_left
        · intro W hSW
          go_simp
          try with_reducible rfl
        simp only [Act.put, sA, s0, sS]
        refine wpAnyL_take' (i := 12) (v := ?_) (oi := ⟨some 48, .load 43 (.tmp 47), 43, "grower.go:47", #[⟨11, .data⟩, ⟨2, .guard⟩], some (2, false)⟩) rfl (by kernel_rfl) (by kernel_rfl) (by kernel_rfl) (by kernel_rfl) rfl (fun _ _ _ h => (And.left (show (∀ c, _ ≠ Exit.panic c) ∧ _ from h) _ rfl).elim) (Or.inl ⟨by rfl, ?_⟩) hS8 ?_
        rotate_left
        · intro W hSW
          go_simp
          try with_reducible rfl
        simp only [Act.put, sA, s0, sS]
        refine wpAnyL_take' (i := 13) (v := ?_) (oi := ⟨some 49, .call ⟨.builtin .len, #[.tmp 48], #[43]⟩, 3, "grower.go:47", #[⟨12, .data⟩, ⟨2, .guard⟩], some (2, false)⟩) rfl (by kernel_rfl) (by kernel_rfl) (by kernel_rfl) (by kernel_rfl) rfl (fun _ _ _ h => (And.left (show (∀ c, _ ≠ Exit.panic c) ∧ _ from h) _ rfl).elim) (Or.inl ⟨by rfl, ?_⟩) hS8 ?_
        rotate_left
        · intro W hSW
          go_simp
          try with_reducible rfl
        simp only [Act.put, sA, s0, sS]
        refine wpAnyL_take' (i := 14) (v := ?_) (oi := ⟨some 50, .binOp .eql 3 (.tmp 49) (.const (.int .i64 0)) 3, 4, "grower.go:47", #[⟨13, .data⟩, ⟨2, .guard⟩], some (2, false)⟩) rfl (by kernel_rfl) (by kernel_rfl) (by kernel_rfl) (by kernel_rfl) rfl (fun _ _ _ h => (And.left (show (∀ c, _ ≠ Exit.panic c) ∧ _ from h) _ rfl).elim) (Or.inl ⟨by rfl, ?_⟩) hS8 ?_
        rotate_left
        · intro W hSW
          go_simp
          try with_reducible rfl
        simp only [Act.put, sA, s0, sS]
        refine wpAnyL_take' (i := 15) (v := ?_) (oi := ⟨some 51, .pick (.tmp 38) (.const (.bool true)) (.tmp 50), 4, "grower.go:47", #[⟨2, .data⟩, ⟨14, .data⟩], none⟩) rfl (by kernel_rfl) (by kernel_rfl) (by kernel_rfl) (by kernel_rfl) rfl (fun _ _ _ h => (And.left (show (∀ c, _ ≠ Exit.panic c) ∧ _ from h) _ rfl).elim) (Or.inl ⟨by rfl, ?_⟩) hS8 ?_
        rotate_left
        · intro W hSW
          go_simp
          try with_reducible rfl
        simp only [Act.put, sA, s0, sS]
        refine wpAnyL_done (by kernel_rfl) ?_ _
        have B8 := B7.drew
        have hY8 : W6.drew.cell? ⟨W4.heap.size, 0, none⟩ = some (.int .i64 s) := hY7
        have hYl8 : W4.heap.size < W6.drew.heap.size := hYl
        have HLK := looks_any G (x0, x1, x2) W6.drew
        unfold valR at HLK
        simp only at HLK
        have c08 := (HSI.out _ B8).1
        have y08 := (HSI.out _ B8).2.2.2.2.2.1
        have y18 := (HSI.out _ B8).2.2.2.2.2.2.1
        have y28 := (HSI.out _ B8).2.2.2.2.2.2.2.1
        generalize W6.drew = Wd at *
        gi_wp2_with fail
        refine ⟨trivial, fun _ => by omega, ?_⟩
        refine (callsIn_wide.2 HLK).mono ?_
        rintro e W7 ⟨rfl, ty7, rfl⟩
        have B9 : Below W4.heap.size W4 ((Wd.alloc (Obj.cells #[.pointer (some ⟨G, 0, none⟩)] ty7)).alloc (Obj.cells #[.int .i64 x0, .int .i64 x1, .int .i64 x2] 77)) := (B8.alloc B8.size _).alloc (by have := B8.size; simp; omega) _
        have k1 : ((Wd.alloc (Obj.cells #[.pointer (some ⟨G, 0, none⟩)] ty7)).alloc (Obj.cells #[.int .i64 x0, .int .i64 x1, .int .i64 x2] 77)).cell? ⟨Wd.heap.size, 0, none⟩ = some (.pointer (some ⟨G, 0, none⟩)) := (((Below.refl _ (Wd.alloc (Obj.cells #[.pointer (some ⟨G, 0, none⟩)] ty7))).alloc (Nat.le_refl _) _).cell (p := ⟨Wd.heap.size, 0, none⟩) (IBox _ _ Wd).2.2).trans (IBox _ _ Wd).1
        have k2 := RBox.new (x0, x1, x2) 77 (Wd.alloc (Obj.cells #[.pointer (some ⟨G, 0, none⟩)] ty7))
        rw [World.size_alloc] at k2
        have kY : ((Wd.alloc (Obj.cells #[.pointer (some ⟨G, 0, none⟩)] ty7)).alloc (Obj.cells #[.int .i64 x0, .int .i64 x1, .int .i64 x2] 77)).cell? ⟨W4.heap.size, 0, none⟩ = some (.int .i64 s) := ((((Below.refl _ Wd).alloc (Nat.le_refl _) _).alloc (by simp) _).cell (p := ⟨W4.heap.size, 0, none⟩) hYl8).trans hY8
        have hsz7 : ((Wd.alloc (Obj.cells #[.pointer (some ⟨G, 0, none⟩)] ty7)).alloc (Obj.cells #[.int .i64 x0, .int .i64 x1, .int .i64 x2] 77)).heap.size = Wd.heap.size + 2 := by simp
        have hYg : W4.heap.size ≤ W4.heap.size := by omega
        have hd4 := B8.size
        have hap : Apt (fun q => q < Bi ∨ q = w.heap.size ∨ q ∈ Ds ∨ q = W4.heap.size ∨ q = Wd.heap.size ∨ q = Wd.heap.size + 1) Bi Bc Bb G (.slice (some ⟨g, 0, none⟩) L.length lc) ((Wd.alloc (Obj.cells #[.pointer (some ⟨G, 0, none⟩)] ty7)).alloc (Obj.cells #[.int .i64 x0, .int .i64 x1, .int .i64 x2] 77)) := by
          have hg := HG4.out.lt
          refine ⟨fun q hq => ?_, fun q e hq => ?_⟩
          · rcases hq with hq | hq | hq | hq | hq | hq
            · exact (HAP4.out.next B9.size).1 q (.inl hq)
            · exact (HAP4.out.next B9.size).1 q (.inr (.inl hq))
            · exact (HAP4.out.next B9.size).1 q (.inr (.inr (.inl hq)))
            · omega
            · omega
            · omega
          · have hql := World.ownsRow.lt HG4.out.own q e
            rcases hq with hq | hq | hq | hq | hq | hq
            · exact HAP4.out.2 q e (.inl hq)
            · exact HAP4.out.2 q e (.inr (.inl hq))
            · exact HAP4.out.2 q e (.inr (.inr (.inl hq)))
            · omega
            · omega
            · omega
        have HFIN : Hid (∀ (D : Nat) (L' : List Ir) (C' S' : List (Int × Int)) (lv' : Value) (W' : World), GInv f S0 Bi Bc Bb G V w.heap.size w (D :: Ds) (k + 1) L' C' S' lv' W' → GInv f S0 Bi Bc Bb G V w.heap.size w (D :: Ds) (k + 1) L' C' S' lv' W') := fun _ _ _ _ _ _ h => h
        have HA7 : Hid (GS Bi Bc Bb G V (.slice (some ⟨g, 0, none⟩) L.length lc) L C S ((Wd.alloc (Obj.cells #[.pointer (some ⟨G, 0, none⟩)] ty7)).alloc (Obj.cells #[.int .i64 x0, .int .i64 x1, .int .i64 x2] 77))) := HG4.out.next B9
        have HM7 : Hid (Mk Bi Ds ((Wd.alloc (Obj.cells #[.pointer (some ⟨G, 0, none⟩)] ty7)).alloc (Obj.cells #[.int .i64 x0, .int .i64 x1, .int .i64 x2] 77))) := ⟨HMK4.out.1, fun d hd => ⟨(HMK4.out.2 d hd).1, (B9.block d (HMK4.out.lt d hd)).trans (HMK4.out.2 d hd).2⟩⟩
        have c07 := (HSI.out _ B9).1
        have bv7 := hBV4.trans (B9.mono hBV4.size)
        have bw7 := hBw4.trans (B9.mono (by have := hBw4.size; omega))
        have HK7 : Hid (_ ∧ _ ∧ _ ∧ _ ∧ _ ∧ _ ∧ _) := And.intro k1 (And.intro k2 (And.intro kY (And.intro hap (And.intro c07 (And.intro bv7 bw7)))))
        clear k1 k2 kY hap c07 bv7 bw7 B9 B8 c08 y08 y18 y28 hY8 HLK hS8
        generalize (Wd.alloc (Obj.cells #[.pointer (some ⟨G, 0, none⟩)] ty7)).alloc (Obj.cells #[.int .i64 x0, .int .i64 x1, .int .i64 x2] 77) = W8 at *
        gi_wp2
        refine grown_range n (by omega) f ⟨ta, tc, na, nc, pa, pc⟩ Le R wv Bi Bc Bb G V w.heap.size Wd.heap.size (Wd.heap.size + 1) W4.heap.size S0 Ds k s _ L C S (x0, x1, x2) w W8 HA7.out HV.out HFA.out HFE.out hwv HK7.out.2.2.2.2.2.1 HFP.out HGI.out.1 HGI.out.2.1 HGI.out.2.2 HNE.out HK7.out.2.2.2.1 HM7.out HK7.out.2.2.2.2.1 HK7.out.2.2.1 HK7.out.1 HK7.out.2.1 HK7.out.2.2.2.2.2.2 ?_
        intro D L' C' S' lv' W9 hinv
        have HI9 : Hid (GInv f S0 Bi Bc Bb G V w.heap.size w (D :: Ds) (k + 1) L' C' S' lv' W9) := hinv
        clear hinv HA7 HM7 HK7 HFIN
        gi_wp2
        exact ⟨maxI + 1 - (k + 1), by unfold maxI; omega, _, _, _, _, _, _, _, _, _, _, _, _, _, _, _, _, _, _, _, _, _, _, _, _, _, _, _, _, _, _, _, _, _, _, _, _, _, _, _, _, _, _, _, _, _, _, _, _, _, _, _, _, _, _, _, _, _, D :: Ds, k + 1, L', C', S', _, rfl, rfl, HI9.out⟩
end Go.Proofs.YtbilbgjojdlobaaGreatDoor
