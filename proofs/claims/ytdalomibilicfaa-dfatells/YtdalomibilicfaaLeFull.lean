/- The document's Least: a machine as a table. -/
import Derived.Test.YtdalomibilicfaaJLeMath
import Derived.Test.YtdalomibilicfaaPRefined
import Derived.Test.YtdalomibilicfaaDSmall
namespace Go.Proofs.Ytdalomibilicfaa
open Go.RowKit Go.Shelf

set_option maxRecDepth 100000 in
set_option maxHeartbeats 800000 in
theorem at_any (c : List Int) (cv : Value) (q : Int) (w : World) (hc : SlI c cv w) (hq : q < c.length) :
    Calls Try.prog 37 #[cv, .int .i64 q] w fun e w' => e = .returned (.int .i64 (clv c q)) ∧ w' = w := by
  by_cases h : q < 0
  · have HV : Hid (clv c q = -1) := by show _ = _; unfold clv; rw [if_pos h]
    have d1 : decide (q < 0) = true := decide_eq_true h
    obtain ⟨ca, cc, rfl, _⟩ := hc
    go_enter Try.func37, Try.ntmps37
    go_wp2_with fail
    go_ret
    exact ⟨by rw [HV.out]; rfl, rfl⟩
  · obtain ⟨k, rfl⟩ : ∃ k : Nat, q = k := ⟨q.toNat, by omega⟩
    have hk : k < c.length := by omega
    have HV : Hid (clv c (k : Int) = c[k]) := by
      show _ = _
      unfold clv
      rw [if_neg h, Int.toNat_natCast, List.getElem?_eq_getElem hk]
      rfl
    obtain ⟨ca, cc, rfl, hr, _⟩ := hc
    obtain ⟨b, off, rfl, hb, c1⟩ := hr.at (Below.refl _ _) hk
    have c2 : w.cell? ⟨b, off + k, none⟩ = some (.int .i64 c[k]) := c1
    have d1 : decide ((k : Int) < 0) = false := decide_eq_false (by omega)
    generalize c[k] = x at *
    clear hr c1 h
    go_enter Try.func37, Try.ntmps37
    go_wp2_with fail
    go_ret
    exact ⟨by rw [HV.out]; rfl, rfl⟩
def rowG (l : List Ds) (i : Nat) : List Int := (List.range 256).map fun z : Nat => ledD l i z
def gridG (l : List Ds) : List (List Int) := (List.range l.length).map (rowG l)
/-- A row of 256 numbers that is laid. -/
structure RwP (wo : World) (f : Nat → Int) (V : World) : Prop where
  bel : Below wo.heap.size wo V
  row : V.ownsRow wo.heap.size 3 1 (.slice (some ⟨wo.heap.size, 0, none⟩) 256 256) 256 (((List.range 256).map f).map encI)
theorem RwP.ext {wo : World} {f g : Nat → Int} {V : World} (h : RwP wo f V) (e : ∀ z, z < 256 → f z = g z) : RwP wo g V := by
  have : (List.range 256).map f = (List.range 256).map g := List.map_congr_left (fun z hz => e z (List.mem_range.1 hz))
  exact ⟨h.bel, this ▸ h.row⟩
theorem RwP.put {wo : World} {f : Nat → Int} {V : World} (h : RwP wo f V) {j : Nat} (_ : j < 256) (x : Int) : RwP wo (fun z => if z = j then x else f z) (V.setCell ⟨wo.heap.size, j, none⟩ (.int .i64 x)) := by
  refine ⟨below_but h.bel ((But.refl (fun k => k = wo.heap.size) V).setCell _ _ (.inr rfl)) (Nat.le_refl _) (fun k hk => by omega), ?_⟩
  have h9 := (World.ownsRow.stored h.row j (.int .i64 x)).1
  have e : (((List.range 256).map f).map encI).set j (.int .i64 x) = ((List.range 256).map fun z => if z = j then x else f z).map encI := by
    apply List.ext_getElem
    · simp
    · intro i h1 h2
      simp only [List.length_set, List.length_map, List.length_range] at h1
      rw [List.getElem_set]
      simp only [List.getElem_map, List.getElem_range]
      by_cases hij : j = i
      · rw [if_pos hij, if_pos hij.symm]; rfl
      · rw [if_neg hij, if_neg (fun e => hij e.symm)]
  rw [e] at h9
  exact h9
theorem RwP.facts {wo : World} {f : Nat → Int} {V : World} (h : RwP wo f V) {j : Nat} (hj : j < 256) : V.cell? ⟨wo.heap.size, j, none⟩ = some (.int .i64 (f j)) ∧ V.frozen? ⟨wo.heap.size, j, none⟩ = false :=
  ⟨own_cells1 h.row (by simp [hj, encI]), World.ownsRow.frozenAt h.row _⟩
theorem nextA_take {l : List Ar} (hu : upA l 0) {k : Nat} (hk : k < l.length) (z : Int) : nextA (l.take (k + 1)) z = if l[k].lo ≤ z ∧ z ≤ l[k].hi then l[k].tg else nextA (l.take k) z := by
  have e : l.take (k + 1) = l.take k ++ [l[k]] := by rw [List.take_succ_eq_append_getElem hk]
  unfold nextA
  rw [e, arcOf_app]
  by_cases hz : l[k].lo ≤ z ∧ z ≤ l[k].hi
  · rw [if_pos hz]
    have h1 : arcOf (l.take k ++ l.drop k) z = some l[k] := by rw [List.take_append_drop]; exact arcOf_in hu l[k] (List.getElem_mem hk) z hz.1 hz.2
    rw [arcOf_app] at h1
    cases hx : arcOf (l.take k) z with
    | some y =>
      rw [hx] at h1
      simp only [Option.some_or, Option.some.injEq] at h1
      simp only [Option.some_or]
      rw [h1]
    | none => simp only [arcOf, Option.none_or]; rw [if_pos hz]
  · rw [if_neg hz]
    cases hx : arcOf (l.take k) z with
    | some y => rfl
    | none => simp only [arcOf, Option.none_or]; rw [if_neg hz]
/-- How far the table is laid. -/
structure FI (l : List Ds) (v : Value) (w : World) (i m : Nat) (nv av : Value) (vs : List Value) (V : World) : Prop where
  bel : Below w.heap.size w V
  db : V.heap[w.heap.size]? = some (Obj.cells #[v] 24)
  rb : V.heap[w.heap.size + 1]? = some (Obj.cells #[.slice none 0 0, .slice none 0 0] 68)
  gb : V.heap[w.heap.size + 1 + 1]? = some (Obj.cells #[nv, av] 68)
  vl : vs.length = i
  nx : V.ownsRow (w.heap.size + 3) 57 1 nv i vs
  rw : ∀ (j : Nat) u, vs[j]? = some u → V.ownsRow (w.heap.size + 3) 3 1 u 256 ((rowG l j).map encI)
  ac : V.ownsRow (w.heap.size + 3) 3 1 av m (((l.map Ds.acc).take m).map encI)
  nb : ∀ (j : Nat) u k, vs[j]? = some u → av.ownBlock = some k → u.ownBlock ≠ some k
theorem FI.next {l : List Ds} {v : Value} {w : World} {i m : Nat} {nv av : Value} {vs : List Value} {V V' : World} (h : FI l v w i m nv av vs V) (hb : Below V.heap.size V V') : FI l v w i m nv av vs V' :=
  ⟨h.bel.trans (hb.mono h.bel.size), (hb.block _ (blk_lt h.db)).trans h.db, (hb.block _ (blk_lt h.rb)).trans h.rb, (hb.block _ (blk_lt h.gb)).trans h.gb, h.vl, own_below h.nx hb, fun j u hu => own_below (h.rw j u hu) hb, own_below h.ac hb, h.nb⟩
theorem infoRI : (Try.prog.info? 57).map (fun i => (i.zero, i.size, i.bytes)) = some (some (.slice none 0 0), 1, 24) := by kernel_rfl
theorem FI.lo {l : List Ds} {v : Value} {w : World} {i m : Nat} {nv av : Value} {vs : List Value} {V : World} (_h : FI l v w i m nv av vs V) {e : TypeId} {u : Value} {n : Nat} {xs : List Value} {W : World} (hu : W.ownsRow (w.heap.size + 3) e 1 u n xs) : ∀ k, u.ownBlock = some k → k ≠ w.heap.size ∧ k ≠ w.heap.size + 1 ∧ k ≠ w.heap.size + 1 + 1 ∧ w.heap.size ≤ k := fun k hk => by
  have := (World.ownsRow.lt hu k hk).1
  omega
/-- A row more: in the row of rows. -/
theorem FI.add {l : List Ds} {v : Value} {w : World} {i m : Nat} {nv av : Value} {vs : List Value} {V W : World} (h : FI l v w i m nv av vs V) {rv : Value} (hr : V.ownsRow (w.heap.size + 3) 3 1 rv 256 ((rowG l i).map encI)) (hra : ∀ k, av.ownBlock = some k → rv.ownBlock ≠ some k)
    {nv' : Value} (hn : W.ownsRow (w.heap.size + 3) 57 1 nv' (i + 1) (vs ++ [rv])) (hb : But (fun k => nv.ownBlock = some k) V W) : FI l v w (i + 1) m nv' av (vs ++ [rv]) (W.setCell ⟨w.heap.size + 1 + 1, 0, none⟩ nv') := by
  have lo := h.lo h.nx
  have b2 : But (fun k => k = w.heap.size + 1 + 1) W (W.setCell ⟨w.heap.size + 1 + 1, 0, none⟩ nv') := (But.refl _ _).setCell _ _ (.inr rfl)
  have ty : ∀ {n : Nat} {u : Value} {xs : List Value}, V.ownsRow (w.heap.size + 3) 3 1 u n xs → (W.setCell ⟨w.heap.size + 1 + 1, 0, none⟩ nv').ownsRow (w.heap.size + 3) 3 1 u n xs := fun {n u xs} hu => by
    refine ownsRow_keep (ownsRow_keep hu hb (fun k hk e => ?_)) b2 (fun k hk e => (h.lo hu k hk).2.2.1 e)
    obtain ⟨cs, hcs⟩ := own_is_cells h.nx e
    exact own_nb hu hcs (by decide) hk
  refine ⟨below_but (below_but h.bel hb (Nat.le_refl _) (fun k hk => (lo k hk).2.2.2)) b2 (Nat.le_refl _) (fun k hk => by omega), set_blk (but_blk hb h.db (fun e => (lo _ e).1 rfl)) (by omega), set_blk (but_blk hb h.rb (fun e => (lo _ e).2.1 rfl)) (by omega), ?_, by simp [h.vl], ?_, fun j u hu => ?_, ty h.ac, fun j u k hu hk => ?_⟩
  · simpa using blk_set (o := 0) (but_blk hb h.gb (fun e => (lo _ e).2.2.1 rfl)) nv'
  · exact ownsRow_keep hn b2 (fun k hk e => (h.lo hn k hk).2.2.1 e)
  · rcases snoc_get hu with ⟨_, hu2⟩ | ⟨e1, e2⟩
    · exact ty (h.rw j u hu2)
    · rw [e1, h.vl, e2]; exact ty hr
  · rcases snoc_get hu with ⟨_, hu2⟩ | ⟨e1, e2⟩
    · exact h.nb j u k hu2 hk
    · rw [e2]; exact hra k hk
/-- A number more. -/
theorem FI.acc {l : List Ds} {v : Value} {w : World} {i m : Nat} {nv av : Value} {vs : List Value} {V W : World} (h : FI l v w i m nv av vs V) {x : Int} (hx : (l.map Ds.acc).take (m + 1) = (l.map Ds.acc).take m ++ [x])
    {av' : Value} (hn : W.ownsRow (w.heap.size + 3) 3 1 av' (m + 1) (((l.map Ds.acc).take m).map encI ++ [.int .i64 x])) (hb : But (fun k => av.ownBlock = some k) V W) (hat : av'.ownBlock = av.ownBlock ∨ ∃ k, av'.ownBlock = some k ∧ V.heap.size ≤ k) : FI l v w i (m + 1) nv av' vs (W.setCell ⟨w.heap.size + 1 + 1, 1, none⟩ av') := by
  have lo := h.lo h.ac
  have b2 : But (fun k => k = w.heap.size + 1 + 1) W (W.setCell ⟨w.heap.size + 1 + 1, 1, none⟩ av') := (But.refl _ _).setCell _ _ (.inr rfl)
  refine ⟨below_but (below_but h.bel hb (Nat.le_refl _) (fun k hk => (lo k hk).2.2.2)) b2 (Nat.le_refl _) (fun k hk => by omega), set_blk (but_blk hb h.db (fun e => (lo _ e).1 rfl)) (by omega), set_blk (but_blk hb h.rb (fun e => (lo _ e).2.1 rfl)) (by omega), ?_, h.vl, ?_, fun j u hu => ?_, ?_, fun j u k hu hk => ?_⟩
  · simpa using blk_set (o := 1) (but_blk hb h.gb (fun e => (lo _ e).2.2.1 rfl)) av'
  · refine ownsRow_keep (ownsRow_keep h.nx hb (fun k hk e => ?_)) b2 (fun k hk e => (h.lo h.nx k hk).2.2.1 e)
    obtain ⟨cs, hcs⟩ := own_is_cells h.ac e
    exact own_nb h.nx hcs (by decide) hk
  · exact ownsRow_keep (ownsRow_keep (h.rw j u hu) hb (fun k hk e => h.nb j u k hu e hk)) b2 (fun k hk e => (h.lo (h.rw j u hu) k hk).2.2.1 e)
  · have h9 := ownsRow_keep hn b2 (fun k hk e => (h.lo hn k hk).2.2.1 e)
    rw [hx, List.map_append]
    exact h9
  · rcases hat with e | ⟨k', e, hk'⟩
    · exact h.nb j u k hu (by rw [← e]; exact hk)
    · rw [e] at hk
      cases hk
      intro e2
      have := (World.ownsRow.lt (h.rw j u hu) _ e2).2
      omega

set_option maxRecDepth 100000 in
set_option maxHeartbeats 3200000 in
theorem full_any (l : List Ds) (v : Value) (w : World) (hl : SlD l v w) (hf : fitD l) (hn : l.length ≤ 60) :
    Calls Try.prog 35 #[.agg #[v]] w fun e w' => ∃ nv av, e = .returned (.agg #[nv, av]) ∧ SlR (gridG l) nv w' ∧ SlI (l.map Ds.acc) av w' ∧ Below w.heap.size w w' := by
  have HD : Hid (∀ W, Below w.heap.size w W → SlD l v W) := fun W h => hl.next h
  obtain ⟨va, vc, rfl, _⟩ := hl
  have HFF : Hid (fitD l) := hf
  obtain ⟨w0, hw0⟩ : ∃ w0, w0 = ((w.alloc (Obj.cells #[.slice va l.length vc] 24)).alloc (Obj.cells #[.slice none 0 0, .slice none 0 0] 68)).alloc (Obj.cells #[.slice none 0 0, .slice none 0 0] 68) := ⟨_, rfl⟩
  have HI0 : Hid (FI l (.slice va l.length vc) w 0 0 (.slice none 0 0) (.slice none 0 0) [] w0) := by
    have a2 := heap_alloc_new (w.alloc (Obj.cells #[.slice va l.length vc] 24)) (Obj.cells #[.slice none 0 0, .slice none 0 0] 68)
    have a3 := heap_alloc_new ((w.alloc (Obj.cells #[.slice va l.length vc] 24)).alloc (Obj.cells #[.slice none 0 0, .slice none 0 0] 68)) (Obj.cells #[.slice none 0 0, .slice none 0 0] 68)
    refine ⟨?_, ?_, ?_, ?_, rfl, ?_, fun j u hu => by simp at hu, ?_, fun j u k hu => by simp at hu⟩
    · rw [hw0]; exact (((Below.refl _ _).alloc (Nat.le_refl _) _).alloc (by simp) _).alloc (by simp; omega) _
    · rw [hw0]; exact blk_new (blk_new (heap_alloc_new _ _))
    · rw [hw0]; exact blk_new (by simpa using a2)
    · rw [hw0]; simpa using a3
    · exact World.ownsRow_nil _ _ _ _
    · simpa using World.ownsRow_nil w0 (w.heap.size + 3) 3 1
  clear hf
  go_enter Try.func35, Try.ntmps35
  go_upto_region 2 with fail
  rw [← hw0]
  clear hw0
  go_wp2_with fail
  go_loopw [4] (fun iv wr => ∃ (i : Nat) (nv av : Value) (vs : List Value), iv = .int .i64 i ∧ i ≤ l.length ∧ Hid (FI l (.slice va l.length vc) w i i nv av vs wr)) (fun i _ => l.length - (intOf i).toNat)
  case atStart => exact ⟨0, _, _, _, rfl, Nat.zero_le _, HI0.out⟩
  case round =>
    rename World => wo
    clear HI0
    obtain ⟨i, nv, av, vs, rfl, hi, HI⟩ := hrel
    have d0 : wo.cell? ⟨w.heap.size, 0, none⟩ = some (.slice va l.length vc) := by rw [Lib.cell_of_heap HI.out.db]; rfl
    by_cases hlt : i < l.length
    case neg =>
      obtain rfl : i = l.length := by omega
      obtain ⟨na, nc, rfl⟩ := slice_of_ownK HI.out.nx
      obtain ⟨aa, ac, rfl⟩ := slice_of_ownK HI.out.ac
      have g0 : wo.cell? ⟨w.heap.size + 1 + 1, 0, none⟩ = some (.slice na l.length nc) := by rw [Lib.cell_of_heap HI.out.gb]; rfl
      have g1 : wo.cell? ⟨w.heap.size + 1 + 1, 1, none⟩ = some (.slice aa l.length ac) := by rw [Lib.cell_of_heap HI.out.gb]; rfl
      have r0 : wo.cell? ⟨w.heap.size + 1, 0, none⟩ = some (.slice none 0 0) := by rw [Lib.cell_of_heap HI.out.rb]; rfl
      have r1 : wo.cell? ⟨w.heap.size + 1, 1, none⟩ = some (.slice none 0 0) := by rw [Lib.cell_of_heap HI.out.rb]; rfl
      have f0 : wo.frozen? ⟨w.heap.size + 1, 0, none⟩ = false := Lib.frozen_of_heap HI.out.rb _
      have f1 : wo.frozen? ⟨w.heap.size + 1, 1, none⟩ = false := Lib.frozen_of_heap HI.out.rb _
      have HZ : Hid (∀ W, W = (wo.setCell ⟨w.heap.size + 1, 0, none⟩ (.slice na l.length nc)).setCell ⟨w.heap.size + 1, 1, none⟩ (.slice aa l.length ac) → W.heap[w.heap.size + 1]? = some (Obj.cells #[(.slice na l.length nc), (.slice aa l.length ac)] 68) ∧ SlR (gridG l) (.slice na l.length nc) W ∧ SlI (l.map Ds.acc) (.slice aa l.length ac) W ∧ Below w.heap.size w W) := fun W hW => by
        have h := HI.out
        have b1 : But (fun k => k = w.heap.size + 1) wo W := by rw [hW]; exact ((But.refl (fun k => k = w.heap.size + 1) wo).setCell _ _ (.inr rfl)).setCell _ _ (.inr rfl)
        have keep : ∀ {e : TypeId} {n : Nat} {u : Value} {xs : List Value}, wo.ownsRow (w.heap.size + 3) e 1 u n xs → W.ownsRow (w.heap.size + 3) e 1 u n xs := fun {e n u xs} hu => ownsRow_keep hu b1 (fun k hk e => by have := (World.ownsRow.lt hu k hk).1; omega)
        refine ⟨?_, ?_, ?_, below_but h.bel b1 (Nat.le_refl _) (fun k hk => by omega)⟩
        · rw [hW]
          simpa using blk_set (o := 1) (blk_set (o := 0) h.rb (.slice na l.length nc)) (.slice aa l.length ac)
        · have hnx := keep h.nx
          refine ⟨na, nc, by rw [show (gridG l).length = l.length by simp [gridG]], fun j r hr => ?_, ?_, ?_⟩
          · have hj : j < l.length := by have := (List.getElem?_eq_some_iff.1 hr).1; simpa [gridG] using this
            have hju : vs[j]? = some (vs[j]'(by rw [h.vl]; exact hj)) := List.getElem?_eq_getElem _
            have hrj : r = rowG l j := by
              have : (gridG l)[j]? = some (rowG l j) := by simp [gridG, hj]
              rw [this] at hr
              exact (Option.some.inj hr).symm
            rcases hnx.2 with ⟨h1, h2⟩ | ⟨g, cap, cur, h1, hB, hg, h3⟩
            · omega
            · cases h1
              have hcl := own_cells1 hnx hju
              refine ⟨g, 0, _, rfl, (Array.getElem?_eq_some_iff.1 hg).1, by rw [Nat.zero_add]; exact hcl, ?_⟩
              rw [hrj]
              refine sli_own (B := w.heap.size + 3) ?_ (fun y hy => ?_)
              · unfold Own1
                rw [show (rowG l j).length = 256 by simp [rowG]]
                exact keep (h.rw j _ hju)
              · obtain ⟨z, _, rfl⟩ := List.mem_map.1 hy
                have := led_ok HFF.out (a := (j : Int)) ⟨by omega, by omega⟩ z
                exact ⟨by have := this.1; omega, by have := this.2; omega⟩
          · intro e
            rcases hnx.2 with ⟨h1, _⟩ | ⟨g, cap, cur, h1, _⟩
            · simp at h1; exact h1.2.2
            · cases h1; cases e
          · rw [show (gridG l).length = l.length by simp [gridG]]
            rcases hnx.2 with ⟨h1, h2⟩ | ⟨g, cap, cur, h1, hB, hg, hle, _⟩
            · omega
            · cases h1; exact hle
        · refine sli_own (B := w.heap.size + 3) ?_ (fun y hy => ?_)
          · unfold Own1
            have h9 := keep h.ac
            rw [List.take_of_length_le (by simp)] at h9
            rw [List.length_map]
            exact h9
          · obtain ⟨s, hs, rfl⟩ := List.mem_map.1 hy
            obtain ⟨_, _, e0, hd, _⟩ := HD.out wo h.bel
            obtain ⟨j, hj⟩ := List.getElem?_of_mem hs
            obtain ⟨_, _, _, _, _, _, _, _, hb⟩ := hd j s hj
            exact hb
      have d1 : decide ((l.length : Int) < l.length) = false := decide_eq_false (by omega)
      clear HI HD HFF hlt
      go_wp2_with fail
      have HZ2 := HZ.out _ rfl
      refine bodyPost_ret (results_cell_row rfl _ _ (w.heap.size + 1) 68 #[(.slice na l.length nc), (.slice aa l.length ac)] (0, 0) _ rfl HZ2.1 Try.underlying68 rfl (by kernel_rfl)) rfl ?_
      exact ⟨(.slice na l.length nc), (.slice aa l.length ac), rfl, HZ2.2.1, HZ2.2.2.1, HZ2.2.2.2⟩
    obtain ⟨ii, hii, hz0, hz1, hz2⟩ := info_parts info3
    obtain ⟨wm, hm1, hm2, hm3⟩ := run_makeSlice_full (P := Try.prog) wo wo.heap.size 57 3 ii _ 1 Try.underlying57 hii hz0 hz1 .i64 .i64 256 (by omega) (by rw [hz2]; omega) (by unfold maxLen; omega) (Nat.le_refl _)
    have hm1' : ((256 : Nat) : Int) = 256 := rfl
    rw [hm1'] at hm1
    have HRW : Hid (RwP wo (fun _ => 0) wm) := by
      refine ⟨(but_grown (A := fun _ => False) hm3 (fun r h => by cases h)).below (Nat.le_refl _) (fun _ h => h.elim), ?_⟩
      have h1 : (madeCells (Value.int .i64 0).cells (256 * 1)).toList = List.replicate 256 (encI 0) := by rw [Nat.mul_one]; exact toList_madeCells_one _ _
      have h2 : ((List.range 256).map fun _ => (0 : Int)).map encI = List.replicate 256 (encI 0) := by
        rw [List.map_const', List.map_replicate, List.length_range]
      rw [h2, ← h1]
      exact hm2
    have d1 : decide ((i : Int) < l.length) = true := decide_eq_true (by omega)
    clear hm2 hm3 hm1'
    go_wp2_with fail
    clear hm1 d1
    go_loopw [6] (fun cv wr => ∃ c : Nat, cv = .int .i64 c ∧ c ≤ 256 ∧ Hid (RwP wo (fun z => if z < c then -1 else 0) wr)) (fun i _ => 256 - (intOf i).toNat)
    case atStart => exact ⟨0, rfl, by omega, HRW.out.ext (fun z _ => by simp)⟩
    case round =>
      rename World => wr
      clear HRW
      obtain ⟨c, rfl, hc, HR⟩ := hrel
      by_cases hlc : c < 256
      case pos =>
        obtain ⟨k1, k2⟩ := HR.out.facts hlc
        have HE : Hid (RwP wo (fun z => if z < c + 1 then -1 else 0) (wr.setCell ⟨wo.heap.size, c, none⟩ (.int .i64 (-1)))) := (HR.out.put hlc (-1)).ext (fun z _ => by
          by_cases e : z = c
          · rw [if_pos e, if_pos (by omega)]
          · rw [if_neg e]
            by_cases h : z < c
            · rw [if_pos h, if_pos (by omega)]
            · rw [if_neg h, if_neg (by omega)])
        have d1 : decide ((c : Int) < 256) = true := decide_eq_true (by omega)
        clear HR HI HD HFF d0
        go_wp2_with fail
        exact ⟨⟨c + 1, by go_num, by omega, HE.out⟩, by simp [intOf]; omega⟩
      obtain rfl : c = 256 := by omega
      have HR0 : Hid (RwP wo (fun z => nextA (l[i].arcs.take 0) z) wr) := HR.out.ext (fun z hz => by rw [if_pos hz]; rfl)
      clear HR hlc
      have hIo := HI.out
      obtain ⟨_, _, e0, hd, _⟩ := HD.out w (Below.refl _ _)
      cases e0
      obtain ⟨b2, o2, u, rfl, hb2, q0, q1, hA, _⟩ := hd.at (Below.refl _ _) hlt
      have hA := hA.next hIo.bel
      have HU : Hid (upA l[i].arcs 0 ∧ (∀ x ∈ l[i].arcs, 0 ≤ x.tg ∧ x.tg < l.length) ∧ (∀ z : Int, nextA l[i].arcs z = ledD l i z)) := by
        have h := HFF.out.at hlt
        have e := (arcsD_mem hlt).1
        rw [e] at h
        exact ⟨h.1, h.2, fun z => by unfold ledD; rw [e]⟩
      have HAC : Hid (∀ W, Below wo.heap.size wo W → W.cell? ⟨b2, o2 + i * 2, none⟩ = some u ∧ W.cell? ⟨b2, o2 + i * 2 + 1, none⟩ = some (.int .i64 l[i].acc) ∧ W.cell? ⟨w.heap.size, 0, none⟩ = some (.slice (some ⟨b2, o2, none⟩) l.length vc)) := fun W hW => ⟨((hIo.bel.trans (hW.mono hIo.bel.size)).cell (p := ⟨b2, o2 + i * 2, none⟩) hb2).trans q0, ((hIo.bel.trans (hW.mono hIo.bel.size)).cell (p := ⟨b2, o2 + i * 2 + 1, none⟩) hb2).trans q1, (hW.cell (p := ⟨w.heap.size, 0, none⟩) (World.block_lt_of_cell? _ _ d0)).trans d0⟩
      have HLX : Hid ((l.map Ds.acc).take (i + 1) = (l.map Ds.acc).take i ++ [l[i].acc]) := by
        show _ = _
        rw [List.take_succ_eq_append_getElem (by simpa using hlt)]
        simp
      have HQ1 : Hid (w.cell? ⟨b2, o2 + i * 2 + 1, none⟩ = some (.int .i64 l[i].acc) ∧ b2 < w.heap.size) := ⟨q1, hb2⟩
      generalize l[i].arcs = R at *
      generalize l[i].acc = xacc at *
      obtain ⟨xa, xc, rfl, hAr, _⟩ := hA
      have HAR : Hid (∀ k (hk : k < R.length), ∃ b3 o3, xa = some ⟨b3, o3, none⟩ ∧ ∀ W, Below wo.heap.size wo W → W.cell? ⟨b3, o3 + k * 3, none⟩ = some (.int .i64 R[k].lo) ∧ W.cell? ⟨b3, o3 + k * 3 + 1, none⟩ = some (.int .i64 R[k].hi) ∧ W.cell? ⟨b3, o3 + k * 3 + 2, none⟩ = some (.int .i64 R[k].tg)) := fun k hk => by
        obtain ⟨b3, o3, e1, hb3, r0, r1, r2, _⟩ := hAr.at (Below.refl _ _) hk
        exact ⟨b3, o3, e1, fun W hW => ⟨(hW.cell (p := ⟨b3, o3 + k * 3, none⟩) hb3).trans r0, (hW.cell (p := ⟨b3, o3 + k * 3 + 1, none⟩) hb3).trans r1, (hW.cell (p := ⟨b3, o3 + k * 3 + 2, none⟩) hb3).trans r2⟩⟩
      obtain ⟨c0, _, c2⟩ := HAC.out wr HR0.out.bel
      have d1 : decide ((256 : Int) < 256) = false := by decide
      clear hd hIo HD HFF d0 q0 q1 hAr hb2
      go_wp2_with fail
      clear c0 c2 d1
      go_loopw [8] (fun kv wq => ∃ k : Nat, kv = .int .i64 k ∧ k ≤ R.length ∧ Hid (RwP wo (fun z => nextA (R.take k) z) wq)) (fun i _ => R.length - (intOf i).toNat)
      case atStart => exact ⟨0, rfl, Nat.zero_le _, HR0.out⟩
      case round =>
        rename World => wq
        clear HR0
        obtain ⟨k, rfl, hk, HK⟩ := hrel
        by_cases hlk : k < R.length
        case pos =>
          obtain ⟨b3, o3, rfl, hr⟩ := HAR.out k hlk
          have hlo := upA_low HU.out.1 R[k] (List.getElem_mem hlk)
          have hhi : R[k].hi ≤ 255 := by
            have h9 := HU.out.1
            have : ∀ {R : List Ar} {a : Int}, upA R a → ∀ x ∈ R, x.hi ≤ 255 := by
              intro R
              induction R with
              | nil => intro a _ x hx; cases hx
              | cons y R ih =>
                intro a h x hx
                unfold upA at h
                rcases List.mem_cons.1 hx with rfl | hx
                · exact h.2.2.1
                · exact ih h.2.2.2 x hx
            exact this h9 _ (List.getElem_mem hlk)
          have HT : Hid (∀ z : Int, nextA (R.take (k + 1)) z = if R[k].lo ≤ z ∧ z ≤ R[k].hi then R[k].tg else nextA (R.take k) z) := nextA_take HU.out.1 hlk
          have HRR : Hid (∀ W, Below wo.heap.size wo W → W.cell? ⟨b3, o3 + k * 3, none⟩ = some (.int .i64 R[k].lo) ∧ W.cell? ⟨b3, o3 + k * 3 + 1, none⟩ = some (.int .i64 R[k].hi) ∧ W.cell? ⟨b3, o3 + k * 3 + 2, none⟩ = some (.int .i64 R[k].tg)) := hr
          clear hr
          generalize R[k] = x at *
          obtain ⟨lo, hi2, tg⟩ := x
          simp only at hlo hhi HT HRR
          obtain ⟨lo, rfl⟩ : ∃ n : Nat, lo = n := ⟨lo.toNat, by omega⟩
          obtain ⟨hi2, rfl⟩ : ∃ n : Nat, hi2 = n := ⟨hi2.toNat, by omega⟩
          obtain ⟨r0, _, _⟩ := HRR.out wq HK.out.bel
          have d1 : decide ((k : Int) < R.length) = true := decide_eq_true (by omega)
          have HL0 : Hid (RwP wo (fun z => if lo ≤ z ∧ z < lo then tg else nextA (R.take k) z) wq) := HK.out.ext (fun z _ => by rw [if_neg (by omega)])
          clear HK
          go_wp2_with fail
          clear r0 d1
          go_loopw [9] (fun cv wz => ∃ c : Nat, cv = .int .i64 c ∧ lo ≤ c ∧ c ≤ hi2 + 1 ∧ Hid (RwP wo (fun z => if lo ≤ z ∧ z < c then tg else nextA (R.take k) z) wz)) (fun i _ => 256 - (intOf i).toNat)
          case atStart => exact ⟨lo, rfl, Nat.le_refl _, by omega, HL0.out⟩
          case round =>
            rename World => wz
            clear HL0
            obtain ⟨c, rfl, hc1, hc2, HC⟩ := hrel
            obtain ⟨_, r1, r2⟩ := HRR.out wz HC.out.bel
            by_cases hch : c ≤ hi2
            · obtain ⟨k1, k2⟩ := HC.out.facts (j := c) (by omega)
              have HE : Hid (RwP wo (fun z => if lo ≤ z ∧ z < c + 1 then tg else nextA (R.take k) z) (wz.setCell ⟨wo.heap.size, c, none⟩ (.int .i64 tg))) := (HC.out.put (j := c) (by omega) tg).ext (fun z _ => by
                by_cases e : z = c
                · rw [if_pos e, if_pos (by omega)]
                · rw [if_neg e]
                  by_cases h : lo ≤ z ∧ z < c
                  · rw [if_pos h, if_pos (by omega)]
                  · rw [if_neg h, if_neg (by omega)])
              have d1 : decide ((c : Int) ≤ (hi2 : Int)) = true := decide_eq_true (by omega)
              clear HC HI HU HAC HLX HAR HT HRR
              go_wp2_with fail
              exact ⟨⟨c + 1, by go_num, by omega, by omega, HE.out⟩, by simp [intOf]; omega⟩
            · obtain rfl : c = hi2 + 1 := by omega
              have HE : Hid (RwP wo (fun z => nextA (R.take (k + 1)) z) wz) := HC.out.ext (fun z _ => by
                rw [HT.out]
                by_cases h : lo ≤ z ∧ z < hi2 + 1
                · rw [if_pos h, if_pos (by omega)]
                · rw [if_neg h, if_neg (by omega)])
              have d1 : decide (((hi2 + 1 : Nat) : Int) ≤ (hi2 : Int)) = false := decide_eq_false (by omega)
              clear HC HI HU HAC HLX HAR HT HRR
              go_wp2_with fail
              exact ⟨⟨k + 1, by go_num, by omega, HE.out⟩, by simp [intOf]; omega⟩
        obtain rfl : k = R.length := by omega
        have HRW : Hid (RwP wo (fun z => ledD l i z) wq) := HK.out.ext (fun z _ => by rw [List.take_of_length_le (Nat.le_refl _), HU.out.2.2])
        have d1 : decide ((R.length : Int) < R.length) = false := decide_eq_false (by omega)
        have HIQ : Hid (FI l (.slice (some ⟨b2, o2, none⟩) l.length vc) w i i nv av vs wq ∧ ∀ k, av.ownBlock = some k → k < wo.heap.size) := ⟨HI.out.next HRW.out.bel, fun k hk => (World.ownsRow.lt HI.out.ac k hk).2⟩
        have hwo : w.heap.size + 3 ≤ wo.heap.size := by have := blk_lt HI.out.gb; omega
        clear HK hlk HI HU HAR
        obtain ⟨na, nc, rfl⟩ := slice_of_ownK HIQ.out.1.nx
        obtain ⟨aa, ac, rfl⟩ := slice_of_ownK HIQ.out.1.ac
        have g0 : wq.cell? ⟨w.heap.size + 1 + 1, 0, none⟩ = some (.slice na i nc) := by rw [Lib.cell_of_heap HIQ.out.1.gb]; rfl
        obtain ⟨ir, hir, hr0, hr1, hr2⟩ := info_parts infoRI
        have bA : Below wq.heap.size wq (wq.alloc (Obj.cells #[.slice (some ⟨wo.heap.size, 0, none⟩) 256 256] 57)) := below_box _ _ _
        have hnw := new_cell wq (.slice (some ⟨wo.heap.size, 0, none⟩) 256 256) 57
        have hON := own_below HIQ.out.1.nx bA
        have hszn : w.heap.size + 3 ≤ (wq.alloc (Obj.cells #[.slice (some ⟨wo.heap.size, 0, none⟩) 256 256] 57)).heap.size := Nat.le_trans (Nat.le_trans hwo HRW.out.bel.size) bA.size
        have HBA : Hid (Below wq.heap.size wq (wq.alloc (Obj.cells #[.slice (some ⟨wo.heap.size, 0, none⟩) 256 256] 57))) := bA
        clear bA
        go_wp2_with (at_builtin; refine wpList_append_own_at _ rfl _ _ 53 rfl (w.heap.size + 3) 57 ir _ 1 24 Try.underlying53 hir hr0 hr1 hr2 rfl (by omega) _ _ _ rfl hON ⟨wq.heap.size, 0, none⟩ 1 1 [.slice (some ⟨wo.heap.size, 0, none⟩) 256 256] rfl rfl hnw (by simp [Value.oneCell']) (by unfold maxLen; omega) (by omega) hszn ?_)
        intro v' w8 ho8 hg8 _ hat8
        have b08 : But (fun k => (Value.slice na i nc).ownBlock = some k) wq w8 := (But.of_next HBA.out).trans (but_grown hg8 (fun r h => h))
        have HF8 : Hid (FI l (.slice (some ⟨b2, o2, none⟩) l.length vc) w (i + 1) i v' (.slice aa i ac) (vs ++ [.slice (some ⟨wo.heap.size, 0, none⟩) 256 256]) (w8.setCell ⟨w.heap.size + 1 + 1, 0, none⟩ v')) := by
          refine HIQ.out.1.add (own_mono HRW.out.row hwo) (fun k hk e => ?_) ho8 b08
          have h9 : wo.heap.size = k := by simpa [Value.ownBlock] using e
          have := HIQ.out.2 k hk
          omega
        have hgb8 := but_blk b08 HIQ.out.1.gb (fun e => by have := (World.ownsRow.lt HIQ.out.1.nx _ e).1; omega)
        have g8 : w8.cell? ⟨w.heap.size + 1 + 1, 0, none⟩ = some (.slice na i nc) := by rw [Lib.cell_of_heap hgb8]; rfl
        have f8 : w8.frozen? ⟨w.heap.size + 1 + 1, 0, none⟩ = false := Lib.frozen_of_heap hgb8 _
        have HBW : Hid (∀ W, W = w8.setCell ⟨w.heap.size + 1 + 1, 0, none⟩ v' → But (fun k => w.heap.size ≤ k ∧ (k = w.heap.size + 1 + 1 ∨ (Value.slice na i nc).ownBlock = some k)) wq W) := fun W hW => by
          rw [hW]
          exact (b08.mono (fun k _ hk => ⟨by have := (World.ownsRow.lt HIQ.out.1.nx k hk).1; omega, .inr hk⟩)).setCell _ _ (.inr ⟨by show w.heap.size ≤ w.heap.size + 1 + 1; omega, .inl rfl⟩)
        obtain ⟨va', vc', rfl⟩ := slice_of_ownK ho8
        clear ho8 hg8 hat8 hON hnw HBA hszn b08 hgb8 g0 d1
        go_upto_region 19 with fail
        have HW1 := HBW.out _ rfl
        have HF9 : Hid (FI l (.slice (some ⟨b2, o2, none⟩) l.length vc) w (i + 1) i (.slice va' (i + 1) vc') (.slice aa i ac) (vs ++ [.slice (some ⟨wo.heap.size, 0, none⟩) 256 256]) (w8.setCell ⟨w.heap.size + 1 + 1, 0, none⟩ (.slice va' (i + 1) vc'))) := HF8.out
        clear HBW HF8 g8 f8
        generalize w8.setCell ⟨w.heap.size + 1 + 1, 0, none⟩ (.slice va' (i + 1) vc') = W1 at *
        have HE1 : W1.cell? ⟨w.heap.size + 1 + 1, 1, none⟩ = some (.slice aa i ac) := by rw [Lib.cell_of_heap HF9.out.gb]; rfl
        have HE2 : W1.cell? ⟨w.heap.size, 0, none⟩ = some (.slice (some ⟨b2, o2, none⟩) l.length vc) := by rw [Lib.cell_of_heap HF9.out.db]; rfl
        have HE3 : W1.cell? ⟨b2, o2 + i * 2 + 1, none⟩ = some (.int .i64 xacc) := (HF9.out.bel.cell (p := ⟨b2, o2 + i * 2 + 1, none⟩) HQ1.out.2).trans HQ1.out.1
        have HS3 : ∀ W2 : World, Below W1.heap.size W1 W2 → W2.cell? ⟨w.heap.size + 1 + 1, 1, none⟩ = some (.slice aa i ac) ∧ W2.cell? ⟨w.heap.size, 0, none⟩ = some (.slice (some ⟨b2, o2, none⟩) l.length vc) ∧ W2.cell? ⟨b2, o2 + i * 2 + 1, none⟩ = some (.int .i64 xacc) := fun W2 h2 => ⟨(h2.cell (p := ⟨w.heap.size + 1 + 1, 1, none⟩) (World.block_lt_of_cell? _ _ HE1)).trans HE1, (h2.cell (p := ⟨w.heap.size, 0, none⟩) (World.block_lt_of_cell? _ _ HE2)).trans HE2, (h2.cell (p := ⟨b2, o2 + i * 2 + 1, none⟩) (World.block_lt_of_cell? _ _ HE3)).trans HE3⟩
        obtain ⟨ii, hii, hz0, hz1, hz2⟩ := info_parts info3
        have BK : Below W1.heap.size W1 (W1.drew.alloc (Obj.cells #[.int .i64 xacc] 3)) := (below_drewN (Below.refl _ _) 1).alloc (Nat.le_refl _) _
        have hw1 : w.heap.size + 3 ≤ W1.heap.size := Nat.le_trans hwo (Nat.le_trans HRW.out.bel.size HW1.size)
        obtain ⟨av', wn, hap, ho4, hg4, _, hat4⟩ := run_append_own_at (P := Try.prog) (W1.drew.alloc (Obj.cells #[.int .i64 xacc] 3)) (w.heap.size + 3) 57 57 3 ii _ 1 8 Try.underlying57 hii hz0 hz1 hz2 rfl (by omega) (.slice aa i ac) i _ (own_below HF9.out.ac BK) ⟨W1.heap.size, 0, none⟩ 1 1 [.int .i64 xacc] rfl (new_cell W1.drew _ _) (by simp [Value.oneCell']) (by unfold maxLen; omega) (by omega) (Nat.le_trans hw1 BK.size)
        have B4 : But (fun k => (Value.slice aa i ac).ownBlock = some k) W1 wn := (But.of_next BK).trans (but_grown hg4 (fun r h => h))
        have HF10 : Hid (FI l (.slice (some ⟨b2, o2, none⟩) l.length vc) w (i + 1) (i + 1) (.slice va' (i + 1) vc') av' (vs ++ [.slice (some ⟨wo.heap.size, 0, none⟩) 256 256]) (wn.setCell ⟨w.heap.size + 1 + 1, 1, none⟩ av')) := by
          refine HF9.out.acc HLX.out ho4 B4 ?_
          rcases hat4 with h | h
          · exact .inl h
          · exact .inr ⟨_, h, BK.size⟩
        have hgb4 := but_blk B4 HF9.out.gb (fun e => by have := (World.ownsRow.lt HF9.out.ac _ e).1; omega)
        have hdb4 := but_blk B4 HF9.out.db (fun e => by have := (World.ownsRow.lt HF9.out.ac _ e).1; omega)
        have fz4 : wn.frozen? ⟨w.heap.size + 1 + 1, 1, none⟩ = false := Lib.frozen_of_heap hgb4 _
        have HS4 : wn.cell? ⟨w.heap.size + 1 + 1, 1, none⟩ = some (.slice aa i ac) ∧ wn.cell? ⟨w.heap.size, 0, none⟩ = some (.slice (some ⟨b2, o2, none⟩) l.length vc) ∧ wn.cell? ⟨b2, o2 + i * 2 + 1, none⟩ = some (.int .i64 xacc) := ⟨by rw [Lib.cell_of_heap hgb4]; rfl, by rw [Lib.cell_of_heap hdb4]; rfl, (B4.cell (p := ⟨b2, o2 + i * 2 + 1, none⟩) (World.block_lt_of_cell? _ _ HE3) (fun e => by have h9 : w.heap.size + 3 ≤ b2 := (World.ownsRow.lt HF9.out.ac _ e).1; have := HQ1.out.2; omega)).trans HE3⟩
        obtain ⟨aa', ac', rfl⟩ := slice_of_ownK ho4
        clear ho4 hg4 hat4 B4 hgb4 hdb4 HE1 HE2 HE3 HQ1 HW1 HF9 HIQ HAC HRW HLX hii hz0 hz1 hz2
        refine wp_region_L (fun W => W.cell? ⟨w.heap.size + 1 + 1, 1, none⟩ = some (.slice aa i ac) ∧ W.cell? ⟨w.heap.size, 0, none⟩ = some (.slice (some ⟨b2, o2, none⟩) l.length vc) ∧ W.cell? ⟨b2, o2 + i * 2 + 1, none⟩ = some (.int .i64 xacc)) 11 (by kernel_rfl) 12 rfl ?_
        refine wpAnyL_take' (i := 0) (v := ?_) (oi := ⟨some 66, .fieldAddr 68 (.tmp 3) 1, 0, "ref.go:68", #[], none⟩) rfl (by kernel_rfl) (by kernel_rfl) (by kernel_rfl) (by kernel_rfl) rfl (fun _ _ _ h => h) (Or.inl ⟨by rfl, ?_⟩) (HS3 _ (below_drewN (Below.refl _ _) 1)) ?_
        rotate_left
        · intro W hSW
          go_simp
          try with_reducible rfl
        simp only [Act.put, List.setIfInBounds_toArray, List.set_cons_zero, List.set_cons_succ]
        refine wpAnyL_take' (i := 1) (v := ?_) (oi := ⟨some 67, .load 57 (.tmp 66), 57, "ref.go:68", #[⟨0, .data⟩], none⟩) rfl (by kernel_rfl) (by kernel_rfl) (by kernel_rfl) (by kernel_rfl) rfl (fun _ _ _ h => h) (Or.inl ⟨by rfl, ?_⟩) (HS3 _ (below_drewN (Below.refl _ _) 1)) ?_
        rotate_left
        · intro W hSW
          go_simp
          try with_reducible rfl
        simp only [Act.put, List.setIfInBounds_toArray, List.set_cons_zero, List.set_cons_succ]
        refine wpAnyL_take' (i := 2) (v := ?_) (oi := ⟨some 68, .fieldAddr 24 (.tmp 1) 0, 0, "ref.go:68", #[], none⟩) rfl (by kernel_rfl) (by kernel_rfl) (by kernel_rfl) (by kernel_rfl) rfl (fun _ _ _ h => h) (Or.inl ⟨by rfl, ?_⟩) (HS3 _ (below_drewN (Below.refl _ _) 1)) ?_
        rotate_left
        · intro W hSW
          go_simp
          try with_reducible rfl
        simp only [Act.put, List.setIfInBounds_toArray, List.set_cons_zero, List.set_cons_succ]
        refine wpAnyL_take' (i := 3) (v := ?_) (oi := ⟨some 69, .load 22 (.tmp 68), 22, "ref.go:68", #[⟨2, .data⟩], none⟩) rfl (by kernel_rfl) (by kernel_rfl) (by kernel_rfl) (by kernel_rfl) rfl (fun _ _ _ h => h) (Or.inl ⟨by rfl, ?_⟩) (HS3 _ (below_drewN (Below.refl _ _) 1)) ?_
        rotate_left
        · intro W hSW
          go_simp
          try with_reducible rfl
        simp only [Act.put, List.setIfInBounds_toArray, List.set_cons_zero, List.set_cons_succ]
        refine wpAnyL_take' (i := 4) (v := ?_) (oi := ⟨some 70, .move (.tmp 4), 3, "ref.go:68", #[], none⟩) rfl (by kernel_rfl) (by kernel_rfl) (by kernel_rfl) (by kernel_rfl) rfl (fun _ _ _ h => h) (Or.inl ⟨by rfl, ?_⟩) (HS3 _ (below_drewN (Below.refl _ _) 1)) ?_
        rotate_left
        · intro W hSW
          go_simp
          try with_reducible rfl
        simp only [Act.put, List.setIfInBounds_toArray, List.set_cons_zero, List.set_cons_succ]
        refine wpAnyL_take' (i := 5) (v := ?_) (oi := ⟨some 71, .indexAddr 22 (.tmp 69) (.tmp 70), 0, "ref.go:68", #[⟨3, .data⟩, ⟨4, .data⟩], none⟩) rfl (by kernel_rfl) (by kernel_rfl) (by kernel_rfl) (by kernel_rfl) rfl (fun _ _ _ h => h) (Or.inl ⟨by rfl, ?_⟩) (HS3 _ (below_drewN (Below.refl _ _) 1)) ?_
        rotate_left
        · intro W hSW
          go_simp
          try with_reducible rfl
        simp only [Act.put, List.setIfInBounds_toArray, List.set_cons_zero, List.set_cons_succ]
        refine wpAnyL_take' (i := 6) (v := ?_) (oi := ⟨some 72, .fieldAddr 37 (.tmp 71) 1, 0, "ref.go:68", #[⟨5, .data⟩], none⟩) rfl (by kernel_rfl) (by kernel_rfl) (by kernel_rfl) (by kernel_rfl) rfl (fun _ _ _ h => h) (Or.inl ⟨by rfl, ?_⟩) (HS3 _ (below_drewN (Below.refl _ _) 1)) ?_
        rotate_left
        · intro W hSW
          go_simp
          try with_reducible rfl
        simp only [Act.put, List.setIfInBounds_toArray, List.set_cons_zero, List.set_cons_succ]
        refine wpAnyL_take' (i := 7) (v := ?_) (oi := ⟨some 73, .load 3 (.tmp 72), 3, "ref.go:68", #[⟨6, .data⟩], none⟩) rfl (by kernel_rfl) (by kernel_rfl) (by kernel_rfl) (by kernel_rfl) rfl (fun _ _ _ h => h) (Or.inl ⟨by rfl, ?_⟩) (HS3 _ (below_drewN (Below.refl _ _) 1)) ?_
        rotate_left
        · intro W hSW
          go_simp
          try with_reducible rfl
        simp only [Act.put, List.setIfInBounds_toArray, List.set_cons_zero, List.set_cons_succ]
        refine wpAnyL_one' (i := 8) (o := ⟨some 74, .buildSlice 57 1 #[(0, .tmp 73)], 57, "ref.go:68", #[⟨7, .data⟩], none⟩) (by kernel_rfl) rfl rfl (fun K hK => ?_)
        go_simp
        refine hK.out _ _ (fun _ => HS3 _ BK) ?_
        clear hK
        try simp only [Act.put, List.setIfInBounds_toArray, List.set_cons_zero, List.set_cons_succ]
        refine wpAnyL_one' (i := 9) (o := ⟨some 75, .call ⟨.builtin .append, #[.tmp 67, .tmp 74], #[57, 57]⟩, 57, "ref.go:68", #[⟨1, .data⟩, ⟨8, .data⟩], none⟩) (by kernel_rfl) rfl rfl (fun K hK => ?_)
        refine step_append_runI rfl _ _ 57 57 rfl _ _ rfl rfl hap ?_
        refine hK.out _ _ (fun _ => HS4) ?_
        clear hK
        simp only [Act.put, List.setIfInBounds_toArray, List.set_cons_zero, List.set_cons_succ]
        refine wpAnyL_take' (i := 10) (v := ?_) (oi := ⟨some 76, .fieldAddr 68 (.tmp 3) 1, 0, "ref.go:68", #[⟨0, .phase⟩, ⟨1, .phase⟩, ⟨2, .phase⟩, ⟨3, .phase⟩, ⟨4, .phase⟩, ⟨5, .phase⟩, ⟨6, .phase⟩, ⟨7, .phase⟩, ⟨8, .phase⟩, ⟨9, .phase⟩], none⟩) rfl (by kernel_rfl) (by kernel_rfl) (by kernel_rfl) (by kernel_rfl) rfl (fun _ _ _ h => h) (Or.inl ⟨by rfl, ?_⟩) HS4 ?_
        rotate_left
        · intro W hSW
          go_simp
          try with_reducible rfl
        simp only [Act.put, List.setIfInBounds_toArray, List.set_cons_zero, List.set_cons_succ]
        refine wpAnyL_one' (i := 11) (o := ⟨none, .store 57 (.tmp 76) (.tmp 75), 0, "ref.go:68", #[⟨10, .data⟩, ⟨9, .data⟩, ⟨9, .chain⟩, ⟨0, .phase⟩, ⟨1, .phase⟩, ⟨2, .phase⟩, ⟨3, .phase⟩, ⟨4, .phase⟩, ⟨5, .phase⟩, ⟨6, .phase⟩, ⟨7, .phase⟩, ⟨8, .phase⟩, ⟨9, .phase⟩], none⟩) (by kernel_rfl) rfl rfl (fun K hK => ?_)
        go_simp
        refine hK.out _ _ (fun h => absurd h (by decide)) ?_
        clear hK
        refine wpAnyL_done (by kernel_rfl) ?_ _
        go_wp2_with fail
        exact ⟨⟨i + 1, _, _, _, by go_num, by omega, HF10.out⟩, by simp [intOf]; omega⟩
end Go.Proofs.Ytdalomibilicfaa
