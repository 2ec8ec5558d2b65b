/- Stacks: the program's rows back: the iterator that calls itself. -/
import Derived.Test.YtjpbfckdiojghaaPRows0
import Derived.Sort.LoopGhostIn
namespace Go.Proofs.Ytjpbfckdiojghaa
open Go.RowKit Go.Shelf
attribute [local go_sem] Oper.semAt_some

theorem own_shrink {W : World} {B g n c : Nat} {e : TypeId} {xs : List Value} {u : Value} (h : W.ownsRow B e 1 (.slice (some ⟨g, 0, none⟩) (n + 1) c) (n + 1) (xs ++ [u])) (hx : xs.length = n) : W.ownsRow B e 1 (.slice (some ⟨g, 0, none⟩) n c) n xs := by
  refine ⟨by omega, ?_⟩
  rcases h.2 with ⟨e0, _⟩ | ⟨g', c', cur, e0, hB, hg, hle, hm, hcs, htk⟩
  · cases e0
  · simp at e0
    obtain ⟨rfl, rfl⟩ := e0
    refine .inr ⟨g, c, cur, rfl, hB, hg, by omega, hm, hcs, ?_⟩
    have := congrArg (List.take (n * 1)) htk
    rw [List.take_take, Nat.min_eq_left (by omega), List.take_append_of_le_length (by omega), List.take_of_length_le (l := xs) (by omega)] at this
    exact this
theorem appRow (w : World) (ty : TypeId) (g n c : Nat) (xs : List Value) (u : Value) (a : Addr) (hown : w.ownsRow 0 3 1 (.slice (some ⟨g, 0, none⟩) n c) n xs) (hu : w.cell? (a.add 0) = some u) (h1 : u.oneCell' = true) (hn : n ≤ 1000000) :
    ∃ v' w', (Builtin.append_ #[33, 33] ty #[.slice (some ⟨g, 0, none⟩) n c, .slice (some a) 1 1]).run Try.prog w = .ok v' w' ∧ w'.ownsRow 0 3 1 v' (n + 1) (xs ++ [u]) ∧ ((v' = .slice (some ⟨g, 0, none⟩) (n + 1) c ∧ But (fun k => k = g) w w') ∨ (∃ c', v' = .slice (some ⟨w.heap.size, 0, none⟩) (n + 1) c' ∧ w.heap.size < w'.heap.size ∧ Below w.heap.size w w')) := by
  obtain ⟨ii, hii, hz0, hz1, hz2⟩ := info_parts info3
  have hnews : ∀ j v, [u][j]? = some v → w.cell? (a.add j) = some v := fun j v hj => by
    match j with
    | 0 => simp at hj; subst hj; exact hu
    | j + 1 => simp at hj
  by_cases hroom : n + 1 ≤ c
  · obtain ⟨w', hr, ho, hg⟩ := run_append_fits w 0 33 ty 3 ii 1 Try.underlying33 hii hz1 g n c xs hown a 1 1 [u] rfl hnews (by simpa using h1) hroom
    exact ⟨_, w', hr, ho, .inl ⟨rfl, ⟨hg.os, hg.tape, hg.output, hg.size, fun k hk hd => hg.block k hk (fun e => hd (by cases e; rfl))⟩⟩⟩
  · have hlt : g < w.heap.size := (World.ownsRow.lt hown g rfl).2
    have hr := run_append_grow (P := Try.prog) w 33 ty 3 ii _ Try.underlying33 hii hz0 ⟨g, 0, none⟩ n c xs (by rw [hz1]; exact hown.1) (hown.cells (g := g) rfl) a 1 1 [u] (by rw [hz1]; rfl) hnews (by omega) (by omega) (by rw [hz2]; exact growslice_fits (by omega) (by omega))
    have hge := grownCap_ge w (n + 1) c 3
    refine ⟨_, _, hr, ⟨by simp [hown.1], .inr ⟨w.heap.size, _, _, rfl, Nat.zero_le _, heap_alloc_new w.drew _, hge, grownCap_le_maxLen w (n + 1) c 3 (by unfold maxLen; omega), ?_, ?_⟩⟩, .inr ⟨_, rfl, by simp, ?_⟩⟩
    · simp [Builtin.zeroCells, Value.cells, hown.1]
      omega
    · simp only [Array.toList_append, List.append_assoc]
      rw [← List.append_assoc, List.take_append_of_le_length (by simp [hown.1]), List.take_of_length_le (by simp [hown.1])]
    · exact below_drewN ((Below.refl _ w).alloc (Nat.le_refl _) _) 1
theorem step_append_runI {P : Program} {ops : Array Oper} {o : Oper} {a : Act} {w : World} {K : Act → World → Prop} {Q : Exit → Act → World → Prop} {E : Prop}
    (hg : o.guard = none) (d x : Operand) (dT sT : TypeId) (hop : o.op = Op.call { callee := Callee.builtin Builtin.append, args := #[d, x], argTypes := #[dT, sT] })
    (v u : Value) (hd : a.eval d = v) (hx : a.eval x = u) {v' : Value} {w' : World} (hr : (Builtin.append_ #[dT, sT] o.type #[v, u]).run P w = .ok v' w') (hK : K (a.put o.dst v') w') :
    if Region.wanted o (yielded ops a.tmps) = true then Oper.wp P o a w K Q else E := by
  have hw : Region.wanted o (yielded ops a.tmps) = true := by simp [Region.wanted, hg]
  rw [if_pos hw]
  unfold Oper.wp
  simp [execOp, hop, resolve, invoke, builtin, hd, hx, hr, Result.andThen]
  exact hK
theorem row_ne {W : World} {B n k g c : Nat} {e : TypeId} {xs : List Value} (h : W.ownsRow B e k (.slice (some ⟨g, 0, none⟩) n c) n xs) {x : Nat} {o : Obj} (hx : W.heap[x]? = some o) (ho : ∀ cs, o ≠ .cells cs e (0, 0)) : x ≠ g := fun ex => by
  rcases h.2 with ⟨e0, _⟩ | ⟨g', _, cur, e0, _, hg', _⟩
  · cases e0
  · simp at e0
    rw [← e0.1, ← ex, hx] at hg'
    exact ho cur (Option.some.inj hg')
/-- What holds within the rounds of the rows by one link. -/
structure IInv (J : (Nat → Prop) → List Rv → World → Prop) (lb bb tb yb yl k g c : Nat) (v fv : Value) (P : List Int) (same : Bool) (Ds : List Nat) (Ab : Nat → Prop) (xs : List Rv) (A : Nat → Prop) (ys : List Rv) (V : World) : Prop where
  jj : J (fun q => Ab q ∨ A q) (xs ++ ys) V
  lvl : Lvl lb bb tb (k + 1) (.slice (some ⟨g, 0, none⟩) P.length c) v fv V
  ybx : V.heap[yb]? = some (Obj.cells #[.func (.yield yl) #[] #[]] 88)
  mks : Mk Ds V
  row : same = false → ¬ A g ∧ V.ownsRow 0 3 1 (.slice (some ⟨g, 0, none⟩) P.length c) P.length (P.map encI)
  n1 : ¬ A lb
  n2 : ¬ A bb
  n3 : ¬ A tb
  n4 : ¬ A yb
  n5 : ∀ d ∈ Ds, ¬ A d
def IStop (St : (Nat → Prop) → World → Prop) (Ds : List Nat) (Ab A : Nat → Prop) (V : World) : Prop := St (fun q => Ab q ∨ A q) V ∧ Mk Ds V ∧ ∀ d ∈ Ds, ¬ A d
theorem Mk.but {Ds : List Nat} {V V' : World} {D : Nat → Prop} (h : Mk Ds V) (hb : But D V V') (hd : ∀ d ∈ Ds, ¬ D d) : Mk Ds V' := ⟨h.1, fun d hd' => but_blk hb (h.2 d hd') (hd d hd')⟩
theorem IInv.keep {Fx : World → Prop} {J : (Nat → Prop) → List Rv → World → Prop} {St : (Nat → Prop) → World → Prop} (hJ : KeepJ Fx J St) (lb bb tb yb yl k g c : Nat) (v fv : Value) (P : List Int) (same : Bool) (Ds : List Nat) (Ab : Nat → Prop) (xs : List Rv) : KeepJ Fx (IInv J lb bb tb yb yl k g c v fv P same Ds Ab xs) (IStop St Ds Ab) := by
  refine ⟨?_, ?_, ?_, ?_, ?_, ?_⟩
  · intro A ys V V' h hb
    have hnew : ∀ q, q < V.heap.size → ¬ A q → ¬ (A q ∨ (V.heap.size ≤ q ∧ q < V'.heap.size)) := fun q hq hn h => h.elim hn (fun h => by omega)
    refine ⟨hJ.less _ _ _ _ (hJ.step _ _ _ _ h.jj (hb.mono (fun _ _ h => .inr h))) (fun q hq => ?_), h.lvl.but hb h.n1 h.n2 h.n3, but_blk hb h.ybx h.n4, h.mks.but hb h.n5, fun hs => ?_, hnew _ (blk_lt h.lvl.l) h.n1, hnew _ (blk_lt h.lvl.b) h.n2, hnew _ (blk_lt h.lvl.t) h.n3, hnew _ (blk_lt h.ybx) h.n4, fun d hd => hnew _ (blk_lt (h.mks.2 d hd)) (h.n5 d hd)⟩
    · rcases hq with hq | hq | hq
      · exact .inl (.inl hq)
      · exact .inl (.inr hq)
      · exact .inr hq
    · obtain ⟨h1, h2⟩ := h.row hs
      exact ⟨hnew _ (World.ownsRow.lt h2 g rfl).2 h1, ownsRow_keep h2 hb (fun j hj e => by
        have : g = j := by simpa [Value.ownBlock] using hj
        exact h1 (by rw [this]; exact e))⟩
  · intro A ys V q h hq
    exact hJ.old _ _ _ q h.jj (.inr hq)
  · intro A B ys V h hB
    exact ⟨hJ.less _ _ _ _ h.jj (fun q hq => hq.imp id (hB q)), h.lvl, h.ybx, h.mks, fun hs => ⟨fun e => (h.row hs).1 (hB _ e), (h.row hs).2⟩, fun e => h.n1 (hB _ e), fun e => h.n2 (hB _ e), fun e => h.n3 (hB _ e), fun e => h.n4 (hB _ e), fun d hd e => h.n5 d hd (hB _ e)⟩
  · intro A ys V h
    exact hJ.fx _ _ _ h.jj
  · intro A B V h hB
    exact ⟨hJ.sless _ _ _ h.1 (fun q hq => hq.imp id (hB q)), h.2.1, fun d hd e => h.2.2 d hd (hB _ e)⟩
  · intro A V V' h hb
    exact ⟨hJ.sturn _ _ _ h.1 (hb.mono (fun _ _ h => .inr h)), h.2.1.but hb h.2.2, h.2.2⟩
/-- Rows by the first links. -/
def rowsUp (l : List Gn) (k : Nat) (P lks : List Int) : List (List Int) := (lks.flatMap fun j => (tailsN l k j).map (j :: ·)).map (P ++ ·)
theorem rowsUp_snoc (l : List Gn) (k : Nat) (P lks : List Int) (y : Int) : rowsUp l k P (lks ++ [y]) = rowsUp l k P lks ++ (tailsN l k y).map ((P ++ [y]) ++ ·) := by
  unfold rowsUp
  simp [List.flatMap_append, Function.comp_def]

theorem rowsUp_pre (l : List Gn) (k : Nat) (P : List Int) {a b : List Int} (h : a <+: b) : rowsUp l k P a <+: rowsUp l k P b := by
  obtain ⟨t, rfl⟩ := h
  refine ⟨rowsUp l k P t, ?_⟩
  unfold rowsUp
  simp [List.flatMap_append]
theorem pf_up {l : List Gn} {k j : Nat} {P lk : List Int} {last yk : Int} {xs ys : List Rv} {x : Rv} (hT : tailsN l (k + 1) last = lk.flatMap fun j => (tailsN l k j).map (j :: ·)) (_hj : j < lk.length) (hK : lk.take (j + 1) = lk.take j ++ [yk]) (hx : xs.map Prod.fst = rowsUp l k P (lk.take j)) (h : PfR l k (P ++ [yk]) yk (ys ++ [x])) : PfR l (k + 1) P last ((xs ++ ys) ++ [x]) := by
  unfold PfR at *
  rw [List.append_assoc, List.map_append, hx, hT]
  have h2 : rowsUp l k P (lk.take (j + 1)) <+: rowsUp l k P lk := rowsUp_pre l k P (List.take_prefix _ _)
  rw [hK, rowsUp_snoc] at h2
  exact ((List.prefix_append_right_inj _).2 h).trans h2

structure RInv (J : (Nat → Prop) → List Rv → World → Prop) (A1 : Nat → Prop) (lb bb tb yb yl k : Nat) (bv v fv : Value) (l : List Gn) (P lk : List Int) (j : Nat) (Ds : List Nat) (Ab : Nat → Prop) (xs : List Rv) (V : World) : Prop where
  sub : ∀ k, A1 k → Ab k
  ds : ∀ d ∈ Ds, Ab d
  mks : Mk Ds V
  jj : J Ab xs V
  rows : xs.map Prod.fst = rowsUp l k P (lk.take j)
  lvl : Lvl lb bb tb (k + 1) bv v fv V
  yb : V.heap[yb]? = some (Obj.cells #[.func (.yield yl) #[] #[]] 88)
  row : V.ownsRow 0 3 1 bv P.length (P.map encI)
theorem RInv.next {Fx : World → Prop} {J : (Nat → Prop) → List Rv → World → Prop} {St : (Nat → Prop) → World → Prop} (hJ : KeepJ Fx J St) {A1 : Nat → Prop} {lb bb tb yb yl k : Nat} {bv v fv : Value} {l : List Gn} {P lk : List Int} {j : Nat} {Ds : List Nat} {Ab : Nat → Prop} {xs : List Rv} {V V' : World} (h : RInv J A1 lb bb tb yb yl k bv v fv l P lk j Ds Ab xs V) (hb : Below V.heap.size V V') : RInv J A1 lb bb tb yb yl k bv v fv l P lk j Ds Ab xs V' :=
  ⟨h.sub, h.ds, ⟨h.mks.1, fun d hd => (hb.block d (blk_lt (h.mks.2 d hd))).trans (h.mks.2 d hd)⟩, hJ.turn _ _ _ _ h.jj (But.of_next hb), h.rows, h.lvl.next hb, (hb.block _ (blk_lt h.yb)).trans h.yb, ownsRow_below4 h.row hb⟩

set_option maxRecDepth 100000 in
set_option maxHeartbeats 8000000 in
theorem rows_succ (n k N0 : Nat) (w0 : World) (l : List Gn) (F P : List Int) (v fv bv : Value) (last : Nat) (lb bb tb : Nat) (A0 : Nat → Prop) (W : World) (hsl : SlN l v w0) (hft : fitP l) (hfar : FarP l F 0 N0) (hkN : k + 1 ≤ N0) (hN0 : N0 ≤ 64)
    (IH : ∀ (P : List Int) (bv : Value) (last : Nat) (lb bb tb : Nat) (A0 : Nat → Prop) (W : World), Lvl lb bb tb k bv v fv W → A0 lb → A0 bb → A0 tb → W.ownsRow 0 3 1 bv P.length (P.map encI) → (∀ k, bv.ownBlock = some k → A0 k ∧ k ≠ lb) → P.getLast? = some (last : Int) → last < l.length → P.length + k ≤ 65 → (∀ y ∈ P, i64B y) →
      GivesT (n - 1) Try.prog 56 #[.pointer (some ⟨lb, 0, none⟩), .pointer (some ⟨bb, 0, none⟩), .pointer (some ⟨tb, 0, none⟩)] encRv (SR l k P last bv) OkRv (PfR l k P last) A0 (FxR w0 F fv) W)
    (hL : Lvl lb bb tb (k + 1) bv v fv W) (hA1 : A0 lb) (hA2 : A0 bb) (hA3 : A0 tb) (hrow : W.ownsRow 0 3 1 bv P.length (P.map encI)) (hAr : ∀ k, bv.ownBlock = some k → A0 k ∧ k ≠ lb) (hP : P.getLast? = some (last : Int)) (hlast : last < l.length) (hPl : P.length + (k + 1) ≤ 65) (hP64 : ∀ y ∈ P, i64B y) (hn : 2 ≤ n) :
    GivesT n Try.prog 56 #[.pointer (some ⟨lb, 0, none⟩), .pointer (some ⟨bb, 0, none⟩), .pointer (some ⟨tb, 0, none⟩)] encRv (SR l (k + 1) P last bv) OkRv (PfR l (k + 1) P last) A0 (FxR w0 F fv) W := by
  intro yl J St hF hJ
  show CallsIn Fence.wide n Try.prog 56 #[.func (.yield yl) #[] #[], .pointer (some ⟨lb, 0, none⟩), .pointer (some ⟨bb, 0, none⟩), .pointer (some ⟨tb, 0, none⟩)] W _
  have HF : Hid (FeedsT (n - 1) Try.prog yl encRv OkRv (PfR l (k + 1) P last) (FxR w0 F fv) J St) := hF
  have HIH : Hid _ := IH
  have HFT : Hid (fitP l ∧ FarP l F 0 N0) := ⟨hft, hfar⟩
  have BA : Below W.heap.size W (W.alloc (Obj.cells #[.func (.yield yl) #[] #[]] 88)) := (Below.refl _ _).alloc (Nat.le_refl _) _
  have hJ1 := HF.out.new _ _ _ _ hJ BA
  have hL1 := hL.next BA
  have hr1 := ownsRow_below4 hrow BA
  have y1 : (W.alloc (Obj.cells #[.func (.yield yl) #[] #[]] 88)).heap[W.heap.size]? = some (Obj.cells #[.func (.yield yl) #[] #[]] 88) := heap_alloc_new _ _
  obtain ⟨g, c, rfl⟩ : ∃ g c, bv = .slice (some ⟨g, 0, none⟩) P.length c := by
    rcases hrow.2 with ⟨_, h⟩ | ⟨g, c, cur, e, _⟩
    · have : P = [] := List.eq_nil_of_length_eq_zero h
      rw [this] at hP; cases hP
    · exact ⟨g, c, e⟩
  obtain ⟨hgA, hglb⟩ := hAr g rfl
  have hglt : g < W.heap.size := (World.ownsRow.lt hrow g rfl).2
  have hlbl := blk_lt hL.l
  have hbbl := blk_lt hL.b
  have htbl := blk_lt hL.t
  have hfxx := HF.out.fx _ _ _ hJ1
  have hfx1 : Below w0.heap.size w0 _ := hfxx.1
  have hsF := hfxx.2
  clear hfxx
  obtain ⟨na, lc, hv, hgn, _⟩ := hsl
  obtain ⟨fa, fc, hfv, _⟩ := hsF
  subst hv
  subst hfv
  obtain ⟨b2, o2, u, hna, hb2, _, _, qq2, hsu, _⟩ := hgn.at (Below.refl _ _) hlast
  subst hna
  have q2 := (hfx1.cell (p := ⟨b2, o2 + last * 3 + 2, none⟩) hb2).trans qq2
  obtain ⟨xa, xc, rfl⟩ : ∃ xa xc, u = .slice xa l[last].links.length xc := hsu.imp fun _ h => h.imp fun _ h => h.1
  have hPpos : 0 < P.length := by
    rcases Nat.eq_zero_or_pos P.length with h | h
    · have : P = [] := List.eq_nil_of_length_eq_zero h
      rw [this] at hP; cases hP
    · exact h
  have hPL : P[P.length - 1]? = some (last : Int) := by rw [← List.getLast?_eq_getElem?]; exact hP
  generalize hW1 : W.alloc (Obj.cells #[.func (.yield yl) #[] #[]] 88) = W1 at *
  have hW1s : W1.heap.size = W.heap.size + 1 := by rw [← hW1]; simp
  have l0 : W1.cell? ⟨lb, 0, none⟩ = some (.int .i64 ((k + 1 : Nat) : Int)) := by rw [Lib.cell_of_heap hL1.l]; rfl
  have b0 : W1.cell? ⟨bb, 0, none⟩ = some (.slice (some ⟨g, 0, none⟩) P.length c) := by rw [Lib.cell_of_heap hL1.b]; rfl
  have t0 : W1.cell? ⟨tb, 0, none⟩ = some (.slice (some ⟨b2, o2, none⟩) l.length lc) := by rw [Lib.cell_of_heap hL1.t]; rfl
  obtain ⟨pm, hpm⟩ : ∃ pm, P.length - 1 = pm := ⟨_, rfl⟩
  have hpm2 : pm < P.length := by omega
  have r0 : W1.cell? ⟨g, pm, none⟩ = some (.int .i64 last) := by
    rw [World.ownsRow.cellAt hr1 pm (by omega), List.getElem?_map, ← hpm, hPL]; rfl
  have d0 : (((k + 1 : Nat) : Int) == 0) = false := by simp; omega
  have hlm : IntKind.i64.wrap ((P.length : Int) - 1) = (pm : Int) := by rw [IntWalk.i64_in _ (by omega)]; omega
  obtain ⟨yb, hyb⟩ : ∃ yb, yb = W.heap.size := ⟨_, rfl⟩
  refine callsIn_of_wp_marks Try.func56 rfl trivial ?_ rfl
  simp only [Try.ntmps56, List.size_toArray, List.length_cons, List.length_nil, Nat.reduceAdd, Nat.reduceSub, Array.replicate_succ, Array.replicate_zero, List.push_toArray, List.append_toArray, List.nil_append, List.cons_append]
  gi_wp2_with fail
  refine wpIn_wide.2 ?_
  refine wp_region_noPanic ?_
  have hS0 : W1.drew.cell? ⟨tb, 0, none⟩ = some (.slice (some ⟨b2, o2, none⟩) l.length lc) ∧ W1.drew.cell? ⟨bb, 0, none⟩ = some (.slice (some ⟨g, 0, none⟩) P.length c) ∧ W1.drew.cell? ⟨g, pm, none⟩ = some (.int .i64 last) ∧ W1.drew.cell? ⟨b2, o2 + last * 3 + 2, none⟩ = some (.slice xa l[last].links.length xc) := ⟨t0, b0, r0, q2⟩
  refine wp_region_L (fun W => W.cell? ⟨tb, 0, none⟩ = some (.slice (some ⟨b2, o2, none⟩) l.length lc) ∧ W.cell? ⟨bb, 0, none⟩ = some (.slice (some ⟨g, 0, none⟩) P.length c) ∧ W.cell? ⟨g, pm, none⟩ = some (.int .i64 last) ∧ W.cell? ⟨b2, o2 + last * 3 + 2, none⟩ = some (.slice xa l[last].links.length xc)) 14 (by kernel_rfl) 14 rfl ?_
  refine wpAnyL_take' (i := 0) (v := ?_) (oi := { dst := some 13, op := Op.fieldAddr 65 (Operand.tmp 3) 0, type := 0, pos := "rows.go:69", after := #[], guard := none }) rfl (by kernel_rfl) (by kernel_rfl) (by kernel_rfl) (by kernel_rfl) rfl (fun _ _ _ h => h) (Or.inl ⟨by rfl, ?_⟩) hS0 ?_
  rotate_left
  · intro W hSW
    go_simp
    try with_reducible rfl
  simp only [Act.put, List.setIfInBounds_toArray, List.set_cons_zero, List.set_cons_succ]
  refine wpAnyL_take' (i := 1) (v := ?_) (oi := { dst := some 14, op := Op.fieldAddr 24 (Operand.tmp 13) 0, type := 0, pos := "rows.go:69", after := #[{ on := 0, ground := Ground.data }], guard := none }) rfl (by kernel_rfl) (by kernel_rfl) (by kernel_rfl) (by kernel_rfl) rfl (fun _ _ _ h => h) (Or.inl ⟨by rfl, ?_⟩) hS0 ?_
  rotate_left
  · intro W hSW
    go_simp
    try with_reducible rfl
  simp only [Act.put, List.setIfInBounds_toArray, List.set_cons_zero, List.set_cons_succ]
  refine wpAnyL_take' (i := 2) (v := ?_) (oi := { dst := some 15, op := Op.load 22 (Operand.tmp 14), type := 22, pos := "rows.go:69", after := #[{ on := 1, ground := Ground.data }], guard := none }) rfl (by kernel_rfl) (by kernel_rfl) (by kernel_rfl) (by kernel_rfl) rfl (fun _ _ _ h => h) (Or.inl ⟨by rfl, ?_⟩) hS0 ?_
  rotate_left
  · intro W hSW
    go_simp
    try with_reducible rfl
  simp only [Act.put, List.setIfInBounds_toArray, List.set_cons_zero, List.set_cons_succ]
  refine wpAnyL_take' (i := 3) (v := ?_) (oi := { dst := some 16, op := Op.load 33 (Operand.tmp 2), type := 33, pos := "rows.go:69", after := #[], guard := none }) rfl (by kernel_rfl) (by kernel_rfl) (by kernel_rfl) (by kernel_rfl) rfl (fun _ _ _ h => h) (Or.inl ⟨by rfl, ?_⟩) hS0 ?_
  rotate_left
  · intro W hSW
    go_simp
    try with_reducible rfl
  simp only [Act.put, List.setIfInBounds_toArray, List.set_cons_zero, List.set_cons_succ]
  refine wpAnyL_take' (i := 4) (v := ?_) (oi := { dst := some 17, op := Op.load 33 (Operand.tmp 2), type := 33, pos := "rows.go:69", after := #[], guard := none }) rfl (by kernel_rfl) (by kernel_rfl) (by kernel_rfl) (by kernel_rfl) rfl (fun _ _ _ h => h) (Or.inl ⟨by rfl, ?_⟩) hS0 ?_
  rotate_left
  · intro W hSW
    go_simp
    try with_reducible rfl
  simp only [Act.put, List.setIfInBounds_toArray, List.set_cons_zero, List.set_cons_succ]
  refine wpAnyL_take' (i := 5) (v := ?_) (oi := { dst := some 18, op := Op.call { callee := Callee.builtin Builtin.len, args := #[Operand.tmp 17], argTypes := #[33] }, type := 3, pos := "rows.go:69", after := #[{ on := 4, ground := Ground.data }], guard := none }) rfl (by kernel_rfl) (by kernel_rfl) (by kernel_rfl) (by kernel_rfl) rfl (fun _ _ _ h => h) (Or.inl ⟨by rfl, ?_⟩) hS0 ?_
  rotate_left
  · intro W hSW
    go_simp
    try with_reducible rfl
  simp only [Act.put, List.setIfInBounds_toArray, List.set_cons_zero, List.set_cons_succ]
  refine wpAnyL_take' (i := 6) (v := ?_) (oi := { dst := some 19, op := Op.binOp BinOp.sub 3 (Operand.tmp 18) (Operand.const (Value.int IntKind.i64 1)) 3, type := 3, pos := "rows.go:69", after := #[{ on := 5, ground := Ground.data }], guard := none }) rfl (by kernel_rfl) (by kernel_rfl) (by kernel_rfl) (by kernel_rfl) rfl (fun _ _ _ h => h) (Or.inl ⟨by rfl, ?_⟩) hS0 ?_
  rotate_left
  · intro W hSW
    go_simp
    try with_reducible rfl
  simp only [Act.put, List.setIfInBounds_toArray, List.set_cons_zero, List.set_cons_succ]
  refine wpAnyL_take' (i := 7) (v := ?_) (oi := { dst := some 20, op := Op.indexAddr 33 (Operand.tmp 16) (Operand.tmp 19), type := 0, pos := "rows.go:69", after := #[{ on := 3, ground := Ground.data }, { on := 6, ground := Ground.data }], guard := none }) rfl (by kernel_rfl) (by kernel_rfl) (by kernel_rfl) (by kernel_rfl) rfl (fun _ _ _ h => h) (Or.inl ⟨by rfl, ?_⟩) hS0 ?_
  rotate_left
  · intro W hSW
    go_simp
    try with_reducible rfl
  simp only [Act.put, List.setIfInBounds_toArray, List.set_cons_zero, List.set_cons_succ]
  refine wpAnyL_take' (i := 8) (v := ?_) (oi := { dst := some 21, op := Op.load 3 (Operand.tmp 20), type := 3, pos := "rows.go:69", after := #[{ on := 7, ground := Ground.data }], guard := none }) rfl (by kernel_rfl) (by kernel_rfl) (by kernel_rfl) (by kernel_rfl) rfl (fun _ _ _ h => h) (Or.inl ⟨by rfl, ?_⟩) hS0 ?_
  rotate_left
  · intro W hSW
    go_simp
    try with_reducible rfl
  simp only [Act.put, List.setIfInBounds_toArray, List.set_cons_zero, List.set_cons_succ]
  refine wpAnyL_take' (i := 9) (v := ?_) (oi := { dst := some 22, op := Op.indexAddr 22 (Operand.tmp 15) (Operand.tmp 21), type := 0, pos := "rows.go:69", after := #[{ on := 2, ground := Ground.data }, { on := 8, ground := Ground.data }], guard := none }) rfl (by kernel_rfl) (by kernel_rfl) (by kernel_rfl) (by kernel_rfl) rfl (fun _ _ _ h => h) (Or.inl ⟨by rfl, ?_⟩) hS0 ?_
  rotate_left
  · intro W hSW
    go_simp
    try with_reducible rfl
  simp only [Act.put, List.setIfInBounds_toArray, List.set_cons_zero, List.set_cons_succ]
  refine wpAnyL_take' (i := 10) (v := ?_) (oi := { dst := some 23, op := Op.fieldAddr 35 (Operand.tmp 22) 2, type := 0, pos := "rows.go:69", after := #[{ on := 9, ground := Ground.data }], guard := none }) rfl (by kernel_rfl) (by kernel_rfl) (by kernel_rfl) (by kernel_rfl) rfl (fun _ _ _ h => h) (Or.inl ⟨by rfl, ?_⟩) hS0 ?_
  rotate_left
  · intro W hSW
    go_simp
    try with_reducible rfl
  simp only [Act.put, List.setIfInBounds_toArray, List.set_cons_zero, List.set_cons_succ]
  refine wpAnyL_take' (i := 11) (v := ?_) (oi := { dst := some 24, op := Op.load 33 (Operand.tmp 23), type := 33, pos := "rows.go:69", after := #[{ on := 10, ground := Ground.data }], guard := none }) rfl (by kernel_rfl) (by kernel_rfl) (by kernel_rfl) (by kernel_rfl) rfl (fun _ _ _ h => h) (Or.inl ⟨by rfl, ?_⟩) hS0 ?_
  rotate_left
  · intro W hSW
    go_simp
    try with_reducible rfl
  simp only [Act.put, List.setIfInBounds_toArray, List.set_cons_zero, List.set_cons_succ]
  refine wpAnyL_take' (i := 12) (v := ?_) (oi := { dst := some 25, op := Op.call { callee := Callee.builtin Builtin.len, args := #[Operand.tmp 24], argTypes := #[33] }, type := 3, pos := "rows.go:69", after := #[{ on := 11, ground := Ground.data }], guard := none }) rfl (by kernel_rfl) (by kernel_rfl) (by kernel_rfl) (by kernel_rfl) rfl (fun _ _ _ h => h) (Or.inl ⟨by rfl, ?_⟩) hS0 ?_
  rotate_left
  · intro W hSW
    go_simp
    try with_reducible rfl
  simp only [Act.put, List.setIfInBounds_toArray, List.set_cons_zero, List.set_cons_succ]
  refine wpAnyL_take' (i := 13) (v := ?_) (oi := { dst := some 26, op := Op.move (Operand.const (Value.int IntKind.i64 0)), type := 3, pos := "rows.go:69", after := #[], guard := none }) rfl (by kernel_rfl) (by kernel_rfl) (by kernel_rfl) (by kernel_rfl) rfl (fun _ _ _ h => h) (Or.inl ⟨by rfl, ?_⟩) hS0 ?_
  rotate_left
  · intro W hSW
    go_simp
    try with_reducible rfl
  simp only [Act.put, List.setIfInBounds_toArray, List.set_cons_zero, List.set_cons_succ]
  refine wpAnyL_done (by kernel_rfl) ?_ _
  refine NoPanic.normal ?_
  clear hS0 hpm
  gi_wp2
  rw [← hyb] at y1 ⊢
  have HLK : Hid (lksAt l last = l[last].links ∧ InL l.length l[last].links ∧ l[last].links.length ≤ 4096) := ⟨lksAt_eq rfl hlast, HFT.out.1.links _ (List.getElem_mem hlast), HFT.out.1.len (List.getElem_mem hlast)⟩
  have HLS : Hid (∀ V, Below w0.heap.size w0 V → SlI l[last].links (.slice xa l[last].links.length xc) V) := fun V hV => hsu.next hV
  obtain ⟨A1, hA1d⟩ : ∃ A1 : Nat → Prop, A1 = (fun k => A0 k ∨ (W.heap.size ≤ k ∧ k < W1.heap.size)) := ⟨_, rfl⟩
  rw [← hA1d] at hJ1
  have HA1 : Hid ((∀ k, A0 k → A1 k) ∧ A1 yb) := ⟨fun k hk => by rw [hA1d]; exact .inl hk, by rw [hA1d, hyb]; exact .inr ⟨Nat.le_refl _, by omega⟩⟩
  have HI0 : Hid (RInv J A1 lb bb tb yb yl k (.slice (some ⟨g, 0, none⟩) P.length c) (.slice (some ⟨b2, o2, none⟩) l.length lc) (.slice fa F.length fc) l P l[last].links 0 [] A1 [] W1.drew) := ⟨fun k hk => hk, by simp, ⟨List.nodup_nil, by simp⟩, HF.out.toKeepJ.turn _ _ _ _ hJ1 (But.of_next (below_drewN (Below.refl _ _) 1)), by simp [rowsUp], hL1.next (below_drewN (Below.refl _ _) 1), y1, hr1⟩
  have HTL : Hid (tailsN l (k + 1) last = (l[last].links).flatMap fun j => (tailsN l k j).map (j :: ·)) := by show _ = _; rw [tailsN, HLK.out.1]
  have HAs : Hid (A0 lb ∧ A0 bb ∧ A0 tb ∧ A0 g ∧ g ≠ lb) := ⟨hA1, hA2, hA3, hgA, hglb⟩
  clear hF hJ hJ1 hL hL1 hrow hr1 y1 hfx1 hgn qq2 q2 hsu hA1d IH hft hfar l0 b0 t0 r0 hP hPL hW1 BA hAr hA1 hA2 hA3 hgA hglb
  generalize l[last].links = lk at *
  have hkb : ((k : Int) + 1 == 0) = false := by simp; omega
  rw [hkb]
  have HYB : Hid (yb = W.heap.size) := hyb
  clear hyb hkb d0
  refine wpIn_loop_ghost (fun m a' V => ∃ (t6 t27 t28 t29 t30 t31 t32 t33 t34 t35 t36 t37 t38 t39 t40 t41 t42 t43 t49 : Value) (j : Nat) (Ds : List Nat) (Ab : Nat → Prop) (xs : List Rv), a' = { tmps := #[.func (.yield yl) #[] #[], .pointer (some ⟨lb, 0, none⟩), .pointer (some ⟨bb, 0, none⟩), .pointer (some ⟨tb, 0, none⟩), .pointer (some ⟨yb, 0, none⟩), undef, t6, undef, .int .i64 ((k : Int) + 1), .bool false, undef, undef, undef, .pointer (some ⟨tb, 0, none⟩), .pointer (some ⟨tb, 0, none⟩), .slice (some ⟨b2, o2, none⟩) l.length lc, .slice (some ⟨g, 0, none⟩) P.length c, .slice (some ⟨g, 0, none⟩) P.length c, .int .i64 P.length, .int .i64 pm, .pointer (some ⟨g, pm, none⟩), .int .i64 last, .pointer (some ⟨b2, o2 + last * 3, none⟩), .pointer (some ⟨b2, o2 + last * 3 + 2, none⟩), .slice xa lk.length xc, .int .i64 lk.length, .int .i64 j, t27, t28, t29, t30, t31, t32, t33, t34, t35, t36, t37, t38, t39, t40, t41, t42, t43, undef, undef, undef, undef, undef, t49], defers := Ds.map mark } ∧ m = lk.length - j ∧ j ≤ lk.length ∧ Hid (RInv J A1 lb bb tb yb yl k (.slice (some ⟨g, 0, none⟩) P.length c) (.slice (some ⟨b2, o2, none⟩) l.length lc) (.slice fa F.length fc) l P lk j Ds Ab xs V)) lk.length ?start ?round
  case start => exact ⟨undef, undef, undef, undef, undef, undef, undef, undef, undef, undef, undef, undef, undef, undef, undef, undef, undef, undef, undef, 0, [], A1, [], rfl, by omega, Nat.zero_le _, HI0⟩
  case round =>
  clear HI0
  rintro m a' V ⟨t6, t27, t28, t29, t30, t31, t32, t33, t34, t35, t36, t37, t38, t39, t40, t41, t42, t43, t49, j, Ds, Ab, xs, rfl, rfl, hj, HI⟩
  have hI := HI.out
  have BV : Below w0.heap.size w0 V := (HF.out.fx _ _ _ hI.jj).1
  by_cases hlt : j < lk.length
  case neg =>
    obtain rfl : j = lk.length := by omega
    have HE : Hid (SR l (k + 1) P last (.slice (some ⟨g, 0, none⟩) P.length c) xs V ∧ J Ab xs V) := ⟨⟨by rw [hI.rows, List.take_length, HTL.out]; rfl, hI.row⟩, hI.jj⟩
    have hMk := hI.mks
    have HDS : Hid (∀ d ∈ Ds, Ab d) := hI.ds
    have HSU : Hid (∀ k, A0 k → Ab k) := fun k hk => hI.sub k (HA1.out.1 k hk)
    clear hI HI HTL
    gi_wp2
    refine leaves_marksT (Rw := fun V => SR l (k + 1) P last (.slice (some ⟨g, 0, none⟩) P.length c) xs V ∧ J Ab xs V) (fun W => ⟨_, results_none rfl _ _ _⟩) Ab (fun W d hd hh h => ?_) (fun W v h => ?_) Ds V hMk HDS.out HE.out
    · refine ⟨⟨h.1.1, ownsRow_keep h.1.2 (But.putObj W d (.deferred none)) (fun j hj e => ?_)⟩, HF.out.toKeepJ.turn _ _ _ _ h.2 ((But.putObj W d (.deferred none)).mono (fun k _ e => e ▸ hd))⟩
      rcases h.1.2.2 with ⟨e0, _⟩ | ⟨g', _, cur, e0, _, hg', _⟩
      · cases e0
      · simp [Value.ownBlock] at e0 hj
        rw [← e0.1, hj, e, hh] at hg'
        cases hg'
    · exact ⟨⟨_, rfl⟩, .inl ⟨xs, h.1, HF.out.less _ _ _ _ h.2 HSU.out⟩⟩
  have hlkl := HLK.out.2.2
  obtain ⟨_, _, exx, hxr, _⟩ := HLS.out V BV
  cases exx
  obtain ⟨b3, o3, rfl, hb3, p3⟩ := hxr.at (Below.refl _ _) hlt
  have HY : Hid (0 ≤ lk[j] ∧ lk[j] < l.length) := HLK.out.2.1 _ (List.getElem_mem hlt)
  have hy := HY.out
  have HTK : Hid (lk.take (j + 1) = lk.take j ++ [lk[j]]) := List.take_succ_eq_append_getElem hlt
  simp only [encI] at p3
  generalize lk[j] = y at *
  obtain ⟨yk, rfl⟩ : ∃ yk : Nat, y = yk := ⟨y.toNat, by omega⟩
  have hyk : yk < l.length := by omega
  have hFl : F.length = l.length := HFT.out.2.len
  have HGO : Hid (leadsF F yk k = true ↔ tailsN l k yk ≠ []) := by
    show _ ↔ _
    rw [← goP_tails]
    have := (HFT.out.2.left yk (by omega) (Nat.zero_le _)).2.2 k (by omega)
    rw [← this]
    unfold leadsF
    rw [Int.toNat_natCast, List.getD_eq_getElem?_getD, List.getElem?_eq_getElem (by omega)]
    simp
  have HCL := leads_any l F (some ⟨b2, o2, none⟩) lc (.slice fa F.length fc) yk k V (HF.out.fx _ _ _ hI.jj).2 hFl (by omega) (by have := HFT.out.1.1; omega)
  have l0 : V.cell? ⟨lb, 0, none⟩ = some (.int .i64 ((k : Int) + 1)) := by rw [Lib.cell_of_heap hI.lvl.l]; rfl
  have t0 : V.cell? ⟨tb, 0, none⟩ = some (.slice (some ⟨b2, o2, none⟩) l.length lc) := by rw [Lib.cell_of_heap hI.lvl.t]; rfl
  have t1 : V.cell? ⟨tb, 1, none⟩ = some (.slice fa F.length fc) := by rw [Lib.cell_of_heap hI.lvl.t]; rfl
  clear hxr hFl hI
  cases hld : leadsF F yk k with
  | false =>
    have HTE : Hid (tailsN l k yk = []) := Classical.byContradiction (fun h => by have := HGO.out.2 h; rw [hld] at this; cases this)
    rw [hld] at HCL
    gi_wp2_with fail
    refine ⟨trivial, fun h => (by cases h), (callsIn_wide.2 HCL).mono ?_⟩
    rintro e V2 ⟨rfl, hb2'⟩
    have HI2 := HI.out.next HF.out.toKeepJ hb2'
    have HI3 : Hid (RInv J A1 lb bb tb yb yl k (.slice (some ⟨g, 0, none⟩) P.length c) (.slice (some ⟨b2, o2, none⟩) l.length lc) (.slice fa F.length fc) l P lk (j + 1) Ds Ab xs V2) := ⟨HI2.sub, HI2.ds, HI2.mks, HI2.jj, by rw [HI2.rows, HTK.out, rowsUp_snoc, HTE.out]; simp, HI2.lvl, HI2.yb, HI2.row⟩
    clear HI2 HI HCL hb2' l0 t0 t1 p3 hld
    gi_wp2_with fail
    exact ⟨lk.length - (j + 1), by omega, _, _, _, _, _, _, _, _, _, _, _, _, _, _, _, _, _, _, _, j + 1, Ds, Ab, xs, by rw [show ((j + 1 : Nat) : Int) = (j : Int) + 1 by omega], rfl, by omega, HI3⟩
  | true =>
    rw [hld] at HCL
    gi_wp2_with fail
    refine ⟨trivial, fun h => (by cases h), (callsIn_wide.2 HCL).mono ?_⟩
    rintro e V2 ⟨rfl, hb2'⟩
    have HI2 : Hid (RInv J A1 lb bb tb yb yl k (.slice (some ⟨g, 0, none⟩) P.length c) (.slice (some ⟨b2, o2, none⟩) l.length lc) (.slice fa F.length fc) l P lk j Ds Ab xs V2) := HI.out.next HF.out.toKeepJ hb2'
    clear HI HCL hb2' l0 t0 t1 p3 hld
    gi_wp2_with fail
    have hI := HI2.out
    have BV2 : Below w0.heap.size w0 V2 := (HF.out.fx _ _ _ hI.jj).1
    have l0 : V2.cell? ⟨lb, 0, none⟩ = some (.int .i64 ((k : Int) + 1)) := by rw [Lib.cell_of_heap hI.lvl.l]; rfl
    have b0 : V2.cell? ⟨bb, 0, none⟩ = some (.slice (some ⟨g, 0, none⟩) P.length c) := by rw [Lib.cell_of_heap hI.lvl.b]; rfl
    have t0 : V2.cell? ⟨tb, 0, none⟩ = some (.slice (some ⟨b2, o2, none⟩) l.length lc) := by rw [Lib.cell_of_heap hI.lvl.t]; rfl
    have t1 : V2.cell? ⟨tb, 1, none⟩ = some (.slice fa F.length fc) := by rw [Lib.cell_of_heap hI.lvl.t]; rfl
    have hkw : IntKind.i64.wrap (k : Int) = (k : Int) := by rw [IntWalk.i64_in _ (by omega)]
    have hS7 : V2.drew.cell? ⟨lb, 0, none⟩ = some (.int .i64 ((k : Int) + 1)) ∧ V2.drew.cell? ⟨bb, 0, none⟩ = some (.slice (some ⟨g, 0, none⟩) P.length c) ∧ V2.drew.cell? ⟨tb, 0, none⟩ = some (.slice (some ⟨b2, o2, none⟩) l.length lc) ∧ V2.drew.cell? ⟨tb, 1, none⟩ = some (.slice fa F.length fc) := ⟨l0, b0, t0, t1⟩
    have BX : Below V2.heap.size V2 (V2.alloc (Obj.cells #[.int .i64 yk] 3)).drew := below_drewN ((Below.refl _ _).alloc (Nat.le_refl _) _) 1
    obtain ⟨bv', V3, hap, ho3, hor3⟩ := appRow (V2.alloc (Obj.cells #[.int .i64 yk] 3)).drew 33 g P.length c (P.map encI) (.int .i64 yk) ⟨V2.heap.size, 0, none⟩ (ownsRow_below4 hI.row BX) (by rw [add_plain]; exact World.cell?_alloc_at (w := V2) _ _ _ _ rfl) rfl (by omega)
    have HBV : Hid (But Ab V2 V3 ∧ V3.ownsRow 0 3 1 (.slice (some ⟨g, 0, none⟩) P.length c) P.length (P.map encI)) := by
      rcases hor3 with ⟨rfl, hb3'⟩ | ⟨c', rfl, _, hb3'⟩
      · exact ⟨(But.of_next BX).trans (hb3'.mono (fun k _ e => e ▸ (hI.sub _ (HA1.out.1 _ HAs.out.2.2.2.1)))), own_shrink ho3 (by simp)⟩
      · exact ⟨But.of_next (BX.trans (hb3'.mono BX.size)), ownsRow_below4 (ownsRow_below4 hI.row BX) hb3'⟩
    have HBG : Hid (But (fun k => k = g) V2 V3) := by
      rcases hor3 with ⟨rfl, hb3'⟩ | ⟨c', rfl, _, hb3'⟩
      · exact (But.of_next BX).trans hb3'
      · exact But.of_next (BX.trans (hb3'.mono BX.size))
    have hng1 : ¬ lb = g := fun e => HAs.out.2.2.2.2 e.symm
    have hng2 : ¬ bb = g := row_ne hI.row hI.lvl.b (fun cs e => by simp at e)
    have hng3 : ¬ tb = g := row_ne hI.row hI.lvl.t (fun cs e => by simp at e)
    have hng4 : ¬ yb = g := row_ne hI.row hI.yb (fun cs e => by simp at e)
    have hng5 : ∀ d ∈ Ds, ¬ d = g := fun d hd => row_ne hI.row (hI.mks.2 d hd) (fun cs e => by cases e)
    have hL3 := hI.lvl.but HBG.out hng1 hng2 hng3
    have HI3 : Hid (RInv J A1 lb bb tb yb yl k (.slice (some ⟨g, 0, none⟩) P.length c) (.slice (some ⟨b2, o2, none⟩) l.length lc) (.slice fa F.length fc) l P lk j Ds Ab xs V3) := ⟨hI.sub, hI.ds, ⟨hI.mks.1, fun d hd => but_blk HBG.out (hI.mks.2 d hd) (hng5 d hd)⟩, HF.out.toKeepJ.turn _ _ _ _ hI.jj HBV.out.1, hI.rows, hL3, but_blk HBG.out hI.yb hng4, HBV.out.2⟩
    have HS8 : V3.cell? ⟨lb, 0, none⟩ = some (.int .i64 ((k : Int) + 1)) ∧ V3.cell? ⟨bb, 0, none⟩ = some (.slice (some ⟨g, 0, none⟩) P.length c) ∧ V3.cell? ⟨tb, 0, none⟩ = some (.slice (some ⟨b2, o2, none⟩) l.length lc) ∧ V3.cell? ⟨tb, 1, none⟩ = some (.slice fa F.length fc) := ⟨by rw [Lib.cell_of_heap hL3.l]; rfl, by rw [Lib.cell_of_heap hL3.b]; rfl, by rw [Lib.cell_of_heap hL3.t]; rfl, by rw [Lib.cell_of_heap hL3.t]; rfl⟩
    obtain ⟨nb, nc, rfl⟩ := slice_of_own ho3
    have HRO := rowsF_any (.slice (some ⟨b2, o2, none⟩) l.length lc) (.slice fa F.length fc) (.slice nb (P.length + 1) nc) k ⟨_, _, _, rfl⟩ ⟨_, _, _, rfl⟩ ⟨_, _, _, rfl⟩ V3
    refine wpIn_wide.2 ?_
    refine wp_region_noPanic ?_
    refine wp_region_L (fun W => W.cell? ⟨lb, 0, none⟩ = some (.int .i64 ((k : Int) + 1)) ∧ W.cell? ⟨bb, 0, none⟩ = some (.slice (some ⟨g, 0, none⟩) P.length c) ∧ W.cell? ⟨tb, 0, none⟩ = some (.slice (some ⟨b2, o2, none⟩) l.length lc) ∧ W.cell? ⟨tb, 1, none⟩ = some (.slice fa F.length fc)) 8 (by kernel_rfl) 8 rfl ?_
    refine wpAnyL_take' (i := 0) (v := ?_) (oi := { dst := some 36, op := Op.load 65 (Operand.tmp 3), type := 65, pos := "rows.go:73", after := #[], guard := none }) rfl (by kernel_rfl) (by kernel_rfl) (by kernel_rfl) (by kernel_rfl) rfl (fun _ _ _ h => h) (Or.inl ⟨by rfl, ?_⟩) hS7 ?_
    rotate_left
    · intro W hSW
      go_simp
      try with_reducible rfl
    simp only [Act.put, List.setIfInBounds_toArray, List.set_cons_zero, List.set_cons_succ]
    refine wpAnyL_take' (i := 1) (v := ?_) (oi := { dst := some 37, op := Op.load 33 (Operand.tmp 2), type := 33, pos := "rows.go:73", after := #[], guard := none }) rfl (by kernel_rfl) (by kernel_rfl) (by kernel_rfl) (by kernel_rfl) rfl (fun _ _ _ h => h) (Or.inl ⟨by rfl, ?_⟩) hS7 ?_
    rotate_left
    · intro W hSW
      go_simp
      try with_reducible rfl
    simp only [Act.put, List.setIfInBounds_toArray, List.set_cons_zero, List.set_cons_succ]
    refine wpAnyL_take' (i := 2) (v := ?_) (oi := { dst := some 38, op := Op.move (Operand.tmp 6), type := 3, pos := "rows.go:73", after := #[], guard := none }) rfl (by kernel_rfl) (by kernel_rfl) (by kernel_rfl) (by kernel_rfl) rfl (fun _ _ _ h => h) (Or.inl ⟨by rfl, ?_⟩) hS7 ?_
    rotate_left
    · intro W hSW
      go_simp
      try with_reducible rfl
    simp only [Act.put, List.setIfInBounds_toArray, List.set_cons_zero, List.set_cons_succ]
    refine wpAnyL_take' (i := 5) (v := ?_) (oi := { dst := some 41, op := Op.load 3 (Operand.tmp 1), type := 3, pos := "rows.go:73", after := #[], guard := none }) rfl (by kernel_rfl) (by kernel_rfl) (by kernel_rfl) (by kernel_rfl) rfl (fun _ _ _ h => h) (Or.inl ⟨by rfl, ?_⟩) hS7 ?_
    rotate_left
    · intro W hSW
      go_simp
      try with_reducible rfl
    simp only [Act.put, List.setIfInBounds_toArray, List.set_cons_zero, List.set_cons_succ]
    refine wpAnyL_take' (i := 6) (v := ?_) (oi := { dst := some 42, op := Op.binOp BinOp.sub 3 (Operand.tmp 41) (Operand.const (Value.int IntKind.i64 1)) 3, type := 3, pos := "rows.go:73", after := #[{ on := 5, ground := Ground.data }], guard := none }) rfl (by kernel_rfl) (by kernel_rfl) (by kernel_rfl) (by kernel_rfl) rfl (fun _ _ _ h => h) (Or.inl ⟨by rfl, ?_⟩) hS7 ?_
    rotate_left
    · intro W hSW
      go_simp
      try with_reducible rfl
    simp only [Act.put, List.setIfInBounds_toArray, List.set_cons_zero, List.set_cons_succ]
    refine wpAnyL_one' (i := 3) (o := { dst := some 39, op := Op.buildSlice 33 1 #[(0, Operand.tmp 38)], type := 33, pos := "rows.go:73", after := #[{ on := 2, ground := Ground.data }], guard := none }) (by kernel_rfl) rfl rfl (fun K hK => ?_)
    go_simp
    refine hK.out _ _ (fun _ => ⟨cell_new l0, cell_new b0, cell_new t0, cell_new t1⟩) ?_
    clear hK
    try simp only [Act.put, List.setIfInBounds_toArray, List.set_cons_zero, List.set_cons_succ]
    refine wpAnyL_one' (i := 4) (o := { dst := some 40, op := Op.call { callee := Callee.builtin Builtin.append, args := #[Operand.tmp 37, Operand.tmp 39], argTypes := #[33, 33] }, type := 33, pos := "rows.go:73", after := #[{ on := 1, ground := Ground.data }, { on := 3, ground := Ground.data }], guard := none }) (by kernel_rfl) rfl rfl (fun K hK => ?_)
    refine step_append_runI rfl _ _ 33 33 rfl _ _ rfl rfl hap ?_
    refine hK.out _ _ (fun _ => HS8) ?_
    clear hK
    simp only [Act.put, List.setIfInBounds_toArray, List.set_cons_zero, List.set_cons_succ]
    refine wpAnyL_one' (i := 7) (o := { dst := some 43, op := Op.call { callee := Callee.value (Operand.func 35), args := #[Operand.tmp 36, Operand.tmp 40, Operand.tmp 42], argTypes := #[65, 33, 3] }, type := 63, pos := "rows.go:73", after := #[{ on := 0, ground := Ground.data }, { on := 4, ground := Ground.data }, { on := 6, ground := Ground.data }, { on := 4, ground := Ground.chain }], guard := none }) (by kernel_rfl) rfl rfl (fun K hK => ?_)
    go_simp
    refine (HRO).mono ?_
    rintro e V4 ⟨rfl, hL4, hb4, hs4⟩
    refine hK.out _ _ (fun _ => ⟨(hb4.cell (p := ⟨lb, 0, none⟩) (World.block_lt_of_cell? _ _ HS8.1)).trans HS8.1, (hb4.cell (p := ⟨bb, 0, none⟩) (World.block_lt_of_cell? _ _ HS8.2.1)).trans HS8.2.1, (hb4.cell (p := ⟨tb, 0, none⟩) (World.block_lt_of_cell? _ _ HS8.2.2.1)).trans HS8.2.2.1, (hb4.cell (p := ⟨tb, 1, none⟩) (World.block_lt_of_cell? _ _ HS8.2.2.2)).trans HS8.2.2.2⟩) ?_
    clear hK
    refine wpAnyL_done (by kernel_rfl) ?_ _
    refine NoPanic.normal ?_
    clear HRO hS7 HS8 hap l0 b0 t0 t1 hL3
    gi_wp2
    have hv23 := HBG.out.size
    have HOR : Hid ((nb = some ⟨g, 0, none⟩ ∧ nc = c) ∨ (∃ q, nb = some ⟨q, 0, none⟩ ∧ V2.heap.size ≤ q)) := by
      rcases hor3 with ⟨e, _⟩ | ⟨c', e, _⟩
      · simp at e; exact .inl ⟨e.1, e.2⟩
      · simp at e; exact .inr ⟨_, e.1, by simp⟩
    obtain ⟨same, HSM⟩ : ∃ same : Bool, Hid ((same = true → nb = some ⟨g, 0, none⟩ ∧ nc = c) ∧ (same = false → ∃ q, nb = some ⟨q, 0, none⟩ ∧ V2.heap.size ≤ q)) := by
      rcases HOR.out with h | h
      · exact ⟨true, ⟨fun _ => h, fun e => (by cases e)⟩⟩
      · exact ⟨false, ⟨fun e => (by cases e), fun _ => h⟩⟩
    have HRB : Hid (∀ q, (Value.slice nb (P.length + 1) nc).ownBlock = some q → q < V3.heap.size ∧ (q = g ∨ V2.heap.size ≤ q)) := fun q hq => by
      refine ⟨(World.ownsRow.lt ho3 q hq).2, ?_⟩
      rcases HOR.out with ⟨rfl, _⟩ | ⟨r, rfl, hr⟩
      · left; simpa [Value.ownBlock, eq_comm] using hq
      · right; have : r = q := by simpa [Value.ownBlock] using hq
        omega
    have ho4 : V4.ownsRow 0 3 1 (.slice nb (P.length + 1) nc) (P ++ [(yk : Int)]).length ((P ++ [(yk : Int)]).map encI) := by
      have := ownsRow_below4 ho3 hb4
      simpa [encI] using this
    have HO4 : Hid (V4.ownsRow 0 3 1 (.slice nb (P.length + 1) nc) (P ++ [(yk : Int)]).length ((P ++ [(yk : Int)]).map encI)) := ho4
    have HI4 : Hid (RInv J A1 lb bb tb yb yl k (.slice (some ⟨g, 0, none⟩) P.length c) (.slice (some ⟨b2, o2, none⟩) l.length lc) (.slice fa F.length fc) l P lk j Ds Ab xs V4) := HI3.out.next HF.out.toKeepJ hb4
    have HL4 : Hid (Lvl (V3.heap.size + 1 + 1) (V3.heap.size + 1) V3.heap.size k (.slice nb (P.length + 1) nc) (.slice (some ⟨b2, o2, none⟩) l.length lc) (.slice fa F.length fc) V4) := hL4
    have HLT : Hid (lb < V2.heap.size ∧ bb < V2.heap.size ∧ tb < V2.heap.size ∧ yb < V2.heap.size ∧ g < V2.heap.size ∧ ∀ d ∈ Ds, d < V2.heap.size) := ⟨blk_lt hI.lvl.l, blk_lt hI.lvl.b, blk_lt hI.lvl.t, blk_lt hI.yb, (World.ownsRow.lt hI.row g rfl).2, fun d hd => blk_lt (hI.mks.2 d hd)⟩
    obtain ⟨AI, hAI⟩ : ∃ AI : Nat → Prop, AI = (fun q => q = V3.heap.size ∨ q = V3.heap.size + 1 ∨ q = V3.heap.size + 1 + 1 ∨ (Value.slice nb (P.length + 1) nc).ownBlock = some q) := ⟨_, rfl⟩
    have HAI : Hid (∀ q, AI q → q < V4.heap.size ∧ (q = g ∨ V2.heap.size ≤ q)) := fun q hq => by
      rw [hAI] at hq
      rcases hq with h | h | h | h
      · exact ⟨by omega, .inr (by omega)⟩
      · exact ⟨by omega, .inr (by omega)⟩
      · exact ⟨by omega, .inr (by omega)⟩
      · have := HRB.out q h; exact ⟨by omega, this.2⟩
    have HNG : Hid (lb ≠ g ∧ bb ≠ g ∧ tb ≠ g ∧ yb ≠ g ∧ ∀ d ∈ Ds, d ≠ g) := ⟨hng1, hng2, hng3, hng4, hng5⟩
    have HAN : Hid (∀ q, q ≠ g → q < V2.heap.size → ¬ AI q) := fun q h1 h2 h3 => by have := (HAI.out q h3).2; omega
    have HIHX : Hid (∀ V, Below V4.heap.size V4 V → GivesT (n - 1) Try.prog 56 #[.pointer (some ⟨V3.heap.size + 1 + 1, 0, none⟩), .pointer (some ⟨V3.heap.size + 1, 0, none⟩), .pointer (some ⟨V3.heap.size, 0, none⟩)] encRv (SR l k (P ++ [(yk : Int)]) yk (.slice nb (P.length + 1) nc)) OkRv (PfR l k (P ++ [(yk : Int)]) yk) AI (FxR w0 F (.slice fa F.length fc)) V) := fun V hV => HIH.out (P ++ [(yk : Int)]) (.slice nb (P.length + 1) nc) yk (V3.heap.size + 1 + 1) (V3.heap.size + 1) V3.heap.size AI V (HL4.out.next hV) (by rw [hAI]; exact .inr (.inr (.inl rfl))) (by rw [hAI]; exact .inr (.inl rfl)) (by rw [hAI]; exact .inl rfl) (ownsRow_below4 HO4.out hV) (fun q hq => ⟨by rw [hAI]; exact .inr (.inr (.inr hq)), by have := (HRB.out q hq).1; omega⟩) (by simp) hyk (by simp; omega) (fun z hz => by
      rcases List.mem_append.1 hz with hz | hz
      · exact hP64 z hz
      · simp at hz; subst hz; unfold i64B; omega)
    have HJS : Hid (∀ V, Below V4.heap.size V4 V → J (fun q => Ab q ∨ (V2.heap.size ≤ q ∧ q < V.heap.size)) xs V) := fun V hV => HF.out.step _ _ _ _ hI.jj ((HBV.out.1.trans (But.of_next hb4)).trans (But.of_next hV))
    have HAB : Hid (Ab lb ∧ Ab bb ∧ Ab tb ∧ Ab yb ∧ Ab g) := ⟨hI.sub _ (HA1.out.1 _ HAs.out.1), hI.sub _ (HA1.out.1 _ HAs.out.2.1), hI.sub _ (HA1.out.1 _ HAs.out.2.2.1), hI.sub _ HA1.out.2, hI.sub _ (HA1.out.1 _ HAs.out.2.2.2.1)⟩
    have hs24 : V2.heap.size ≤ V4.heap.size := by omega
    clear ho3 ho4 hI HI2 hor3 hL4 HIH HI3 HBV hb4 BX HBG hng1 hng2 hng3 hng4 hng5 HOR
    refine wpIn_range_T (α := Rv) (by omega) (gf := 56) (lb := #[.pointer (some ⟨V3.heap.size + 1 + 1, 0, none⟩), .pointer (some ⟨V3.heap.size + 1, 0, none⟩), .pointer (some ⟨V3.heap.size, 0, none⟩)]) rfl (enters_of Try.func56 (by kernel_rfl) rfl) (encs := encRv) (S := SR l k (P ++ [(yk : Int)]) yk (.slice nb (P.length + 1) nc)) (Ok := OkRv) (Pf := PfR l k (P ++ [(yk : Int)]) yk) (A0 := AI) (Fx := FxR w0 F (.slice fa F.length fc)) (fun _ => rfl) (fun q hq => (HAI.out q hq).1) HIHX.out (fun A x V V' q h1 h2 h3 => h1.but h2 h3) (fun ys V V' h1 h2 => ?SS)
      (IInv J lb bb tb yb yl k g c (.slice (some ⟨b2, o2, none⟩) l.length lc) (.slice fa F.length fc) P same Ds Ab xs) (IStop St Ds Ab) (IInv.keep HF.out.toKeepJ lb bb tb yb yl k g c _ _ P same Ds Ab xs) (fun V h1 h2 => ?init)
      (fun x a' => a' = { tmps := #[.func (.yield yl) #[] #[], .pointer (some ⟨lb, 0, none⟩), .pointer (some ⟨bb, 0, none⟩), .pointer (some ⟨tb, 0, none⟩), .pointer (some ⟨yb, 0, none⟩), undef, .int .i64 yk, x.2, .int .i64 ((k : Int) + 1), .bool false, undef, undef, undef, .pointer (some ⟨tb, 0, none⟩), .pointer (some ⟨tb, 0, none⟩), .slice (some ⟨b2, o2, none⟩) l.length lc, .slice (some ⟨g, 0, none⟩) P.length c, .slice (some ⟨g, 0, none⟩) P.length c, .int .i64 P.length, .int .i64 pm, .pointer (some ⟨g, pm, none⟩), .int .i64 last, .pointer (some ⟨b2, o2 + last * 3, none⟩), .pointer (some ⟨b2, o2 + last * 3 + 2, none⟩), .slice (some ⟨b3, o3, none⟩) lk.length xc, .int .i64 lk.length, .int .i64 j, .bool true, .pointer (some ⟨b3, o3 + j, none⟩), .int .i64 yk, .agg #[.slice (some ⟨b2, o2, none⟩) l.length lc, .slice fa F.length fc], .int .i64 yk, .int .i64 ((k : Int) + 1), .int .i64 k, .bool true, .bool false, .agg #[.slice (some ⟨b2, o2, none⟩) l.length lc, .slice fa F.length fc], .slice (some ⟨g, 0, none⟩) P.length c, .int .i64 yk, .slice (some ⟨V2.heap.size, 0, none⟩) 1 1, .slice nb (P.length + 1) nc, .int .i64 ((k : Int) + 1), .int .i64 k, .func (.func 56) #[] #[.pointer (some ⟨V3.heap.size + 1 + 1, 0, none⟩), .pointer (some ⟨V3.heap.size + 1, 0, none⟩), .pointer (some ⟨V3.heap.size, 0, none⟩)], x.2, undef, undef, undef, undef, t49], defers := [] }) ?assign ?body ?done ?left
    case SS => exact ⟨h1.1, ownsRow_keep h1.2 h2 (fun q hq e => by have := (HRB.out q hq).1; omega)⟩
    case init =>
      have hI4 := HI4.out.next HF.out.toKeepJ h1
      have hNA : ∀ q, q ≠ g → q < V2.heap.size → ¬ (AI q ∨ q = V4.heap.size ∨ q = V4.heap.size + 1) := fun q h3 h4 h5 => by
        rcases h5 with h5 | h5 | h5
        · exact HAN.out q h3 h4 h5
        · omega
        · omega
      refine ⟨?_, hI4.lvl, hI4.yb, hI4.mks, fun hs => ⟨?_, hI4.row⟩, hNA _ HNG.out.1 HLT.out.1, hNA _ HNG.out.2.1 HLT.out.2.1, hNA _ HNG.out.2.2.1 HLT.out.2.2.1, hNA _ HNG.out.2.2.2.1 HLT.out.2.2.2.1, fun d hd => hNA _ (HNG.out.2.2.2.2 d hd) (HLT.out.2.2.2.2.2 d hd)⟩
      · rw [List.append_nil]
        refine HF.out.less _ _ _ _ (HJS.out V h1) (fun q hq => ?_)
        rcases hq with hq | hq | hq | hq
        · exact .inl hq
        · have h3 := HAI.out q hq
          rcases h3.2 with h4 | h4
          · rw [h4]; exact .inl HAB.out.2.2.2.2
          · exact .inr ⟨h4, by omega⟩
        · exact .inr ⟨by omega, by omega⟩
        · exact .inr ⟨by omega, by omega⟩
      · obtain ⟨q, hnq, hq⟩ := HSM.out.2 hs
        have hgl := HLT.out.2.2.2.2.1
        rintro (h3 | h3 | h3)
        · rw [hAI] at h3
          rcases h3 with h3 | h3 | h3 | h3
          · omega
          · omega
          · omega
          · rw [hnq] at h3
            have : q = g := by simpa [Value.ownBlock] using h3
            omega
        · omega
        · omega
    case assign =>
      clear HIHX HJS HI4 HL4 HO4
      intro l' x V K hK
      simp only [encRv]
      gi_wp2
      rfl
    case body =>
      clear HIHX HJS HL4 HO4
      rintro l' A' ys x a' V hI rfl hOk hPf
      have hPfU : PfR l (k + 1) P last ((xs ++ ys) ++ [x]) := pf_up HTL.out hlt HTK.out HI4.out.rows hPf
      have y0 : V.cell? ⟨yb, 0, none⟩ = some (.func (.yield yl) #[] #[]) := by rw [Lib.cell_of_heap hI.ybx]; rfl
      have hOkU : OkRv (fun q => Ab q ∨ (A' q ∨ q = V4.heap.size ∨ q = V4.heap.size + 1)) x V := ⟨hOk.1, hOk.2.1.imp fun _ h => h.imp fun _ h => ⟨h.1, .inr (.inl h.2)⟩, hOk.2.2⟩
      obtain ⟨fn, tmps, assign, body, hyl, hR⟩ := yield_any (m' := n - 1 - 1 - 1) (HF.out.yield _ _ x V hI.jj hOkU hPfU)
      simp only [encRv] at hyl
      have HIN : Hid (IInv J lb bb tb yb yl k g c (.slice (some ⟨b2, o2, none⟩) l.length lc) (.slice fa F.length fc) P same Ds Ab xs (fun q => A' q ∨ q = V4.heap.size ∨ q = V4.heap.size + 1) ys V) := hI
      clear hI hOk hOkU hPf hPfU
      gi_wp2
      refine ⟨fun h => (by cases h), RoundIn.mono (F := Fence.wide.inRound l') hR ?_⟩
      rintro e W2 (⟨rfl, hJ2, hB2⟩ | ⟨rfl, hSt, hB2⟩)
      · have HE : Hid (IInv J lb bb tb yb yl k g c (.slice (some ⟨b2, o2, none⟩) l.length lc) (.slice fa F.length fc) P same Ds Ab xs (fun q => A' q ∨ q = V4.heap.size ∨ q = V4.heap.size + 1) (ys ++ [x]) W2 ∧ But (fun q => ¬ (A' q ∨ q = V4.heap.size ∨ q = V4.heap.size + 1)) V W2) := by
          have hI := HIN.out
          refine ⟨⟨by rw [← List.append_assoc]; exact hJ2, hI.lvl.but hB2 (fun h => h (.inl HAB.out.1)) (fun h => h (.inl HAB.out.2.1)) (fun h => h (.inl HAB.out.2.2.1)), but_blk hB2 hI.ybx (fun h => h (.inl HAB.out.2.2.2.1)), hI.mks.but hB2 (fun d hd h => h (.inl (HI4.out.ds d hd))), fun hs => ⟨(hI.row hs).1, ownsRow_keep (hI.row hs).2 hB2 (fun q hq e => ?_)⟩, hI.n1, hI.n2, hI.n3, hI.n4, hI.n5⟩, hB2.mono (fun q _ h h2 => h (.inr h2))⟩
          have : g = q := by simpa [Value.ownBlock] using hq
          exact e (.inl (by rw [← this]; exact HAB.out.2.2.2.2))
        clear hR hyl hJ2 hB2 HIN
        gi_wp2
        have HE' := HE.out
        simp only [hs4, not_or] at HE'
        exact HE'
      · have HE : Hid (IStop St Ds Ab (fun q => A' q ∨ q = V4.heap.size ∨ q = V4.heap.size + 1) W2 ∧ But (fun q => ¬ (A' q ∨ q = V4.heap.size ∨ q = V4.heap.size + 1)) V W2) := ⟨⟨hSt, HIN.out.mks.but hB2 (fun d hd h => h (.inl (HI4.out.ds d hd))), HIN.out.n5⟩, hB2.mono (fun q _ h h2 => h (.inr h2))⟩
        clear hR hyl hSt hB2 HIN
        gi_wp2
        have HE' := HE.out
        simp only [hs4, not_or] at HE'
        exact HE'
    case done =>
      clear HIHX HJS HL4 HO4
      intro ys V hS hI hd
      have HR : Hid (RInv J A1 lb bb tb yb yl k (.slice (some ⟨g, 0, none⟩) P.length c) (.slice (some ⟨b2, o2, none⟩) l.length lc) (.slice fa F.length fc) l P lk (j + 1) (V4.heap.size :: Ds) (fun q => Ab q ∨ q = V4.heap.size) (xs ++ ys) V) := by
        refine ⟨fun q hq => .inl (HI4.out.sub q hq), fun d hd => ?_, ⟨List.nodup_cons.2 ⟨fun h => ?_, hI.mks.1⟩, fun d hd' => ?_⟩, HF.out.less _ _ _ _ hI.jj (fun q hq => hq.imp id (fun e => .inr (.inl e))), ?_, hI.lvl, hI.ybx, ?_⟩
        · rcases List.mem_cons.1 hd with h | h
          · exact .inr h
          · exact .inl (HI4.out.ds d h)
        · have := HLT.out.2.2.2.2.2 _ h; omega
        · rcases List.mem_cons.1 hd' with h | h
          · rw [h]; exact hd
          · exact hI.mks.2 d h
        · rw [List.map_append, HI4.out.rows, hS.1, HTK.out, rowsUp_snoc]
        · cases same with
          | false => exact (hI.row rfl).2
          | true =>
            have h := hS.2
            rw [(HSM.out.1 rfl).1, (HSM.out.1 rfl).2] at h
            simp only [List.length_append, List.length_singleton, List.map_append, List.map_singleton] at h
            exact own_shrink h (by simp)
      clear hS hI hd
      gi_wp2
      exact ⟨lk.length - (j + 1), by omega, _, _, _, _, _, _, _, _, _, _, _, _, _, _, _, _, _, _, _, j + 1, V4.heap.size :: Ds, (fun q => Ab q ∨ q = V4.heap.size), xs ++ ys, by rw [show ((j + 1 : Nat) : Int) = (j : Int) + 1 by omega]; rfl, rfl, by omega, HR⟩
    case left =>
      clear HIHX HJS HL4 HO4
      intro V hI hd
      have hMk : Mk (V4.heap.size :: Ds) V := ⟨List.nodup_cons.2 ⟨fun h => (by have := HLT.out.2.2.2.2.2 _ h; omega), hI.2.1.1⟩, fun d hd' => by
        rcases List.mem_cons.1 hd' with h | h
        · rw [h]; exact hd
        · exact hI.2.1.2 d h⟩
      have HSt : Hid (St (fun q => Ab q ∨ (AI q ∨ q = V4.heap.size ∨ q = V4.heap.size + 1)) V) := hI.1
      have HDS : Hid (∀ d ∈ V4.heap.size :: Ds, Ab d ∨ d = V4.heap.size) := fun d hd => by
        rcases List.mem_cons.1 hd with h | h
        · exact .inr h
        · exact .inl (HI4.out.ds d h)
      have HSU : Hid (∀ q, A0 q → Ab q) := fun q hq => HI4.out.sub q (HA1.out.1 q hq)
      clear hI hd
      gi_wp2
      refine leaves_marksT (Rw := fun V => St (fun q => Ab q ∨ (AI q ∨ q = V4.heap.size ∨ q = V4.heap.size + 1)) V) (fun W => ⟨_, results_none rfl _ _ _⟩) (fun q => Ab q ∨ q = V4.heap.size) (fun W d hd hh h => ?_) (fun W v h => ?_) (V4.heap.size :: Ds) V hMk HDS.out HSt.out
      · exact HF.out.sturn _ _ _ h ((But.putObj W d (.deferred none)).mono (fun q _ e => by rw [e]; exact hd.imp id (fun e => .inr (.inl e))))
      · exact ⟨⟨_, rfl⟩, .inr (HF.out.sless _ _ _ h (fun q hq => .inl (HSU.out q hq)))⟩
/-- All rows, by their links left. -/
theorem rows_all (N0 : Nat) (w0 : World) (l : List Gn) (F : List Int) (v fv : Value) (hsl : SlN l v w0) (hft : fitP l) (hfar : FarP l F 0 N0) (hN0 : N0 ≤ 64) : ∀ (k n : Nat), k ≤ N0 → k + 1 ≤ n →
    ∀ (P : List Int) (bv : Value) (last : Nat) (lb bb tb : Nat) (A0 : Nat → Prop) (W : World), Lvl lb bb tb k bv v fv W → A0 lb → A0 bb → A0 tb → W.ownsRow 0 3 1 bv P.length (P.map encI) → (∀ k, bv.ownBlock = some k → A0 k ∧ k ≠ lb) → P.getLast? = some (last : Int) → last < l.length → P.length + k ≤ 65 → (∀ y ∈ P, i64B y) →
      GivesT n Try.prog 56 #[.pointer (some ⟨lb, 0, none⟩), .pointer (some ⟨bb, 0, none⟩), .pointer (some ⟨tb, 0, none⟩)] encRv (SR l k P last bv) OkRv (PfR l k P last) A0 (FxR w0 F fv) W
  | 0, n, _, _ => fun P bv last lb bb tb A0 W hL _ _ _ hrow hAr hP _ _ hP64 => rows_zero n (FxR w0 F fv) l P last v fv bv lb bb tb A0 W hL hrow (fun k hk => (hAr k hk).1) (fun e => by rw [e] at hP; cases hP) hP64
  | k + 1, n, hk, hn => fun P bv last lb bb tb A0 W hL h1 h2 h3 hrow hAr hP hlast hPl hP64 => rows_succ n k N0 w0 l F P v fv bv last lb bb tb A0 W hsl hft hfar hk hN0 (rows_all N0 w0 l F v fv hsl hft hfar hN0 k (n - 1) (by omega) (by omega)) hL h1 h2 h3 hrow hAr hP hlast hPl hP64 (by omega)
end Go.Proofs.Ytjpbfckdiojghaa
