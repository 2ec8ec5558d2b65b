/- Machines of classes: a state of a class, what it accepts, its arcs. -/
import Derived.Test.YtdalomibilicfaaPAll
namespace Go.Proofs.Ytdalomibilicfaa
open Go.RowKit Go.Shelf
attribute [local go_sem] Oper.semAt_some

theorem idxK_first {q : Int} : ∀ (c : List Int) (k : Nat), k < idxK c q → c[k]? ≠ some q
  | [], k, h => by simp
  | x :: c, k, h => by
    unfold idxK at h
    rw [List.idxOf_cons] at h
    by_cases hx : x = q
    · simp [hx] at h
    · have hb : (x == q) = false := by simpa using hx
      rw [hb] at h
      simp only [cond_false] at h
      cases k with
      | zero => simpa using hx
      | succ k =>
        rw [List.getElem?_cons_succ]
        exact idxK_first c k (by unfold idxK; omega)

set_option maxRecDepth 100000 in
set_option maxHeartbeats 1600000 in
theorem index_any (c : List Int) (cv : Value) (q : Int) (w : World) (hc : SlI c cv w) (hq : q ∈ c) (hn : c.length ≤ 100000) :
    Calls Try.prog 51 #[cv, .int .i64 q] w fun e w' => e = .returned (.int .i64 (idxK c q)) ∧ w' = w := by
  have HC : Hid (SlI c cv w) := hc
  have HI : Hid (idxK c q < c.length ∧ c[idxK c q]? = some q ∧ ∀ k, k < idxK c q → c[k]? ≠ some q) := ⟨idxK_lt hq, idxK_get hq, idxK_first c⟩
  generalize idxK c q = m at *
  obtain ⟨ca, cc, rfl, _⟩ := hc
  go_enter Try.func51, Try.ntmps51
  go_wp2_with fail
  go_loopw [8] (fun iv wr => ∃ (j : Nat), iv = .int .i64 j ∧ j ≤ m ∧ wr = w) (fun i _ => c.length - (intOf i).toNat)
  case atStart => exact ⟨0, rfl, Nat.zero_le _, rfl⟩
  case round =>
    obtain ⟨j, rfl, hj, rfl⟩ := hrel
    obtain ⟨h1, h2, h3⟩ := HI.out
    have hlt : j < c.length := by omega
    have d0 : decide ((j : Int) < c.length) = true := decide_eq_true (by omega)
    obtain ⟨_, _, e0, hr, _⟩ := HC.out
    cases e0
    obtain ⟨b, off, rfl, hb, cj⟩ := hr.at (Below.refl _ _) hlt
    have hgj : c[j]? = some c[j] := List.getElem?_eq_getElem hlt
    have cj2 : wr.cell? ⟨b, off + j, none⟩ = some (.int .i64 c[j]) := cj
    generalize c[j] = x at *
    by_cases hx : q = x
    · have d1 : (q == x) = true := by simp [hx]
      have HE : Hid (j = m) := by
        show j = m
        apply Classical.byContradiction
        intro hne
        exact h3 j (by omega) (by rw [hgj, hx])
      clear h1 h2 h3 hr cj hgj HI HC hx
      go_wp2_with fail
      go_ret
      exact ⟨by rw [← HE.out]; rfl, rfl⟩
    · have d1 : (q == x) = false := by simp [hx]
      have HE : Hid (j + 1 ≤ m) := by
        show j + 1 ≤ m
        apply Classical.byContradiction
        intro hne
        obtain rfl : j = m := by omega
        rw [h2] at hgj
        exact hx (Option.some.inj hgj)
      clear h1 h2 h3 hr cj hgj HI HC hx
      go_wp2_with fail
      exact ⟨⟨j + 1, by go_num, HE.out, by first | rfl | trivial⟩, by simp [intOf]; omega⟩
/-- The boxes of ofClasses. -/
structure ClsB (w : World) (v cv : Value) (Bl Bc Bo : Nat) (V : World) : Prop where
  bel : Below w.heap.size w V
  bl : V.heap[Bl]? = some (Obj.cells #[v] 22)
  bc : V.heap[Bc]? = some (Obj.cells #[cv] 57)
  bo : V.heap[Bo]? = some (Obj.cells #[.func (.func 50) #[] #[.pointer (some ⟨Bl, 0, none⟩), .pointer (some ⟨Bc, 0, none⟩)]] 84)
theorem ClsB.next {w : World} {v cv : Value} {Bl Bc Bo : Nat} {V V' : World} (h : ClsB w v cv Bl Bc Bo V) (hb : Below V.heap.size V V') : ClsB w v cv Bl Bc Bo V' := ⟨h.bel.trans (hb.mono h.bel.size), (hb.block _ (blk_lt h.bl)).trans h.bl, (hb.block _ (blk_lt h.bc)).trans h.bc, (hb.block _ (blk_lt h.bo)).trans h.bo⟩

set_option maxRecDepth 100000 in
set_option maxHeartbeats 1600000 in
theorem one_any (l : List Ds) (c : List Int) (v cv : Value) (q : Int) (Bl Bc Bo : Nat) (w V : World) (hl : SlD l v w) (hc : SlI c cv w) (hlen : c.length = l.length) (hn : l.length ≤ 10000) (hq : q ∈ c) (hB : ClsB w v cv Bl Bc Bo V) :
    ∃ u, SlA (arcsD l (idxK c q)) u w ∧ Calls Try.prog 50 #[.int .i64 q, .pointer (some ⟨Bl, 0, none⟩), .pointer (some ⟨Bc, 0, none⟩)] V fun e w' => e = .returned (.agg #[u, .int .i64 (accD l (idxK c q))]) ∧ Below V.heap.size V w' := by
  have hil : idxK c q < l.length := by rw [← hlen]; exact idxK_lt hq
  have hcn : c.length ≤ 100000 := by omega
  clear hlen hn
  have HCi := fun W (hW : Below w.heap.size w W) => index_any c cv q W (hc.next hW) hq hcn
  obtain ⟨va, vc, rfl, hd, _⟩ := hl
  obtain ⟨ca, cc, rfl, _⟩ := hc
  obtain ⟨b, off, u, rfl, hb, c1, c2, c3, hac⟩ := hd.at (Below.refl _ _) hil
  have e1 := (arcsD_mem hil).1
  have e2 := (arcsD_mem hil).2
  rw [e1, e2]
  generalize l[idxK c q] = x at *
  refine ⟨u, c3, ?_⟩
  obtain ⟨xa, xc, rfl, _⟩ := c3
  have HCI : Hid (∀ W, Below w.heap.size w W → Calls Try.prog 51 #[.slice ca c.length cc, .int .i64 q] W fun e w' => e = .returned (.int .i64 (idxK c q)) ∧ w' = W) := HCi
  clear HCi e1 e2
  generalize idxK c q = i at *
  have z0 := heap_alloc_new V (Obj.cells #[.slice none 0 0, .int .i64 0] 37)
  have hB2 := hB.next (below_box2 V (.slice none 0 0) (.int .i64 0) 37)
  have bV := below_box2 V (.slice none 0 0) (.int .i64 0) 37
  go_enter Try.func50, Try.ntmps50
  go_wp2_with fail
  generalize V.alloc (Obj.cells #[.slice none 0 0, .int .i64 0] 37) = W1 at *
  have k1 : W1.cell? ⟨Bl, 0, none⟩ = some (.slice (some ⟨b, off, none⟩) l.length vc) := by rw [Lib.cell_of_heap hB2.bl]; rfl
  have k2 : W1.cell? ⟨Bc, 0, none⟩ = some (.slice ca c.length cc) := by rw [Lib.cell_of_heap hB2.bc]; rfl
  have k3 : W1.cell? ⟨b, off + i * 2, none⟩ = some (.slice xa x.arcs.length xc) := (hB2.bel.cell (p := ⟨b, off + i * 2, none⟩) hb).trans c1
  have k4 : W1.cell? ⟨b, off + i * 2 + 1, none⟩ = some (.int .i64 x.acc) := (hB2.bel.cell (p := ⟨b, off + i * 2 + 1, none⟩) hb).trans c2
  have f0 : W1.frozen? ⟨V.heap.size, 0, none⟩ = false := Lib.frozen_of_heap z0 _
  have f1 : W1.frozen? ⟨V.heap.size, 1, none⟩ = false := Lib.frozen_of_heap z0 _
  have g0 : W1.cell? ⟨V.heap.size, 0, none⟩ = some (.slice none 0 0) := by rw [Lib.cell_of_heap z0]; rfl
  have g1 : W1.cell? ⟨V.heap.size, 1, none⟩ = some (.int .i64 0) := by rw [Lib.cell_of_heap z0]; rfl
  have HCL := HCI.out W1.drew (below_drewN hB2.bel 1)
  have HS : W1.drew.cell? ⟨Bl, 0, none⟩ = some (.slice (some ⟨b, off, none⟩) l.length vc) ∧ W1.drew.cell? ⟨Bc, 0, none⟩ = some (.slice ca c.length cc) ∧ W1.drew.cell? ⟨b, off + i * 2, none⟩ = some (.slice xa x.arcs.length xc) ∧ W1.drew.cell? ⟨b, off + i * 2 + 1, none⟩ = some (.int .i64 x.acc) := ⟨k1, k2, k3, k4⟩
  have HE : Hid (Below V.heap.size V ((W1.setCell ⟨V.heap.size, 0, none⟩ (.slice xa x.arcs.length xc)).setCell ⟨V.heap.size, 1, none⟩ (.int .i64 x.acc)).drew ∧ ((W1.setCell ⟨V.heap.size, 0, none⟩ (.slice xa x.arcs.length xc)).setCell ⟨V.heap.size, 1, none⟩ (.int .i64 x.acc)).drew.heap[V.heap.size]? = some (Obj.cells #[.slice xa x.arcs.length xc, .int .i64 x.acc] 37)) := by
    refine ⟨below_drewN (below_but bV (((But.refl (fun k => k = V.heap.size) _).setCell _ _ (.inr rfl)).setCell _ _ (.inr rfl)) (Nat.le_refl _) (fun k hk => by omega)) 1, ?_⟩
    have z1 := blk_set (o := 0) z0 (.slice xa x.arcs.length xc)
    have z2 := blk_set (o := 1) z1 (.int .i64 x.acc)
    have z3 : ((W1.setCell ⟨V.heap.size, 0, none⟩ (.slice xa x.arcs.length xc)).setCell ⟨V.heap.size, 1, none⟩ (.int .i64 x.acc)).heap[V.heap.size]? = some (Obj.cells #[.slice xa x.arcs.length xc, .int .i64 x.acc] 37) := by simpa using z2
    exact z3
  clear z0 hB2 bV k1 k2 k3 k4 hB HCI c1 c2
  refine wp_region_L (fun W => W.cell? ⟨Bl, 0, none⟩ = some (.slice (some ⟨b, off, none⟩) l.length vc) ∧ W.cell? ⟨Bc, 0, none⟩ = some (.slice ca c.length cc) ∧ W.cell? ⟨b, off + i * 2, none⟩ = some (.slice xa x.arcs.length xc) ∧ W.cell? ⟨b, off + i * 2 + 1, none⟩ = some (.int .i64 x.acc)) 6 (by kernel_rfl) 7 rfl ?_
  refine wpAnyL_take' (i := 0) (v := ?_) (oi := { dst := some 5, op := Op.load 22 (Operand.tmp 1), type := 22, pos := "classes.go:83", after := #[], guard := none }) rfl (by kernel_rfl) (by kernel_rfl) (by kernel_rfl) (by kernel_rfl) rfl (fun _ _ _ h => h) (Or.inl ⟨by rfl, ?_⟩) HS ?_
  rotate_left
  · intro W hSW
    go_simp
    try with_reducible rfl
  simp only [Act.put, List.setIfInBounds_toArray, List.set_cons_zero, List.set_cons_succ]
  refine wpAnyL_take' (i := 1) (v := ?_) (oi := { dst := some 6, op := Op.load 57 (Operand.tmp 2), type := 57, pos := "classes.go:83", after := #[], guard := none }) rfl (by kernel_rfl) (by kernel_rfl) (by kernel_rfl) (by kernel_rfl) rfl (fun _ _ _ h => h) (Or.inl ⟨by rfl, ?_⟩) HS ?_
  rotate_left
  · intro W hSW
    go_simp
    try with_reducible rfl
  simp only [Act.put, List.setIfInBounds_toArray, List.set_cons_zero, List.set_cons_succ]
  refine wpAnyL_take' (i := 2) (v := ?_) (oi := { dst := some 7, op := Op.move (Operand.tmp 0), type := 3, pos := "classes.go:83", after := #[], guard := none }) rfl (by kernel_rfl) (by kernel_rfl) (by kernel_rfl) (by kernel_rfl) rfl (fun _ _ _ h => h) (Or.inl ⟨by rfl, ?_⟩) HS ?_
  rotate_left
  · intro W hSW
    go_simp
    try with_reducible rfl
  simp only [Act.put, List.setIfInBounds_toArray, List.set_cons_zero, List.set_cons_succ]
  refine wpAnyL_one' (i := 3) (o := { dst := some 8, op := Op.call { callee := Callee.value (Operand.func 51), args := #[Operand.tmp 6, Operand.tmp 7], argTypes := #[57, 3] }, type := 3, pos := "classes.go:83", after := #[{ on := 1, ground := Ground.data }, { on := 2, ground := Ground.data }], guard := none }) (by kernel_rfl) rfl rfl (fun K hK => ?_)
  go_simp
  refine (HCL).mono ?_
  rintro e w4 ⟨rfl, rfl⟩
  refine hK.out _ _ (fun _ => HS) ?_
  clear hK
  refine wpAnyL_take' (i := 4) (v := ?_) (oi := { dst := some 9, op := Op.indexAddr 22 (Operand.tmp 5) (Operand.tmp 8), type := 0, pos := "classes.go:83", after := #[{ on := 0, ground := Ground.data }, { on := 3, ground := Ground.data }], guard := none }) rfl (by kernel_rfl) (by kernel_rfl) (by kernel_rfl) (by kernel_rfl) rfl (fun _ _ _ h => h) (Or.inl ⟨by rfl, ?_⟩) HS ?_
  rotate_left
  · intro W hSW
    go_simp
    try with_reducible rfl
  simp only [Act.put, List.setIfInBounds_toArray, List.set_cons_zero, List.set_cons_succ]
  refine wpAnyL_take' (i := 5) (v := ?_) (oi := { dst := some 10, op := Op.load 37 (Operand.tmp 9), type := 37, pos := "classes.go:83", after := #[{ on := 4, ground := Ground.data }], guard := none }) rfl (by kernel_rfl) (by kernel_rfl) (by kernel_rfl) (by kernel_rfl) rfl (fun _ _ _ h => h) (Or.inl ⟨by rfl, ?_⟩) HS ?_
  rotate_left
  · intro W hSW
    go_simp
    try with_reducible rfl
  simp only [Act.put, List.setIfInBounds_toArray, List.set_cons_zero, List.set_cons_succ]
  refine wpAnyL_one' (i := 6) (o := { dst := none, op := Op.store 37 (Operand.tmp 4) (Operand.tmp 10), type := 0, pos := "classes.go:83", after := #[{ on := 5, ground := Ground.data }, { on := 3, ground := Ground.chain }, { on := 0, ground := Ground.phase }, { on := 1, ground := Ground.phase }, { on := 2, ground := Ground.phase }, { on := 3, ground := Ground.phase }, { on := 4, ground := Ground.phase }, { on := 5, ground := Ground.phase }], guard := none }) (by kernel_rfl) rfl rfl (fun K hK => ?_)
  go_simp
  refine hK.out _ _ (fun h => absurd h (by decide)) ?_
  clear hK
  refine wpAnyL_done (by kernel_rfl) ?_ _

  have hh := HE.out.2
  generalize ((W1.setCell ⟨V.heap.size, 0, none⟩ (.slice xa x.arcs.length xc)).setCell ⟨V.heap.size, 1, none⟩ (.int .i64 x.acc)).drew = W9 at *
  clear HCL HS f0 f1 g0 g1
  go_wp2_with fail
  refine bodyPost_ret (results_cell_row rfl _ _ V.heap.size 37 #[.slice xa x.arcs.length xc, .int .i64 x.acc] (0, 0) _ rfl hh Try.underlying37 rfl (by kernel_rfl)) rfl ?_
  exact ⟨rfl, HE.out.1⟩

set_option maxRecDepth 100000 in
set_option maxHeartbeats 1600000 in
theorem accept_any (l : List Ds) (c : List Int) (v cv : Value) (q : Int) (Bl Bc Bo : Nat) (w V : World) (hl : SlD l v w) (hc : SlI c cv w) (hlen : c.length = l.length) (hn : l.length ≤ 10000) (hq : q ∈ c) (hB : ClsB w v cv Bl Bc Bo V) :
    Calls Try.prog 52 #[.int .i64 q, .pointer (some ⟨Bo, 0, none⟩)] V fun e w' => e = .returned (.int .i64 (accD l (idxK c q))) ∧ Below V.heap.size V w' := by
  obtain ⟨u, hu, C1⟩ := one_any l c v cv q Bl Bc Bo w V hl hc hlen hn hq hB
  have c0 : V.cell? ⟨Bo, 0, none⟩ = some (.func (.func 50) #[] #[.pointer (some ⟨Bl, 0, none⟩), .pointer (some ⟨Bc, 0, none⟩)]) := by rw [Lib.cell_of_heap hB.bo]; rfl
  clear hl hc hB hlen hu
  generalize accD l (idxK c q) = a at *
  go_enter Try.func52, Try.ntmps52
  go_wp2_with fail
  refine C1.mono ?_
  rintro e w1 ⟨rfl, hb⟩
  clear C1
  have hfd : ∀ W, (Instr.field 37 (.agg #[u, .int .i64 a]) 1).run Try.prog W = .ok (.int .i64 a) W := fun _ => by kernel_rfl
  go_wp2_with fail
  go_ret
  exact ⟨rfl, hb⟩

set_option maxRecDepth 100000 in
set_option maxHeartbeats 1600000 in
theorem arcs_any (l : List Ds) (c : List Int) (v cv : Value) (q : Int) (Bl Bc Bo : Nat) (w V : World) (hl : SlD l v w) (hc : SlI c cv w) (hlen : c.length = l.length) (hn : l.length ≤ 10000) (hq : q ∈ c) (hB : ClsB w v cv Bl Bc Bo V) :
    ∃ u, SlA (arcsD l (idxK c q)) u w ∧ Calls Try.prog 53 #[.int .i64 q, .pointer (some ⟨Bo, 0, none⟩), .pointer (some ⟨Bc, 0, none⟩)] V fun e w' => ∃ Bs, V.heap.size ≤ Bs ∧ e = .returned (.func (.func 67) #[] #[.pointer (some ⟨Bs, 0, none⟩), .pointer (some ⟨Bs + 1, 0, none⟩)]) ∧ Below V.heap.size V w' ∧ w'.heap[Bs]? = some (Obj.cells #[u, .int .i64 (accD l (idxK c q))] 37) ∧ w'.heap[Bs + 1]? = some (Obj.cells #[cv] 57) := by
  obtain ⟨u, hu, C1⟩ := one_any l c v cv q Bl Bc Bo w V.drew hl hc hlen hn hq (hB.next (below_drewN (Below.refl _ _) 1))
  refine ⟨u, hu, ?_⟩
  have c0 : V.cell? ⟨Bo, 0, none⟩ = some (.func (.func 50) #[] #[.pointer (some ⟨Bl, 0, none⟩), .pointer (some ⟨Bc, 0, none⟩)]) := by rw [Lib.cell_of_heap hB.bo]; rfl
  have c1 : V.cell? ⟨Bc, 0, none⟩ = some cv := by rw [Lib.cell_of_heap hB.bc]; rfl
  obtain ⟨ua, uc, rfl, _⟩ := hu
  obtain ⟨ca, cc, rfl, _⟩ := hc
  clear hl hB hlen
  generalize accD l (idxK c q) = a at *
  have HCA : Hid (∀ W : World, Calls Try.prog 54 #[.agg #[.slice ua (arcsD l (idxK c q)).length uc, .int .i64 a], .slice ca c.length cc] W fun e w' => e = .returned (.func (.func 67) #[] #[.pointer (some ⟨W.heap.size, 0, none⟩), .pointer (some ⟨W.heap.size + 1, 0, none⟩)]) ∧ w' = (W.alloc (Obj.cells #[.slice ua (arcsD l (idxK c q)).length uc, .int .i64 a] 37)).alloc (Obj.cells #[.slice ca c.length cc] 57)) := fun W => classArcs_any _ _ a ⟨_, _, _, rfl⟩ ⟨_, _, _, rfl⟩ W
  have HS : V.drew.cell? ⟨Bo, 0, none⟩ = some (.func (.func 50) #[] #[.pointer (some ⟨Bl, 0, none⟩), .pointer (some ⟨Bc, 0, none⟩)]) ∧ V.drew.cell? ⟨Bc, 0, none⟩ = some (.slice ca c.length cc) := ⟨c0, c1⟩
  have HS1 : Hid (∀ W, Below V.drew.heap.size V.drew W → W.cell? ⟨Bo, 0, none⟩ = some (.func (.func 50) #[] #[.pointer (some ⟨Bl, 0, none⟩), .pointer (some ⟨Bc, 0, none⟩)]) ∧ W.cell? ⟨Bc, 0, none⟩ = some (.slice ca c.length cc)) := fun W hW => ⟨(hW.cell (p := ⟨Bo, 0, none⟩) (World.block_lt_of_cell? _ _ c0)).trans c0, (hW.cell (p := ⟨Bc, 0, none⟩) (World.block_lt_of_cell? _ _ c1)).trans c1⟩
  generalize (arcsD l (idxK c q)).length = m at *
  go_enter Try.func53, Try.ntmps53
  go_wp2_with fail
  refine wp_region_L (fun W => W.cell? ⟨Bo, 0, none⟩ = some (.func (.func 50) #[] #[.pointer (some ⟨Bl, 0, none⟩), .pointer (some ⟨Bc, 0, none⟩)]) ∧ W.cell? ⟨Bc, 0, none⟩ = some (.slice ca c.length cc)) 6 (by kernel_rfl) 6 rfl ?_
  refine wpAnyL_take' (i := 0) (v := ?_) (oi := { dst := some 5, op := Op.load 84 (Operand.tmp 1), type := 84, pos := "classes.go:85", after := #[], guard := none }) rfl (by kernel_rfl) (by kernel_rfl) (by kernel_rfl) (by kernel_rfl) rfl (fun _ _ _ h => h) (Or.inl ⟨by rfl, ?_⟩) HS ?_
  rotate_left
  · intro W hSW
    go_simp
    try with_reducible rfl
  simp only [Act.put, List.setIfInBounds_toArray, List.set_cons_zero, List.set_cons_succ]
  refine wpAnyL_take' (i := 1) (v := ?_) (oi := { dst := some 6, op := Op.move (Operand.tmp 0), type := 3, pos := "classes.go:85", after := #[], guard := none }) rfl (by kernel_rfl) (by kernel_rfl) (by kernel_rfl) (by kernel_rfl) rfl (fun _ _ _ h => h) (Or.inl ⟨by rfl, ?_⟩) HS ?_
  rotate_left
  · intro W hSW
    go_simp
    try with_reducible rfl
  simp only [Act.put, List.setIfInBounds_toArray, List.set_cons_zero, List.set_cons_succ]
  refine wpAnyL_take' (i := 3) (v := ?_) (oi := { dst := some 8, op := Op.load 57 (Operand.tmp 2), type := 57, pos := "classes.go:85", after := #[], guard := none }) rfl (by kernel_rfl) (by kernel_rfl) (by kernel_rfl) (by kernel_rfl) rfl (fun _ _ _ h => h) (Or.inl ⟨by rfl, ?_⟩) HS ?_
  rotate_left
  · intro W hSW
    go_simp
    try with_reducible rfl
  simp only [Act.put, List.setIfInBounds_toArray, List.set_cons_zero, List.set_cons_succ]
  refine wpAnyL_one' (i := 2) (o := { dst := some 7, op := Op.call { callee := Callee.value (Operand.tmp 5), args := #[Operand.tmp 6], argTypes := #[3] }, type := 37, pos := "classes.go:85", after := #[{ on := 0, ground := Ground.data }, { on := 1, ground := Ground.data }], guard := none }) (by kernel_rfl) rfl rfl (fun K hK => ?_)
  go_simp
  refine (C1).mono ?_
  rintro e w1 ⟨rfl, hb1⟩
  refine hK.out _ _ (fun _ => (HS1.out _ hb1)) ?_
  clear hK
  refine wpAnyL_one' (i := 4) (o := { dst := some 9, op := Op.call { callee := Callee.value (Operand.func 54), args := #[Operand.tmp 7, Operand.tmp 8], argTypes := #[37, 57] }, type := 87, pos := "classes.go:85", after := #[{ on := 2, ground := Ground.data }, { on := 3, ground := Ground.data }, { on := 2, ground := Ground.chain }], guard := none }) (by kernel_rfl) rfl rfl (fun K hK => ?_)
  go_simp
  refine ((HCA.out _)).mono ?_
  rintro e w2 ⟨rfl, hw2⟩
  refine hK.out _ _ (fun _ => (HS1.out _ (hb1.trans ((show Below w1.heap.size w1 w2 by rw [hw2]; exact ((Below.refl _ _).alloc (Nat.le_refl _) _).alloc (by simp) _).mono hb1.size)))) ?_
  clear hK
  refine wpAnyL_take' (i := 5) (v := ?_) (oi := { dst := some 4, op := Op.assign (Operand.tmp 9), type := 87, pos := "classes.go:85", after := #[{ on := 4, ground := Ground.data }, { on := 4, ground := Ground.chain }, { on := 0, ground := Ground.phase }, { on := 1, ground := Ground.phase }, { on := 2, ground := Ground.phase }, { on := 3, ground := Ground.phase }, { on := 4, ground := Ground.phase }], guard := none }) rfl (by kernel_rfl) (by kernel_rfl) (by kernel_rfl) (by kernel_rfl) rfl (fun _ _ _ h => h) (Or.inl ⟨by rfl, ?_⟩) (HS1.out _ (hb1.trans ((show Below w1.heap.size w1 w2 by rw [hw2]; exact ((Below.refl _ _).alloc (Nat.le_refl _) _).alloc (by simp) _).mono hb1.size))) ?_
  rotate_left
  · intro W hSW
    go_simp
    try with_reducible rfl
  simp only [Act.put, List.setIfInBounds_toArray, List.set_cons_zero, List.set_cons_succ]
  refine wpAnyL_done (by kernel_rfl) ?_ _

  have HE : Hid (V.heap.size ≤ w1.heap.size ∧ Below V.heap.size V w2 ∧ w2.heap[w1.heap.size]? = some (Obj.cells #[.slice ua m uc, .int .i64 a] 37) ∧ w2.heap[w1.heap.size + 1]? = some (Obj.cells #[.slice ca c.length cc] 57)) := by
    have B0 : Below V.heap.size V V.drew := below_drewN (Below.refl _ _) 1
    have B1 : Below V.heap.size V w1 := B0.trans (hb1.mono B0.size)
    have B2 : Below w1.heap.size w1 w2 := by rw [hw2]; exact ((Below.refl _ _).alloc (Nat.le_refl _) _).alloc (by simp) _
    refine ⟨B1.size, B1.trans (B2.mono B1.size), by rw [hw2]; exact blk_new (heap_alloc_new _ _), ?_⟩
    rw [hw2]
    have := heap_alloc_new (w1.alloc (Obj.cells #[.slice ua m uc, .int .i64 a] 37)) (Obj.cells #[.slice ca c.length cc] 57)
    simpa using this
  clear hw2 hb1 HS HS1 C1 HCA c0 c1
  go_wp2_with fail
  go_ret
  exact ⟨w1.heap.size, HE.out.1, rfl, HE.out.2.1, HE.out.2.2.1, HE.out.2.2.2⟩
end Go.Proofs.Ytdalomibilicfaa
