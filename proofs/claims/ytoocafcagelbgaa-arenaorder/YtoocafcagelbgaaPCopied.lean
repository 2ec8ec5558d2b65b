/- copied: an arena in memory of its own. -/
import Derived.Test.YtoocafcagelbgaaAOwn
import Derived.Deep.Cut
namespace Go.Proofs.Ytoocafcagelbgaa
open Go.RowKit
attribute [local go_sem] Oper.semAt_some

theorem step_append_runI {P : Program} {ops : Array Oper} {o : Oper} {a : Act} {w : World} {K : Act → World → Prop} {Q : Exit → Act → World → Prop} {E : Prop}
    (hg : o.guard = none) (d x : Operand) (dT sT : TypeId) (hop : o.op = Op.call { callee := Callee.builtin Builtin.append, args := #[d, x], argTypes := #[dT, sT] })
    (v u : Value) (hd : a.eval d = v) (hx : a.eval x = u) {v' : Value} {w' : World} (hr : (Builtin.append_ #[dT, sT] o.type #[v, u]).run P w = .ok v' w') (hK : K (a.put o.dst v') w') :
    if Region.wanted o (yielded ops a.tmps) = true then Oper.wp P o a w K Q else E := by
  have hw : Region.wanted o (yielded ops a.tmps) = true := by simp [Region.wanted, hg]
  rw [if_pos hw]
  unfold Oper.wp
  simp [execOp, hop, resolve, invoke, builtin, hd, hx, hr, Result.andThen]
  exact hK
/-- Slots appended to nothing. -/
theorem app_slots (l : List Sl) (ao : Option Addr) (cap : Nat) (w0 W : World) (ty : TypeId) (h : SlS l (.slice ao l.length cap) w0) (hb0 : Below w0.heap.size w0 W) (hl : l.length ≤ 4096) :
    ∃ sa sc W', ∃ M : List Sm, (Builtin.append_ #[22, 22] ty #[.slice none 0 0, .slice ao l.length cap]).run Try.prog W = .ok (.slice sa l.length sc) W' ∧ W'.ownsRow W.heap.size 60 10 (.slice sa l.length sc) l.length (M.flatMap encM) ∧ M.map (·.1) = l ∧ (∀ m ∈ M, (∃ ka kc, m.2.1 = .slice ka m.1.nd.kids.length kc) ∧ SlI m.1.kids m.2.2 w0) ∧ Below W.heap.size W W' := by
  obtain ⟨ii, hii, hz0, hz1, hz2⟩ := info_parts infoSl
  obtain ⟨ao', cap', e, hs, hn, hc, _⟩ := h
  simp only [Value.slice.injEq] at e
  obtain ⟨rfl, -, rfl⟩ := e
  cases ao with
  | none =>
    have h0 : l = [] := by
      cases l with
      | nil => rfl
      | cons x l => obtain ⟨b, off, ka, kc, gv, e, _⟩ := hs 0 x rfl; cases e
    subst h0
    obtain rfl : cap = 0 := hn rfl
    have := run_append_owned_none (P := Try.prog) W W.heap.size 22 ty 60 ii 10 Try.underlying22 hii (.slice none 0 0) 0 [] (World.ownsRow_nil _ _ _ _)
    exact ⟨none, 0, W, [], this, World.ownsRow_nil _ _ _ _, rfl, fun m hm => (by cases hm), Below.refl _ _⟩
  | some ad =>
    by_cases h0 : l = []
    · subst h0
      obtain ⟨v', w', hr, ho, hg, hnil, hat⟩ := run_append_own_at (P := Try.prog) W W.heap.size 22 ty 60 ii _ 10 128 Try.underlying22 hii hz0 hz1 hz2 rfl (by decide) (.slice none 0 0) 0 [] (World.ownsRow_nil _ _ _ _) ad 0 cap [] rfl (fun j u hj => by simp at hj) (fun u hu => by simp at hu) (by unfold maxLen; omega) (by omega) (Nat.le_refl _)
      obtain ⟨sa, sc, rfl⟩ := slice_of_ownK ho
      exact ⟨sa, sc, w', [], hr, by simpa using ho, rfl, fun m hm => (by cases hm), ((But.refl (fun _ => False) W).grown hg (fun r h => by cases h)).below (Nat.le_refl _) (fun _ h => h.elim)⟩
    · obtain ⟨b, off, had⟩ : ∃ b off, ad = ⟨b, off, none⟩ := by
        obtain ⟨x, l', rfl⟩ := List.exists_cons_of_ne_nil h0
        obtain ⟨b, off, ka, kc, gv, e, _⟩ := hs 0 x rfl
        cases e; exact ⟨b, off, rfl⟩
      subst had
      obtain ⟨M, hM1, hM2, hM3⟩ := slots_cells b w0 l off (fun i s hi => by
        obtain ⟨b', off', ka, kc, gv, e, h1, h2, h3, h4, h5⟩ := hs i s hi
        cases e
        exact ⟨_, gv, ⟨ka, kc, rfl⟩, h2, h4⟩)
      have hbl : b < w0.heap.size := by
        obtain ⟨x, l', rfl⟩ := List.exists_cons_of_ne_nil h0
        obtain ⟨b', off', ka, kc, gv, e, h1, _⟩ := hs 0 x rfl
        cases e; exact h1
      have hML : M.length = l.length := by rw [← hM1]; simp
      have hfl : (M.flatMap encM).length = l.length * 10 := by
        rw [← hML]
        clear hM1 hM2 hM3 hML
        induction M with
        | nil => rfl
        | cons m M ih => rw [List.flatMap_cons, List.length_append, ih, encM_len, List.length_cons]; omega
      obtain ⟨v', w', hr, ho, hg, hnil, hat⟩ := run_append_own_at (P := Try.prog) W W.heap.size 22 ty 60 ii _ 10 128 Try.underlying22 hii hz0 hz1 hz2 rfl (by decide) (.slice none 0 0) 0 [] (World.ownsRow_nil _ _ _ _) ⟨b, off, none⟩ l.length cap (M.flatMap encM) hfl (fun j u hj => by rw [add_plain]; exact (hb0.cell (p := ⟨b, off + j, none⟩) hbl).trans (hM2 j u hj)) (one_encM M (fun m hm => by
        obtain ⟨⟨ka, kc, h1⟩, ⟨ga, gc, h2, _⟩⟩ := hM3 m hm
        exact ⟨⟨ka, _, kc, h1⟩, ⟨ga, _, gc, h2⟩⟩)) (by unfold maxLen; omega) (by omega) (Nat.le_refl _)
      simp only [Nat.zero_add, List.nil_append] at ho
      obtain ⟨sa, sc, rfl⟩ := slice_of_ownK ho
      exact ⟨sa, sc, w', M, hr, ho, hM1, hM3, ((But.refl (fun _ => False) W).grown hg (fun r h => by cases h)).below (Nat.le_refl _) (fun _ h => h.elim)⟩
/-- Numbers appended to nothing. -/
theorem app_ints (xs : List Int) (xa : Option Addr) (xc : Nat) (W : World) (ty : TypeId) (h : SlI xs (.slice xa xs.length xc) W) (hl : xs.length ≤ 1000000) :
    ∃ ya yc W', (Builtin.append_ #[23, 23] ty #[.slice none 0 0, .slice xa xs.length xc]).run Try.prog W = .ok (.slice ya xs.length yc) W' ∧ OwnI W.heap.size xs (.slice ya xs.length yc) W' ∧ Below W.heap.size W W' := by
  obtain ⟨ii, hii, hz0, hz1, hz2⟩ := info_parts info3
  obtain ⟨ao', cap', e, hs, hn, hc, _⟩ := h
  simp only [Value.slice.injEq] at e
  obtain ⟨rfl, -, rfl⟩ := e
  cases xa with
  | none =>
    obtain rfl : xs = [] := hs.cons_none
    obtain rfl : xc = 0 := hn rfl
    have := run_append_owned_none (P := Try.prog) W W.heap.size 23 ty 3 ii 1 Try.underlying23 hii (.slice none 0 0) 0 [] (World.ownsRow_nil _ _ _ _)
    exact ⟨none, 0, W, this, World.ownsRow_nil _ _ _ _, Below.refl _ _⟩
  | some ad =>
    have hnews : ∀ j u, (xs.map encI)[j]? = some u → W.cell? (ad.add j) = some u := by
      intro j u hj
      rw [List.getElem?_map] at hj
      obtain ⟨x, hx, rfl⟩ := Option.map_eq_some_iff.1 hj
      obtain ⟨b, off, e, _, h2⟩ := hs j x hx
      cases e
      rw [add_plain]
      exact h2
    obtain ⟨v', w', hr, ho, hg, hnil, hat⟩ := run_append_own_at (P := Try.prog) W W.heap.size 23 ty 3 ii _ 1 8 Try.underlying23 hii hz0 hz1 hz2 rfl (by decide) (.slice none 0 0) 0 [] (World.ownsRow_nil _ _ _ _) ad xs.length xc (xs.map encI) (by simp) hnews (one_row xs) (by unfold maxLen; omega) (by omega) (Nat.le_refl _)
    simp only [Nat.zero_add, List.nil_append] at ho
    obtain ⟨sa, sc, rfl⟩ := slice_of_ownK ho
    exact ⟨sa, sc, w', hr, ho, ((But.refl (fun _ => False) W).grown hg (fun r h => by cases h)).below (Nat.le_refl _) (fun _ h => h.elim)⟩
/-- What lies there as copied begins. -/
structure CpI (w0 : World) (l : List Sl) (roots : List Int) (fr : Int) (tb : Nat) (sv rv : Value) (M : List Sm) (W : World) : Prop where
  box : W.heap[tb]? = some (Obj.cells #[sv, .int .i64 fr, rv] 25)
  low : w0.heap.size ≤ tb
  row : W.ownsRow w0.heap.size 60 10 sv l.length (M.flatMap encM)
  map : M.map (·.1) = l
  mem : ∀ m ∈ M, (∃ ka kc, m.2.1 = .slice ka m.1.nd.kids.length kc) ∧ SlI m.1.kids m.2.2 w0
  rt : OwnI w0.heap.size roots rv W
  bel : Below w0.heap.size w0 W
theorem ownI_mono {B B' : Nat} {l : List Int} {v : Value} {W : World} (h : OwnI B l v W) (hb : B' ≤ B) : OwnI B' l v W := own_mono h hb
theorem own_nb {W : World} {B n k j : Nat} {e t : TypeId} {v : Value} {xs : List Value} {cs : Array Value} (h : W.ownsRow B e k v n xs) (hb : W.heap[j]? = some (Obj.cells cs t)) (hne : e ≠ t) : v.ownBlock ≠ some j := by
  intro hj
  obtain ⟨cs', hc'⟩ := own_is_cells h hj
  rw [hb] at hc'
  simp at hc'
  exact hne hc'.2.symm

/-- .. and on the way, up to slot i. -/
structure CpL (w0 : World) (l : List Sl) (roots : List Int) (fr : Int) (tb : Nat) (sv rv : Value) (i : Nat) (M : List Sm) (W : World) : Prop where
  box : W.heap[tb]? = some (Obj.cells #[sv, .int .i64 fr, rv] 25)
  low : w0.heap.size ≤ tb
  row : W.ownsRow w0.heap.size 60 10 sv l.length (M.flatMap encM)
  map : M.map (·.1) = l
  done : ∀ (j : Nat) (m : Sm), M[j]? = some m → j < i → m.2.1 = .slice none 0 0 ∧ OwnI w0.heap.size m.1.kids m.2.2 W ∧ ∀ k, rv.ownBlock = some k → m.2.2.ownBlock ≠ some k
  rt : OwnI w0.heap.size roots rv W
  bel : Below w0.heap.size w0 W
theorem CpI.start {w0 : World} {l : List Sl} {roots : List Int} {fr : Int} {tb : Nat} {sv rv : Value} {M : List Sm} {W : World} (h : CpI w0 l roots fr tb sv rv M W) : CpL w0 l roots fr tb sv rv 0 M W :=
  ⟨h.box, h.low, h.row, h.map, fun j m _ hj => by omega, h.rt, h.bel⟩
theorem CpL.step {w0 : World} {l : List Sl} {roots : List Int} {fr : Int} {tb g sc : Nat} {rv : Value} {i : Nat} {M : List Sm} {W W1 W2 : World} {s : Sl} {kv gv u : Value} (h : CpL w0 l roots fr tb (.slice (some ⟨g, 0, none⟩) l.length sc) rv i M W) (hm : M[i]? = some (s, kv, gv))
    (h1 : Below W.heap.size W W1) (h2 : Below W1.heap.size (W1.setCell ⟨g, i * 10 + 6, none⟩ (.slice none 0 0)) W2) (ho : OwnI W1.heap.size s.kids u W2) :
    CpL w0 l roots fr tb (.slice (some ⟨g, 0, none⟩) l.length sc) rv (i + 1) (M.set i (s, .slice none 0 0, u)) (W2.setCell ⟨g, i * 10 + 7, none⟩ u) := by
  have hg := World.ownsRow.lt h.row g rfl
  have z1 := h1.size
  have B1 : But (fun k => k = g) W (W1.setCell ⟨g, i * 10 + 6, none⟩ (.slice none 0 0)) := (But.of_next h1).setCell _ _ (.inr rfl)
  have zs : (W1.setCell ⟨g, i * 10 + 6, none⟩ (.slice none 0 0)).heap.size = W1.heap.size := by simp
  have B2 : But (fun k => k = g) W W2 := B1.trans ((But.of_next (D := fun k => k = g) (by rw [zs]; exact h2)))
  have B3 : But (fun k => k = g) W (W2.setCell ⟨g, i * 10 + 7, none⟩ u) := B2.setCell _ _ (.inr rfl)
  have ntb : tb ≠ g := fun e => own_nb h.row h.box (by decide) (by rw [e]; rfl)
  have r1 := (World.ownsRow.stored (ownsRow_below4 h.row h1) (i * 10 + 6) (.slice none 0 0)).1
  rw [flat_set encM_len (by omega) hm (y := (s, .slice none 0 0, gv)) rfl] at r1
  have r2 := ownsRow_below4 r1 (by rw [zs]; exact h2)
  have hlen : i < M.length := (List.getElem?_eq_some_iff.1 hm).1
  have r3 := (World.ownsRow.stored r2 (i * 10 + 7) u).1
  rw [flat_set encM_len (by omega) (x := (s, .slice none 0 0, gv)) (by simp [hlen]) (y := (s, .slice none 0 0, u)) rfl, List.set_set] at r3
  have hsz0 := h.bel.size
  refine ⟨but_blk B3 h.box ntb, h.low, r3, ?_, ?_, ownsRow_keep h.rt B3 (fun j hj e => ?_), h.bel.trans (B3.below hsz0 (fun k hk => by omega))⟩
  · rw [List.map_set]
    have : (s, kv, gv) = M[i] := by rw [List.getElem?_eq_getElem hlen] at hm; exact (Option.some.inj hm).symm
    have e : (M.map (·.1))[i]? = some s := by rw [List.getElem?_map, hm]; rfl
    rw [← h.map]
    refine List.ext_getElem? fun j => ?_
    rw [List.getElem?_set]
    split
    · subst_vars
      rw [e]; simp [hlen]
    · rfl
  · intro j m hj hji
    rw [List.getElem?_set] at hj
    split at hj
    · rename_i e
      subst e
      try rw [if_pos hlen] at hj
      cases hj
      refine ⟨rfl, ownI_mono (ownsRow_keep ho ((But.refl (fun k => k = g) W2).setCell _ _ (.inr rfl)) (fun q hq e => ?_)) (by omega), fun k hk => ?_⟩
      · have := (World.ownsRow.lt ho q hq).1; omega
      · intro hu
        have a1 := (World.ownsRow.lt h.rt k hk).2
        have a2 := (World.ownsRow.lt ho k hu).1
        omega
    · obtain ⟨q1, q2, q3⟩ := h.done j m hj (by omega)
      refine ⟨q1, ownsRow_keep q2 B3 (fun q hq e => ?_), q3⟩
      obtain ⟨cs, hcs⟩ := own_is_cells h.row (j := g) rfl
      exact own_nb q2 hcs (by decide) (by rw [← e]; exact hq)
  · obtain ⟨cs, hcs⟩ := own_is_cells h.row (j := g) rfl
    exact own_nb h.rt hcs (by decide) (by rw [← e]; exact hj)
theorem flatMap_eq {α β : Type} {f g : α → List β} : ∀ {l : List α}, (∀ x ∈ l, f x = g x) → l.flatMap f = l.flatMap g
  | [], _ => rfl
  | x :: l, h => by rw [List.flatMap_cons, List.flatMap_cons, h x (by simp), flatMap_eq (fun y hy => h y (by simp [hy]))]
theorem CpL.out {w0 : World} {l : List Sl} {roots : List Int} {fr : Int} {tb : Nat} {sv rv : Value} {M : List Sm} {W : World} (h : CpL w0 l roots fr tb sv rv l.length M W) (hok : ∀ s ∈ l, okS s) : ∃ L : List Sv, L.map Prod.fst = l ∧ OwnS w0.heap.size L sv W ∧ ∀ p ∈ L, ∀ k, rv.ownBlock = some k → p.2.ownBlock ≠ some k := by
  have hML : M.length = l.length := by rw [← h.map]; simp
  have hd : ∀ m ∈ M, m.2.1 = .slice none 0 0 ∧ OwnI w0.heap.size m.1.kids m.2.2 W ∧ ∀ k, rv.ownBlock = some k → m.2.2.ownBlock ≠ some k := fun m hm => by
    obtain ⟨j, hj, rfl⟩ := List.getElem_of_mem hm
    exact h.done j _ (List.getElem?_eq_getElem hj) (by omega)
  refine ⟨M.map fun m => (m.1, m.2.2), by rw [List.map_map]; exact h.map, ⟨?_, ?_, ?_⟩, ?_⟩
  · have : (M.map fun m => (m.1, m.2.2)).flatMap encS = M.flatMap encM := by
      rw [List.flatMap_map]
      refine flatMap_eq fun m hm => ?_
      rw [← encS_asM]
      unfold asM nilV
      rw [← (hd m hm).1]
    rw [this, List.length_map, hML]
    exact h.row
  · intro p hp
    obtain ⟨m, hm, rfl⟩ := List.mem_map.1 hp
    exact (hd m hm).2.1
  · intro p hp
    obtain ⟨m, hm, rfl⟩ := List.mem_map.1 hp
    refine hok _ ?_
    rw [← h.map]
    exact List.mem_map.2 ⟨m, hm, rfl⟩
  · intro p hp
    obtain ⟨m, hm, rfl⟩ := List.mem_map.1 hp
    exact (hd m hm).2.2

set_option maxRecDepth 100000 in
set_option maxHeartbeats 8000000 in
theorem copied_any (a : Ar) (v : Value) (w : World) (h : ArV a v w) (hlen : a.slots.length ≤ 4096) (hrl : a.roots.length ≤ 4096) (hleaf : ∀ s ∈ a.slots, s.nd.kids = []) (hkl : ∀ s ∈ a.slots, s.kids.length ≤ 1000000) :
    Calls Try.prog 48 #[v] w fun e w' => ∃ sa sc ra rc L, e = .returned (.agg #[.slice sa a.slots.length sc, .int .i64 a.free, .slice ra a.roots.length rc]) ∧ L.map Prod.fst = a.slots ∧ OwnS w.heap.size L (.slice sa a.slots.length sc) w' ∧ OwnI w.heap.size a.roots (.slice ra a.roots.length rc) w' ∧ (∀ p ∈ L, ∀ k, (Value.slice ra a.roots.length rc).ownBlock = some k → p.2.ownBlock ≠ some k) ∧ Below w.heap.size w w' := by
  obtain ⟨sv, rv, rfl, hs, hr, hfi, _⟩ := h
  have HA1 : Hid (∀ W, Below w.heap.size w W → SlS a.slots sv W) := fun W hb => hs.next hb
  have HA2 : Hid (∀ W, Below w.heap.size w W → SlI a.roots rv W) := fun W hb => hr.next hb
  obtain ⟨ao, cap, rfl, _⟩ := hs
  obtain ⟨ra, rc, rfl, _⟩ := hr
  generalize a.slots = l at *
  generalize a.roots = roots at *
  generalize a.free = fr at *
  have B0 : Below w.heap.size w ((w.alloc (Obj.cells #[.slice ao l.length cap, .int .i64 fr, .slice ra roots.length rc] 25)).alloc (Obj.cells #[.slice none 0 0, .int .i64 0, .slice none 0 0] 25)) := ((Below.refl _ _).alloc (Nat.le_refl _) _).alloc (by simp) _
  have k0 : ((w.alloc (Obj.cells #[.slice ao l.length cap, .int .i64 fr, .slice ra roots.length rc] 25)).alloc (Obj.cells #[.slice none 0 0, .int .i64 0, .slice none 0 0] 25)).heap[w.heap.size]? = some (Obj.cells #[.slice ao l.length cap, .int .i64 fr, .slice ra roots.length rc] 25) := by
    exact (Below.heap_alloc _ _ _ (by simp)).trans (heap_alloc_new w _)
  have k1 : ((w.alloc (Obj.cells #[.slice ao l.length cap, .int .i64 fr, .slice ra roots.length rc] 25)).alloc (Obj.cells #[.slice none 0 0, .int .i64 0, .slice none 0 0] 25)).heap[w.heap.size + 1]? = some (Obj.cells #[.slice none 0 0, .int .i64 0, .slice none 0 0] 25) := by
    simpa using heap_alloc_new (w.alloc (Obj.cells #[.slice ao l.length cap, .int .i64 fr, .slice ra roots.length rc] 25)) (Obj.cells #[.slice none 0 0, .int .i64 0, .slice none 0 0] 25)
  have hz0 : ((w.alloc (Obj.cells #[.slice ao l.length cap, .int .i64 fr, .slice ra roots.length rc] 25)).alloc (Obj.cells #[.slice none 0 0, .int .i64 0, .slice none 0 0] 25)).heap.size = w.heap.size + 2 := by simp
  go_enter Try.func48, Try.ntmps48
  go_upto_region 1 with fail
  generalize ((w.alloc (Obj.cells #[.slice ao l.length cap, .int .i64 fr, .slice ra roots.length rc] 25)).alloc (Obj.cells #[.slice none 0 0, .int .i64 0, .slice none 0 0] 25)) = w0 at *
  have HB0 : Hid (Below w.heap.size w w0 ∧ w0.heap.size = w.heap.size + 2) := ⟨B0, hz0⟩
  have HA1 : Hid (∀ W, Below w0.heap.size w0 W → SlS l (.slice ao l.length cap) W) := fun W hb => HA1.out W (below_next HB0.out.1 hb)
  have HA2 : Hid (∀ W, Below w0.heap.size w0 W → SlI roots (.slice ra roots.length rc) W) := fun W hb => HA2.out W (below_next HB0.out.1 hb)
  have HK : Hid (∀ W, Below w0.heap.size w0 W → W.heap[w.heap.size]? = some (Obj.cells #[.slice ao l.length cap, .int .i64 fr, .slice ra roots.length rc] 25) ∧ W.heap[w.heap.size + 1]? = some (Obj.cells #[.slice none 0 0, .int .i64 0, .slice none 0 0] 25)) := fun W hb => ⟨(hb.block _ (blk_lt k0)).trans k0, (hb.block _ (blk_lt k1)).trans k1⟩
  have HSS : Hid (∀ W, Below w0.heap.size w0 W → (W.cell? ⟨w.heap.size, 0, none⟩ = some (.slice ao l.length cap) ∧ W.cell? ⟨w.heap.size, 1, none⟩ = some (.int .i64 fr) ∧ W.cell? ⟨w.heap.size, 2, none⟩ = some (.slice ra roots.length rc))) := fun W hb => by
    have := (HK.out W hb).1
    refine ⟨?_, ?_, ?_⟩ <;> (rw [Lib.cell_of_heap this]; rfl)
  clear k0 k1 hz0 B0
  go_cut [3] from 6 (fun t3 wx => ∃ tb sa sc ya yc M, t3 = .pointer (some ⟨tb, 0, none⟩) ∧ Hid (CpI w0 l roots fr tb (.slice sa l.length sc) (.slice ya roots.length yc) M wx))
  case first =>
    have HS0 := HSS.out w0.drew (Below.refl _ _).drew
    have BS : Below w0.heap.size w0 w0.drew := (Below.refl _ _).drew
    refine wp_region_L (fun W => W.cell? ⟨w.heap.size, 0, none⟩ = some (.slice ao l.length cap) ∧ W.cell? ⟨w.heap.size, 1, none⟩ = some (.int .i64 fr) ∧ W.cell? ⟨w.heap.size, 2, none⟩ = some (.slice ra roots.length rc)) 10 (by kernel_rfl) 11 rfl ?_
    refine wpAnyL_take' (i := 0) (v := ?_) (oi := { dst := some 6, op := Op.fieldAddr 25 (Operand.tmp 1) 0, type := 0, pos := "trees.go:86", after := #[], guard := none }) rfl (by kernel_rfl) (by kernel_rfl) (by kernel_rfl) (by kernel_rfl) rfl (fun _ _ _ h => h) (Or.inl ⟨by rfl, ?_⟩) HS0 ?_
    rotate_left
    · intro W hSW
      go_simp
      try with_reducible rfl
    simp only [Act.put, List.setIfInBounds_toArray, List.set_cons_zero, List.set_cons_succ]
    refine wpAnyL_take' (i := 1) (v := ?_) (oi := { dst := some 7, op := Op.load 22 (Operand.tmp 6), type := 22, pos := "trees.go:86", after := #[{ on := 0, ground := Ground.data }], guard := none }) rfl (by kernel_rfl) (by kernel_rfl) (by kernel_rfl) (by kernel_rfl) rfl (fun _ _ _ h => h) (Or.inl ⟨by rfl, ?_⟩) HS0 ?_
    rotate_left
    · intro W hSW
      go_simp
      try with_reducible rfl
    simp only [Act.put, List.setIfInBounds_toArray, List.set_cons_zero, List.set_cons_succ]
    refine wpAnyL_take' (i := 3) (v := ?_) (oi := { dst := some 9, op := Op.fieldAddr 25 (Operand.tmp 1) 1, type := 0, pos := "trees.go:86", after := #[], guard := none }) rfl (by kernel_rfl) (by kernel_rfl) (by kernel_rfl) (by kernel_rfl) rfl (fun _ _ _ h => h) (Or.inl ⟨by rfl, ?_⟩) HS0 ?_
    rotate_left
    · intro W hSW
      go_simp
      try with_reducible rfl
    simp only [Act.put, List.setIfInBounds_toArray, List.set_cons_zero, List.set_cons_succ]
    refine wpAnyL_take' (i := 4) (v := ?_) (oi := { dst := some 10, op := Op.load 3 (Operand.tmp 9), type := 3, pos := "trees.go:86", after := #[{ on := 3, ground := Ground.data }], guard := none }) rfl (by kernel_rfl) (by kernel_rfl) (by kernel_rfl) (by kernel_rfl) rfl (fun _ _ _ h => h) (Or.inl ⟨by rfl, ?_⟩) HS0 ?_
    rotate_left
    · intro W hSW
      go_simp
      try with_reducible rfl
    simp only [Act.put, List.setIfInBounds_toArray, List.set_cons_zero, List.set_cons_succ]
    refine wpAnyL_take' (i := 5) (v := ?_) (oi := { dst := some 11, op := Op.fieldAddr 25 (Operand.tmp 1) 2, type := 0, pos := "trees.go:86", after := #[], guard := none }) rfl (by kernel_rfl) (by kernel_rfl) (by kernel_rfl) (by kernel_rfl) rfl (fun _ _ _ h => h) (Or.inl ⟨by rfl, ?_⟩) HS0 ?_
    rotate_left
    · intro W hSW
      go_simp
      try with_reducible rfl
    simp only [Act.put, List.setIfInBounds_toArray, List.set_cons_zero, List.set_cons_succ]
    refine wpAnyL_take' (i := 6) (v := ?_) (oi := { dst := some 12, op := Op.load 23 (Operand.tmp 11), type := 23, pos := "trees.go:86", after := #[{ on := 5, ground := Ground.data }], guard := none }) rfl (by kernel_rfl) (by kernel_rfl) (by kernel_rfl) (by kernel_rfl) rfl (fun _ _ _ h => h) (Or.inl ⟨by rfl, ?_⟩) HS0 ?_
    rotate_left
    · intro W hSW
      go_simp
      try with_reducible rfl
    simp only [Act.put, List.setIfInBounds_toArray, List.set_cons_zero, List.set_cons_succ]
    generalize w0.drew = wd at *
    refine wpAnyL_two (i := 2) (j := 9) (oi := { dst := some 8, op := Op.call { callee := Callee.builtin Builtin.append, args := #[Operand.const (Value.slice none 0 0), Operand.tmp 7], argTypes := #[22, 22] }, type := 22, pos := "trees.go:86", after := #[{ on := 1, ground := Ground.data }], guard := none }) (oj := { dst := some 3, op := Op.alloc 25, type := 0, pos := "trees.go:86", after := #[], guard := none }) (by kernel_rfl) rfl rfl rfl rfl (fun K hK => ?_) (fun K hK => ?_)
    · obtain ⟨sa, sc, W1, M, hap, hrow, hM1, hM2, hba⟩ := app_slots l ao cap w0 wd 22 (HA1.out _ (Below.refl _ _)) BS hlen
      have BS1 : Below w0.heap.size w0 W1 := below_next BS hba
      refine step_append_runI rfl _ _ 22 22 rfl _ _ rfl rfl hap ?_
      refine hK.out _ _ (fun _ => HSS.out _ BS1) ?_
      clear hK hap
      have HROW : Hid (W1.ownsRow w0.heap.size 60 10 (.slice sa l.length sc) l.length (M.flatMap encM) ∧ M.map (·.1) = l ∧ (∀ m ∈ M, (∃ ka kc, m.2.1 = .slice ka m.1.nd.kids.length kc) ∧ SlI m.1.kids m.2.2 w0)) := ⟨own_mono hrow (BS).size, hM1, hM2⟩
      clear hrow hM1 hM2 hba
      try simp only [Act.put, List.setIfInBounds_toArray, List.set_cons_zero, List.set_cons_succ]
      refine wpAnyL_two (i := 7) (j := 9) (oi := { dst := some 13, op := Op.call { callee := Callee.builtin Builtin.append, args := #[Operand.const (Value.slice none 0 0), Operand.tmp 12], argTypes := #[23, 23] }, type := 23, pos := "trees.go:86", after := #[{ on := 6, ground := Ground.data }, { on := 2, ground := Ground.chain }], guard := none }) (oj := { dst := some 3, op := Op.alloc 25, type := 0, pos := "trees.go:86", after := #[], guard := none }) (by kernel_rfl) rfl rfl rfl rfl (fun K hK => ?_) (fun K hK => ?_)
      · obtain ⟨ya, yc, W2, hap, hrt, hba2⟩ := app_ints roots ra rc W1 23 (HA2.out _ BS1) (by omega)
        have BS2 : Below w0.heap.size w0 W2 := below_next BS1 hba2
        refine step_append_runI rfl _ _ 23 23 rfl _ _ rfl rfl hap ?_
        refine hK.out _ _ (fun _ => HSS.out _ BS2) ?_
        clear hK hap
        have HROW2 : Hid (W2.ownsRow w0.heap.size 60 10 (.slice sa l.length sc) l.length (M.flatMap encM) ∧ M.map (·.1) = l ∧ (∀ m ∈ M, (∃ ka kc, m.2.1 = .slice ka m.1.nd.kids.length kc) ∧ SlI m.1.kids m.2.2 w0) ∧ OwnI w0.heap.size roots (.slice ya roots.length yc) W2) := ⟨ownsRow_below4 HROW.out.1 hba2, HROW.out.2.1, HROW.out.2.2, ownI_mono hrt (BS1).size⟩
        clear hrt HROW
        try simp only [Act.put, List.setIfInBounds_toArray, List.set_cons_zero, List.set_cons_succ]
        refine wpAnyL_take' (i := 8) (v := ?_) (oi := { dst := some 14, op := Op.build 25 #[(0, Operand.tmp 8), (1, Operand.tmp 10), (2, Operand.tmp 13)], type := 25, pos := "trees.go:86", after := #[{ on := 2, ground := Ground.data }, { on := 4, ground := Ground.data }, { on := 7, ground := Ground.data }], guard := none }) rfl (by kernel_rfl) (by kernel_rfl) (by kernel_rfl) (by kernel_rfl) rfl (fun _ _ _ h => h) (Or.inl ⟨by rfl, ?_⟩) (HSS.out _ BS2) ?_
        rotate_left
        · intro W hSW
          go_simp
          try with_reducible rfl
        simp only [Act.put, List.setIfInBounds_toArray, List.set_cons_zero, List.set_cons_succ]
        refine wpAnyL_one' (i := 9) (o := { dst := some 3, op := Op.alloc 25, type := 0, pos := "trees.go:86", after := #[], guard := none }) (by kernel_rfl) rfl rfl (fun K hK => ?_)
        go_simp
        have BS3 : Below w0.heap.size w0 (W2.alloc (Obj.cells #[.slice none 0 0, .int .i64 0, .slice none 0 0] 25)) := BS2.alloc (BS2).size _
        refine hK.out _ _ (fun _ => HSS.out _ BS3) ?_
        clear hK
        try simp only [Act.put, List.setIfInBounds_toArray, List.set_cons_zero, List.set_cons_succ]
        have hbn : Below W2.heap.size W2 (W2.alloc (Obj.cells #[.slice none 0 0, .int .i64 0, .slice none 0 0] 25)) := (Below.refl _ _).alloc (Nat.le_refl _) _
        have kt : (W2.alloc (Obj.cells #[.slice none 0 0, .int .i64 0, .slice none 0 0] 25)).heap[W2.heap.size]? = some (Obj.cells #[.slice none 0 0, .int .i64 0, .slice none 0 0] 25) := heap_alloc_new _ _
        have hlt : w0.heap.size ≤ W2.heap.size := BS2.size
        have HROW2 : Hid ((W2.alloc (Obj.cells #[.slice none 0 0, .int .i64 0, .slice none 0 0] 25)).ownsRow w0.heap.size 60 10 (.slice sa l.length sc) l.length (M.flatMap encM) ∧ M.map (·.1) = l ∧ (∀ m ∈ M, (∃ ka kc, m.2.1 = .slice ka m.1.nd.kids.length kc) ∧ SlI m.1.kids m.2.2 w0) ∧ OwnI w0.heap.size roots (.slice ya roots.length yc) (W2.alloc (Obj.cells #[.slice none 0 0, .int .i64 0, .slice none 0 0] 25))) := ⟨ownsRow_below4 HROW2.out.1 hbn, HROW2.out.2.1, HROW2.out.2.2.1, ownsRow_below4 HROW2.out.2.2.2 hbn⟩
        generalize W2.heap.size = tb at *
        generalize W2.alloc (Obj.cells #[.slice none 0 0, .int .i64 0, .slice none 0 0] 25) = W3 at *
        clear hbn
        have c0' : W3.cell? ⟨tb, 0, none⟩ = some (.slice none 0 0) := by rw [Lib.cell_of_heap kt]; rfl
        have c1' : W3.cell? ⟨tb, 1, none⟩ = some (.int .i64 0) := by rw [Lib.cell_of_heap kt]; rfl
        have c2' : W3.cell? ⟨tb, 2, none⟩ = some (.slice none 0 0) := by rw [Lib.cell_of_heap kt]; rfl
        have f' : ∀ o, W3.frozen? ⟨tb, o, none⟩ = false := fun o => Lib.frozen_of_heap kt _
        have HEND : Hid (CpI w0 l roots fr tb (.slice sa l.length sc) (.slice ya roots.length yc) M (((W3.setCell ⟨tb, 0, none⟩ (.slice sa l.length sc)).setCell ⟨tb, 1, none⟩ (.int .i64 fr)).setCell ⟨tb, 2, none⟩ (.slice ya roots.length yc))) := by
          have q1 := blk_set (o := 0) kt (.slice sa l.length sc)
          have q2 := blk_set (o := 1) q1 (.int .i64 fr)
          have q3 := blk_set (o := 2) q2 (.slice ya roots.length yc)
          have B3 : But (fun k => k = tb) W3 (((W3.setCell ⟨tb, 0, none⟩ (.slice sa l.length sc)).setCell ⟨tb, 1, none⟩ (.int .i64 fr)).setCell ⟨tb, 2, none⟩ (.slice ya roots.length yc)) := (((But.refl (fun k => k = tb) W3).setCell ⟨tb, 0, none⟩ (.slice sa l.length sc) (.inr rfl)).setCell ⟨tb, 1, none⟩ (.int .i64 fr) (.inr rfl)).setCell ⟨tb, 2, none⟩ (.slice ya roots.length yc) (.inr rfl)
          obtain ⟨h1, h2, h3, h4⟩ := HROW2.out
          refine ⟨by simpa using q3, hlt, ownsRow_keep h1 B3 (fun j hj e => own_nb h1 kt (by decide) (by rw [← e]; exact hj)), h2, h3, ownsRow_keep h4 B3 (fun j hj e => own_nb h4 kt (by decide) (by rw [← e]; exact hj)), BS3.trans (B3.below (BS3).size (fun k hk => by omega))⟩
        refine wpAnyL_one' (i := 10) (o := { dst := none, op := Op.store 25 (Operand.tmp 3) (Operand.tmp 14), type := 0, pos := "trees.go:86", after := #[{ on := 9, ground := Ground.data }, { on := 8, ground := Ground.data }, { on := 7, ground := Ground.chain }, { on := 0, ground := Ground.phase }, { on := 1, ground := Ground.phase }, { on := 2, ground := Ground.phase }, { on := 3, ground := Ground.phase }, { on := 4, ground := Ground.phase }, { on := 5, ground := Ground.phase }, { on := 6, ground := Ground.phase }, { on := 7, ground := Ground.phase }, { on := 8, ground := Ground.phase }, { on := 9, ground := Ground.phase }], guard := none }) (by kernel_rfl) rfl rfl (fun K hK => ?_)
        go_simp
        refine hK.out _ _ (fun h => absurd h (by decide)) ?_
        clear hK
        try simp only [Act.put, List.setIfInBounds_toArray, List.set_cons_zero, List.set_cons_succ]
        refine wpAnyL_done (by kernel_rfl) ?_ _
        go_wp2_with fail
        go_meet
        exact ⟨tb, sa, sc, ya, yc, M, rfl, HEND⟩
      · go_simp
        have BS2 : Below w0.heap.size w0 (W1.alloc (Obj.cells #[.slice none 0 0, .int .i64 0, .slice none 0 0] 25)) := BS1.alloc (BS1).size _
        refine hK.out _ _ (fun _ => HSS.out _ BS2) ?_
        clear hK
        try simp only [Act.put, List.setIfInBounds_toArray, List.set_cons_zero, List.set_cons_succ]
        have hbn : Below W1.heap.size W1 (W1.alloc (Obj.cells #[.slice none 0 0, .int .i64 0, .slice none 0 0] 25)) := (Below.refl _ _).alloc (Nat.le_refl _) _
        have kt : (W1.alloc (Obj.cells #[.slice none 0 0, .int .i64 0, .slice none 0 0] 25)).heap[W1.heap.size]? = some (Obj.cells #[.slice none 0 0, .int .i64 0, .slice none 0 0] 25) := heap_alloc_new _ _
        have hlt : w0.heap.size ≤ W1.heap.size := BS1.size
        have HROW : Hid ((W1.alloc (Obj.cells #[.slice none 0 0, .int .i64 0, .slice none 0 0] 25)).ownsRow w0.heap.size 60 10 (.slice sa l.length sc) l.length (M.flatMap encM) ∧ M.map (·.1) = l ∧ (∀ m ∈ M, (∃ ka kc, m.2.1 = .slice ka m.1.nd.kids.length kc) ∧ SlI m.1.kids m.2.2 w0)) := ⟨ownsRow_below4 HROW.out.1 hbn, HROW.out.2.1, HROW.out.2.2⟩
        generalize W1.heap.size = tb at *
        generalize W1.alloc (Obj.cells #[.slice none 0 0, .int .i64 0, .slice none 0 0] 25) = W2 at *
        clear hbn
        refine wpAnyL_one' (i := 7) (o := { dst := some 13, op := Op.call { callee := Callee.builtin Builtin.append, args := #[Operand.const (Value.slice none 0 0), Operand.tmp 12], argTypes := #[23, 23] }, type := 23, pos := "trees.go:86", after := #[{ on := 6, ground := Ground.data }, { on := 2, ground := Ground.chain }], guard := none }) (by kernel_rfl) rfl rfl (fun K hK => ?_)
        obtain ⟨ya, yc, W3, hap, hrt, hba2⟩ := app_ints roots ra rc W2 23 (HA2.out _ BS2) (by omega)
        have BS3 : Below w0.heap.size w0 W3 := below_next BS2 hba2
        refine step_append_runI rfl _ _ 23 23 rfl _ _ rfl rfl hap ?_
        refine hK.out _ _ (fun _ => HSS.out _ BS3) ?_
        clear hK hap
        have HROW2 : Hid (W3.ownsRow w0.heap.size 60 10 (.slice sa l.length sc) l.length (M.flatMap encM) ∧ M.map (·.1) = l ∧ (∀ m ∈ M, (∃ ka kc, m.2.1 = .slice ka m.1.nd.kids.length kc) ∧ SlI m.1.kids m.2.2 w0) ∧ OwnI w0.heap.size roots (.slice ya roots.length yc) W3) := ⟨ownsRow_below4 HROW.out.1 hba2, HROW.out.2.1, HROW.out.2.2, ownI_mono hrt (BS2).size⟩
        clear hrt HROW
        try simp only [Act.put, List.setIfInBounds_toArray, List.set_cons_zero, List.set_cons_succ]
        have kt : W3.heap[tb]? = some (Obj.cells #[.slice none 0 0, .int .i64 0, .slice none 0 0] 25) := (hba2.block _ (blk_lt kt)).trans kt
        have c0' : W3.cell? ⟨tb, 0, none⟩ = some (.slice none 0 0) := by rw [Lib.cell_of_heap kt]; rfl
        have c1' : W3.cell? ⟨tb, 1, none⟩ = some (.int .i64 0) := by rw [Lib.cell_of_heap kt]; rfl
        have c2' : W3.cell? ⟨tb, 2, none⟩ = some (.slice none 0 0) := by rw [Lib.cell_of_heap kt]; rfl
        have f' : ∀ o, W3.frozen? ⟨tb, o, none⟩ = false := fun o => Lib.frozen_of_heap kt _
        have HEND : Hid (CpI w0 l roots fr tb (.slice sa l.length sc) (.slice ya roots.length yc) M (((W3.setCell ⟨tb, 0, none⟩ (.slice sa l.length sc)).setCell ⟨tb, 1, none⟩ (.int .i64 fr)).setCell ⟨tb, 2, none⟩ (.slice ya roots.length yc))) := by
          have q1 := blk_set (o := 0) kt (.slice sa l.length sc)
          have q2 := blk_set (o := 1) q1 (.int .i64 fr)
          have q3 := blk_set (o := 2) q2 (.slice ya roots.length yc)
          have B3 : But (fun k => k = tb) W3 (((W3.setCell ⟨tb, 0, none⟩ (.slice sa l.length sc)).setCell ⟨tb, 1, none⟩ (.int .i64 fr)).setCell ⟨tb, 2, none⟩ (.slice ya roots.length yc)) := (((But.refl (fun k => k = tb) W3).setCell ⟨tb, 0, none⟩ (.slice sa l.length sc) (.inr rfl)).setCell ⟨tb, 1, none⟩ (.int .i64 fr) (.inr rfl)).setCell ⟨tb, 2, none⟩ (.slice ya roots.length yc) (.inr rfl)
          obtain ⟨h1, h2, h3, h4⟩ := HROW2.out
          refine ⟨by simpa using q3, hlt, ownsRow_keep h1 B3 (fun j hj e => own_nb h1 kt (by decide) (by rw [← e]; exact hj)), h2, h3, ownsRow_keep h4 B3 (fun j hj e => own_nb h4 kt (by decide) (by rw [← e]; exact hj)), BS3.trans (B3.below (BS3).size (fun k hk => by omega))⟩
        refine wpAnyL_take' (i := 8) (v := ?_) (oi := { dst := some 14, op := Op.build 25 #[(0, Operand.tmp 8), (1, Operand.tmp 10), (2, Operand.tmp 13)], type := 25, pos := "trees.go:86", after := #[{ on := 2, ground := Ground.data }, { on := 4, ground := Ground.data }, { on := 7, ground := Ground.data }], guard := none }) rfl (by kernel_rfl) (by kernel_rfl) (by kernel_rfl) (by kernel_rfl) rfl (fun _ _ _ h => h) (Or.inl ⟨by rfl, ?_⟩) (HSS.out _ BS3) ?_
        rotate_left
        · intro W hSW
          go_simp
          try with_reducible rfl
        simp only [Act.put, List.setIfInBounds_toArray, List.set_cons_zero, List.set_cons_succ]
        refine wpAnyL_one' (i := 10) (o := { dst := none, op := Op.store 25 (Operand.tmp 3) (Operand.tmp 14), type := 0, pos := "trees.go:86", after := #[{ on := 9, ground := Ground.data }, { on := 8, ground := Ground.data }, { on := 7, ground := Ground.chain }, { on := 0, ground := Ground.phase }, { on := 1, ground := Ground.phase }, { on := 2, ground := Ground.phase }, { on := 3, ground := Ground.phase }, { on := 4, ground := Ground.phase }, { on := 5, ground := Ground.phase }, { on := 6, ground := Ground.phase }, { on := 7, ground := Ground.phase }, { on := 8, ground := Ground.phase }, { on := 9, ground := Ground.phase }], guard := none }) (by kernel_rfl) rfl rfl (fun K hK => ?_)
        go_simp
        refine hK.out _ _ (fun h => absurd h (by decide)) ?_
        clear hK
        try simp only [Act.put, List.setIfInBounds_toArray, List.set_cons_zero, List.set_cons_succ]
        refine wpAnyL_done (by kernel_rfl) ?_ _
        go_wp2_with fail
        go_meet
        exact ⟨tb, sa, sc, ya, yc, M, rfl, HEND⟩

    · go_simp
      have BS1 : Below w0.heap.size w0 (wd.alloc (Obj.cells #[.slice none 0 0, .int .i64 0, .slice none 0 0] 25)) := BS.alloc (BS).size _
      refine hK.out _ _ (fun _ => HSS.out _ BS1) ?_
      clear hK
      try simp only [Act.put, List.setIfInBounds_toArray, List.set_cons_zero, List.set_cons_succ]
      have hbn : Below wd.heap.size wd (wd.alloc (Obj.cells #[.slice none 0 0, .int .i64 0, .slice none 0 0] 25)) := (Below.refl _ _).alloc (Nat.le_refl _) _
      have kt : (wd.alloc (Obj.cells #[.slice none 0 0, .int .i64 0, .slice none 0 0] 25)).heap[wd.heap.size]? = some (Obj.cells #[.slice none 0 0, .int .i64 0, .slice none 0 0] 25) := heap_alloc_new _ _
      have hlt : w0.heap.size ≤ wd.heap.size := BS.size
      generalize wd.heap.size = tb at *
      generalize wd.alloc (Obj.cells #[.slice none 0 0, .int .i64 0, .slice none 0 0] 25) = W1 at *
      clear hbn
      refine wpAnyL_one' (i := 2) (o := { dst := some 8, op := Op.call { callee := Callee.builtin Builtin.append, args := #[Operand.const (Value.slice none 0 0), Operand.tmp 7], argTypes := #[22, 22] }, type := 22, pos := "trees.go:86", after := #[{ on := 1, ground := Ground.data }], guard := none }) (by kernel_rfl) rfl rfl (fun K hK => ?_)
      obtain ⟨sa, sc, W2, M, hap, hrow, hM1, hM2, hba⟩ := app_slots l ao cap w0 W1 22 (HA1.out _ (Below.refl _ _)) BS1 hlen
      have BS2 : Below w0.heap.size w0 W2 := below_next BS1 hba
      refine step_append_runI rfl _ _ 22 22 rfl _ _ rfl rfl hap ?_
      refine hK.out _ _ (fun _ => HSS.out _ BS2) ?_
      clear hK hap
      have HROW : Hid (W2.ownsRow w0.heap.size 60 10 (.slice sa l.length sc) l.length (M.flatMap encM) ∧ M.map (·.1) = l ∧ (∀ m ∈ M, (∃ ka kc, m.2.1 = .slice ka m.1.nd.kids.length kc) ∧ SlI m.1.kids m.2.2 w0)) := ⟨own_mono hrow (BS1).size, hM1, hM2⟩
      have kt : W2.heap[tb]? = some (Obj.cells #[.slice none 0 0, .int .i64 0, .slice none 0 0] 25) := (hba.block _ (blk_lt kt)).trans kt
      clear hrow hM1 hM2 hba
      try simp only [Act.put, List.setIfInBounds_toArray, List.set_cons_zero, List.set_cons_succ]
      refine wpAnyL_one' (i := 7) (o := { dst := some 13, op := Op.call { callee := Callee.builtin Builtin.append, args := #[Operand.const (Value.slice none 0 0), Operand.tmp 12], argTypes := #[23, 23] }, type := 23, pos := "trees.go:86", after := #[{ on := 6, ground := Ground.data }, { on := 2, ground := Ground.chain }], guard := none }) (by kernel_rfl) rfl rfl (fun K hK => ?_)
      obtain ⟨ya, yc, W3, hap, hrt, hba2⟩ := app_ints roots ra rc W2 23 (HA2.out _ BS2) (by omega)
      have BS3 : Below w0.heap.size w0 W3 := below_next BS2 hba2
      refine step_append_runI rfl _ _ 23 23 rfl _ _ rfl rfl hap ?_
      refine hK.out _ _ (fun _ => HSS.out _ BS3) ?_
      clear hK hap
      have HROW2 : Hid (W3.ownsRow w0.heap.size 60 10 (.slice sa l.length sc) l.length (M.flatMap encM) ∧ M.map (·.1) = l ∧ (∀ m ∈ M, (∃ ka kc, m.2.1 = .slice ka m.1.nd.kids.length kc) ∧ SlI m.1.kids m.2.2 w0) ∧ OwnI w0.heap.size roots (.slice ya roots.length yc) W3) := ⟨ownsRow_below4 HROW.out.1 hba2, HROW.out.2.1, HROW.out.2.2, ownI_mono hrt (BS2).size⟩
      clear hrt HROW
      try simp only [Act.put, List.setIfInBounds_toArray, List.set_cons_zero, List.set_cons_succ]
      have kt : W3.heap[tb]? = some (Obj.cells #[.slice none 0 0, .int .i64 0, .slice none 0 0] 25) := (hba2.block _ (blk_lt kt)).trans kt
      have c0' : W3.cell? ⟨tb, 0, none⟩ = some (.slice none 0 0) := by rw [Lib.cell_of_heap kt]; rfl
      have c1' : W3.cell? ⟨tb, 1, none⟩ = some (.int .i64 0) := by rw [Lib.cell_of_heap kt]; rfl
      have c2' : W3.cell? ⟨tb, 2, none⟩ = some (.slice none 0 0) := by rw [Lib.cell_of_heap kt]; rfl
      have f' : ∀ o, W3.frozen? ⟨tb, o, none⟩ = false := fun o => Lib.frozen_of_heap kt _
      have HEND : Hid (CpI w0 l roots fr tb (.slice sa l.length sc) (.slice ya roots.length yc) M (((W3.setCell ⟨tb, 0, none⟩ (.slice sa l.length sc)).setCell ⟨tb, 1, none⟩ (.int .i64 fr)).setCell ⟨tb, 2, none⟩ (.slice ya roots.length yc))) := by
        have q1 := blk_set (o := 0) kt (.slice sa l.length sc)
        have q2 := blk_set (o := 1) q1 (.int .i64 fr)
        have q3 := blk_set (o := 2) q2 (.slice ya roots.length yc)
        have B3 : But (fun k => k = tb) W3 (((W3.setCell ⟨tb, 0, none⟩ (.slice sa l.length sc)).setCell ⟨tb, 1, none⟩ (.int .i64 fr)).setCell ⟨tb, 2, none⟩ (.slice ya roots.length yc)) := (((But.refl (fun k => k = tb) W3).setCell ⟨tb, 0, none⟩ (.slice sa l.length sc) (.inr rfl)).setCell ⟨tb, 1, none⟩ (.int .i64 fr) (.inr rfl)).setCell ⟨tb, 2, none⟩ (.slice ya roots.length yc) (.inr rfl)
        obtain ⟨h1, h2, h3, h4⟩ := HROW2.out
        refine ⟨by simpa using q3, hlt, ownsRow_keep h1 B3 (fun j hj e => own_nb h1 kt (by decide) (by rw [← e]; exact hj)), h2, h3, ownsRow_keep h4 B3 (fun j hj e => own_nb h4 kt (by decide) (by rw [← e]; exact hj)), BS3.trans (B3.below (BS3).size (fun k hk => by omega))⟩
      refine wpAnyL_take' (i := 8) (v := ?_) (oi := { dst := some 14, op := Op.build 25 #[(0, Operand.tmp 8), (1, Operand.tmp 10), (2, Operand.tmp 13)], type := 25, pos := "trees.go:86", after := #[{ on := 2, ground := Ground.data }, { on := 4, ground := Ground.data }, { on := 7, ground := Ground.data }], guard := none }) rfl (by kernel_rfl) (by kernel_rfl) (by kernel_rfl) (by kernel_rfl) rfl (fun _ _ _ h => h) (Or.inl ⟨by rfl, ?_⟩) (HSS.out _ BS3) ?_
      rotate_left
      · intro W hSW
        go_simp
        try with_reducible rfl
      simp only [Act.put, List.setIfInBounds_toArray, List.set_cons_zero, List.set_cons_succ]
      refine wpAnyL_one' (i := 10) (o := { dst := none, op := Op.store 25 (Operand.tmp 3) (Operand.tmp 14), type := 0, pos := "trees.go:86", after := #[{ on := 9, ground := Ground.data }, { on := 8, ground := Ground.data }, { on := 7, ground := Ground.chain }, { on := 0, ground := Ground.phase }, { on := 1, ground := Ground.phase }, { on := 2, ground := Ground.phase }, { on := 3, ground := Ground.phase }, { on := 4, ground := Ground.phase }, { on := 5, ground := Ground.phase }, { on := 6, ground := Ground.phase }, { on := 7, ground := Ground.phase }, { on := 8, ground := Ground.phase }, { on := 9, ground := Ground.phase }], guard := none }) (by kernel_rfl) rfl rfl (fun K hK => ?_)
      go_simp
      refine hK.out _ _ (fun h => absurd h (by decide)) ?_
      clear hK
      try simp only [Act.put, List.setIfInBounds_toArray, List.set_cons_zero, List.set_cons_succ]
      refine wpAnyL_done (by kernel_rfl) ?_ _
      go_wp2_with fail
      go_meet
      exact ⟨tb, sa, sc, ya, yc, M, rfl, HEND⟩

  case rest =>
    obtain ⟨tb, sa, sc, ya, yc, M0, rfl, HC0⟩ := hcut
    obtain ⟨d0, d1, d2⟩ := HSS.out wc HC0.out.bel
    have HOK : Hid (∀ s ∈ l, okS s) := fun s hs => by
      obtain ⟨_, _, e, hsl, _⟩ := HA1.out w0 (Below.refl _ _)
      cases e
      obtain ⟨j, hj, rfl⟩ := List.getElem_of_mem hs
      obtain ⟨b, off, ka, kc, gv, e1, h1, h2, h3, ⟨_, _, _, _, _, _, h4⟩, h5⟩ := hsl j _ (List.getElem?_eq_getElem hj)
      exact ⟨hleaf _ hs, h5, hkl _ hs, h4⟩
    clear hleaf hkl
    go_wp2_with fail
    go_loopw [18] (fun iv wr => ∃ (i : Nat) (M : List Sm), iv = .int .i64 i ∧ i ≤ l.length ∧ Hid (CpL w0 l roots fr tb (.slice sa l.length sc) (.slice ya roots.length yc) i M wr)) (fun i _ => l.length - (intOf i).toNat)
    case atStart => exact ⟨0, M0, rfl, Nat.zero_le _, HC0.out.start⟩
    case round =>
    obtain ⟨i, M, rfl, hi, HC⟩ := hrel
    obtain ⟨k0, k1⟩ := HK.out wr HC.out.bel
    have kb := HC.out.box
    have hBW : Below w.heap.size w wr := below_next HB0.out.1 HC.out.bel
    by_cases hlt : i < l.length
    case neg =>
      obtain rfl : i = l.length := by omega
      obtain ⟨L, HL1, HL2, HL3⟩ := HC.out.out HOK.out
      have c0 : wr.cell? ⟨tb, 0, none⟩ = some (.slice sa l.length sc) := by rw [Lib.cell_of_heap kb]; rfl
      have c1 : wr.cell? ⟨tb, 1, none⟩ = some (.int .i64 fr) := by rw [Lib.cell_of_heap kb]; rfl
      have c2 : wr.cell? ⟨tb, 2, none⟩ = some (.slice ya roots.length yc) := by rw [Lib.cell_of_heap kb]; rfl
      have q0 : wr.cell? ⟨w.heap.size + 1, 0, none⟩ = some (.slice none 0 0) := by rw [Lib.cell_of_heap k1]; rfl
      have q1 : wr.cell? ⟨w.heap.size + 1, 1, none⟩ = some (.int .i64 0) := by rw [Lib.cell_of_heap k1]; rfl
      have q2 : wr.cell? ⟨w.heap.size + 1, 2, none⟩ = some (.slice none 0 0) := by rw [Lib.cell_of_heap k1]; rfl
      have f1 : ∀ o, wr.frozen? ⟨w.heap.size + 1, o, none⟩ = false := fun o => Lib.frozen_of_heap k1 _
      have HE : Hid (∃ W', W' = (((wr.setCell ⟨w.heap.size + 1, 0, none⟩ (.slice sa l.length sc)).setCell ⟨w.heap.size + 1, 1, none⟩ (.int .i64 fr)).setCell ⟨w.heap.size + 1, 2, none⟩ (.slice ya roots.length yc)) ∧ W'.heap[w.heap.size + 1]? = some (Obj.cells #[.slice sa l.length sc, .int .i64 fr, .slice ya roots.length yc] 25) ∧ OwnS w.heap.size L (.slice sa l.length sc) W' ∧ OwnI w.heap.size roots (.slice ya roots.length yc) W' ∧ Below w.heap.size w W') := by
        have p1 := blk_set (o := 0) k1 (.slice sa l.length sc)
        have p2 := blk_set (o := 1) p1 (.int .i64 fr)
        have p3 := blk_set (o := 2) p2 (.slice ya roots.length yc)
        have hz := HB0.out.2
        have B3 : But (fun k => k = w.heap.size + 1) wr (((wr.setCell ⟨w.heap.size + 1, 0, none⟩ (.slice sa l.length sc)).setCell ⟨w.heap.size + 1, 1, none⟩ (.int .i64 fr)).setCell ⟨w.heap.size + 1, 2, none⟩ (.slice ya roots.length yc)) := (((But.refl (fun k => k = w.heap.size + 1) wr).setCell ⟨w.heap.size + 1, 0, none⟩ (.slice sa l.length sc) (.inr rfl)).setCell ⟨w.heap.size + 1, 1, none⟩ (.int .i64 fr) (.inr rfl)).setCell ⟨w.heap.size + 1, 2, none⟩ (.slice ya roots.length yc) (.inr rfl)
        exact ⟨_, rfl, by simpa using p3, (HL2.keep B3 (fun k hk => by omega)).mono (by omega), ownI_mono (ownsRow_keep HC.out.rt B3 (fun j hj e => by have := (World.ownsRow.lt HC.out.rt j hj).1; omega)) (by omega), hBW.trans (B3.below hBW.size (fun k hk => by omega))⟩
      clear HC k0 k1 kb HL2 HA1 HA2 HSS hBW
      go_wp2_with fail
      obtain ⟨W', e, h1, h2, h3, h4⟩ := HE.out
      rw [← e]
      refine bodyPost_ret (results_cell_row rfl _ _ (w.heap.size + 1) 25 #[.slice sa l.length sc, .int .i64 fr, .slice ya roots.length yc] (0, 0) _ rfl h1 Try.underlying25 rfl (by kernel_rfl)) rfl ?_
      exact ⟨sa, sc, ya, yc, L, rfl, HL1, h2, h3, HL3, h4⟩
    obtain ⟨_, _, e0, hsl, _⟩ := HA1.out wr HC.out.bel
    cases e0
    obtain ⟨b, off, ka, kc, gv, rfl, hb, hrow, _, hks, _⟩ := hsl.at (Below.refl _ _) hlt
    have HKW : Hid (∀ W, Below w0.heap.size w0 W → SlI l[i].kids gv W) := fun W hb => by
      obtain ⟨_, _, e, hsl0, _⟩ := HA1.out w0 (Below.refl _ _)
      cases e
      obtain ⟨b', off', ka', kc', gv0, e1, hb', hrow', _, hks', _⟩ := hsl0.at (Below.refl _ _) hlt
      cases e1
      have h7 := (HC.out.bel.cell (p := ⟨b, off + i * 10 + 7, none⟩) hb').trans hrow'.2.1
      rw [hrow.2.1] at h7
      cases h7
      exact hks'.next hb
    have hML : M.length = l.length := by rw [← HC.out.map]; simp
    have hmi : ∃ m, M[i]? = some m ∧ m.1 = l[i] := ⟨M[i], List.getElem?_eq_getElem (by omega), by
      have : (M.map (·.1))[i]'(by simp; omega) = l[i] := by simp only [HC.out.map]
      simpa using this⟩
    obtain ⟨⟨s', kv', gv'⟩, hm1, hm2⟩ := hmi
    simp only at hm2
    have hki := HOK.out l[i] (List.getElem_mem hlt)
    rw [← hm2] at hrow hks hki HKW
    clear hm2
    obtain ⟨g, hsa⟩ : ∃ g, sa = some ⟨g, 0, none⟩ := by
      rcases HC.out.row.2 with ⟨e, hn⟩ | ⟨g, cap', cur, e, _⟩
      · omega
      · simp only [Value.slice.injEq] at e; exact ⟨g, e.1⟩
    subst hsa
    have hgl := World.ownsRow.lt HC.out.row g rfl
    obtain ⟨ga, gc, rfl, _⟩ := hks
    have hrc : ∀ (k : Nat) (u : Value), k < 10 → (encM (s', kv', gv'))[k]? = some u → wr.cell? ⟨g, i * 10 + k, none⟩ = some u := fun k u hk hu => by
      have := World.ownsRow.cells HC.out.row (g := g) rfl (i * 10 + k) u (by rw [flatK_get encM_len hm1 hk]; exact hu)
      rw [add_plain, Nat.zero_add] at this
      exact this
    have m6 := hrc 6 kv' (by omega) rfl
    have m7 := hrc 7 gv' (by omega) rfl
    have mf : ∀ o, wr.frozen? ⟨g, o, none⟩ = false := fun o => by
      obtain ⟨cs, hcs⟩ := own_is_cells HC.out.row (j := g) rfl
      exact Lib.frozen_of_heap hcs _
    have ntb : tb ≠ g := fun e => own_nb HC.out.row kb (by decide) (by rw [e]; rfl)
    have HKI : Hid (s'.kids.length ≤ 1000000) := hki.kl
    obtain ⟨⟨⟨nk, nn, nf, nr, nt, nb⟩, nks⟩, ks, rf, nx⟩ := s'
    obtain ⟨⟨e0, e1, e2, e3, e4, e5, e6⟩, e7, e8, e9⟩ := hrow
    simp only [Nd.h, Nd.kids] at e0 e1 e2 e3 e4 e5 e6 e7 e8 e9 HKW HKI
    have BX : Below wr.heap.size wr (wr.alloc (Obj.cells #[.string nk, .bool nn, .string nf, .int .i64 nr, .int .i64 nt, .int .i64 nb, .slice ka nks.length kc, .slice ga ks.length gc, .int .i64 rf, .int .i64 nx] 60)) := (Below.refl _ _).alloc (Nat.le_refl _) _
    have x7 : (wr.alloc (Obj.cells #[.string nk, .bool nn, .string nf, .int .i64 nr, .int .i64 nt, .int .i64 nb, .slice ka nks.length kc, .slice ga ks.length gc, .int .i64 rf, .int .i64 nx] 60)).cell? ⟨wr.heap.size, 7, none⟩ = some (.slice ga ks.length gc) := by rw [Lib.cell_of_heap (heap_alloc_new _ _)]; rfl
    have hxs : (wr.alloc (Obj.cells #[.string nk, .bool nn, .string nf, .int .i64 nr, .int .i64 nt, .int .i64 nb, .slice ka nks.length kc, .slice ga ks.length gc, .int .i64 rf, .int .i64 nx] 60)).heap.size = wr.heap.size + 1 := by simp
    obtain ⟨W1, hW1⟩ : ∃ W1, W1 = wr.alloc (Obj.cells #[.string nk, .bool nn, .string nf, .int .i64 nr, .int .i64 nt, .int .i64 nb, .slice ka nks.length kc, .slice ga ks.length gc, .int .i64 rf, .int .i64 nx] 60) := ⟨_, rfl⟩
    rw [← hW1] at BX x7 hxs
    have m6' : W1.cell? ⟨g, i * 10 + 6, none⟩ = some kv' := (BX.cell (p := ⟨g, i * 10 + 6, none⟩) hgl.2).trans m6
    have mf' : W1.frozen? ⟨g, i * 10 + 6, none⟩ = false := by
      obtain ⟨cs, hcs⟩ := own_is_cells HC.out.row (j := g) rfl
      exact Lib.frozen_of_heap ((BX.block g hgl.2).trans hcs) _
    have c0' : W1.cell? ⟨tb, 0, none⟩ = some (.slice (some ⟨g, 0, none⟩) l.length sc) := (BX.cell (p := ⟨tb, 0, none⟩) (blk_lt kb)).trans (by rw [Lib.cell_of_heap kb]; rfl)
    obtain ⟨W2, HW2⟩ : ∃ W2, Hid (W2 = W1.setCell ⟨g, i * 10 + 6, none⟩ (.slice none 0 0)) := ⟨_, rfl⟩
    have B12 : But (fun k => k = g) W1 W2 := by rw [HW2.out]; exact (But.refl _ _).setCell _ _ (.inr rfl)
    have hz2 : W2.heap.size = W1.heap.size := by rw [HW2.out]; simp
    have bne : wr.heap.size ≠ g := by omega
    obtain ⟨bx, hbx⟩ : ∃ bx, bx = wr.heap.size := ⟨_, rfl⟩
    rw [← hbx] at x7 bne
    have y0 : W2.cell? ⟨tb, 0, none⟩ = some (.slice (some ⟨g, 0, none⟩) l.length sc) := (B12.cell (p := ⟨tb, 0, none⟩) (World.block_lt_of_cell? _ _ c0') ntb).trans c0'
    have y7 : W2.cell? ⟨bx, 7, none⟩ = some (.slice ga ks.length gc) := (B12.cell (p := ⟨bx, 7, none⟩) (World.block_lt_of_cell? _ _ x7) bne).trans x7
    have z7 : W2.cell? ⟨g, i * 10 + 7, none⟩ = some gv' := by
      rw [HW2.out, cell_set_ne _ _ _ _ _ (by omega)]
      exact (BX.cell (p := ⟨g, i * 10 + 7, none⟩) hgl.2).trans m7
    have HGB : Hid (∃ cs, W2.heap[g]? = some (Obj.cells cs 60)) := by
      obtain ⟨cs, hcs⟩ := own_is_cells HC.out.row (j := g) rfl
      rw [HW2.out]
      exact ⟨_, blk_set ((BX.block g hgl.2).trans hcs) _⟩
    have BW02 : Below w0.heap.size w0 W2 := (HC.out.bel.trans (BX.mono HC.out.bel.size)).trans (B12.below (Nat.le_trans HC.out.bel.size BX.size) (fun k hk => by omega))
    obtain ⟨ua, uc, W3, hap, hu, hb3⟩ := app_ints ks ga gc W2.drew 23 (HKW.out W2.drew BW02.drew) HKI.out
    have BQ : Below W2.heap.size W2 W3 := (Below.refl _ _).drew.trans hb3
    have HS6 : Hid (∀ W, Below W2.heap.size W2 W → (W.cell? ⟨tb, 0, none⟩ = some (.slice (some ⟨g, 0, none⟩) l.length sc) ∧ W.cell? ⟨bx, 7, none⟩ = some (.slice ga ks.length gc))) := fun W hb => ⟨(hb.cell (p := ⟨tb, 0, none⟩) (World.block_lt_of_cell? _ _ y0)).trans y0, (hb.cell (p := ⟨bx, 7, none⟩) (World.block_lt_of_cell? _ _ y7)).trans y7⟩
    have t7 : W3.cell? ⟨g, i * 10 + 7, none⟩ = some gv' := (BQ.cell (p := ⟨g, i * 10 + 7, none⟩) (by rw [hz2]; have := BX.size; show g < _; omega)).trans z7
    have t7f : W3.frozen? ⟨g, i * 10 + 7, none⟩ = false := by
      obtain ⟨cs, hcs⟩ := HGB.out
      exact Lib.frozen_of_heap ((BQ.block g (blk_lt hcs)).trans hcs) _
    have HE : Hid (CpL w0 l roots fr tb (.slice (some ⟨g, 0, none⟩) l.length sc) (.slice ya roots.length yc) (i + 1) (M.set i (⟨Nd.mk ⟨nk, nn, nf, nr, nt, nb⟩ nks, ks, rf, nx⟩, .slice none 0 0, .slice ua ks.length uc)) (W3.setCell ⟨g, i * 10 + 7, none⟩ (.slice ua ks.length uc))) := by
      have q := HC.out.step hm1 BX (W2 := W3) (u := .slice ua ks.length uc) (by rw [← HW2.out, ← hz2]; exact BQ) (by
        have : W2.drew.heap.size = W1.heap.size := hz2
        rw [← this]; exact hu)
      exact q
    have hS6 := HS6.out W2.drew (Below.refl _ _).drew
    have c0w : wr.cell? ⟨tb, 0, none⟩ = some (.slice (some ⟨g, 0, none⟩) l.length sc) := by rw [Lib.cell_of_heap kb]; rfl
    rw [hW1] at m6' mf' c0'
    clear HC HC0 k0 k1 kb m6 m7 mf hm1 hML hki B12 BW02 hu hb3 y0 y7 z7 x7 HGB HKW hBW hxs hz2 hgl HA1 HA2 HSS HK HKI hsl
    go_wp2_with fail
    rw [← hW1, ← HW2.out, ← hbx]
    clear hbx hW1 m6' mf' c0' c0w BX bne ntb e0 e1 e2 e3 e4 e5 e6 e7 e8 e9
    refine wp_region_L (fun W => W.cell? ⟨tb, 0, none⟩ = some (.slice (some ⟨g, 0, none⟩) l.length sc) ∧ W.cell? ⟨bx, 7, none⟩ = some (.slice ga ks.length gc)) 8 (by kernel_rfl) 9 rfl ?_
    refine wpAnyL_take' (i := 0) (v := ?_) (oi := { dst := some 29, op := Op.fieldAddr 25 (Operand.tmp 3) 0, type := 0, pos := "trees.go:89", after := #[], guard := none }) rfl (by kernel_rfl) (by kernel_rfl) (by kernel_rfl) (by kernel_rfl) rfl (fun _ _ _ h => h) (Or.inl ⟨by rfl, ?_⟩) hS6 ?_
    rotate_left
    · intro W hSW
      go_simp
      try with_reducible rfl
    simp only [Act.put, List.setIfInBounds_toArray, List.set_cons_zero, List.set_cons_succ]
    refine wpAnyL_take' (i := 1) (v := ?_) (oi := { dst := some 30, op := Op.load 22 (Operand.tmp 29), type := 22, pos := "trees.go:89", after := #[{ on := 0, ground := Ground.data }], guard := none }) rfl (by kernel_rfl) (by kernel_rfl) (by kernel_rfl) (by kernel_rfl) rfl (fun _ _ _ h => h) (Or.inl ⟨by rfl, ?_⟩) hS6 ?_
    rotate_left
    · intro W hSW
      go_simp
      try with_reducible rfl
    simp only [Act.put, List.setIfInBounds_toArray, List.set_cons_zero, List.set_cons_succ]
    refine wpAnyL_take' (i := 2) (v := ?_) (oi := { dst := some 31, op := Op.move (Operand.tmp 4), type := 3, pos := "trees.go:89", after := #[], guard := none }) rfl (by kernel_rfl) (by kernel_rfl) (by kernel_rfl) (by kernel_rfl) rfl (fun _ _ _ h => h) (Or.inl ⟨by rfl, ?_⟩) hS6 ?_
    rotate_left
    · intro W hSW
      go_simp
      try with_reducible rfl
    simp only [Act.put, List.setIfInBounds_toArray, List.set_cons_zero, List.set_cons_succ]
    refine wpAnyL_take' (i := 3) (v := ?_) (oi := { dst := some 32, op := Op.fieldAddr 60 (Operand.tmp 5) 1, type := 0, pos := "trees.go:89", after := #[], guard := none }) rfl (by kernel_rfl) (by kernel_rfl) (by kernel_rfl) (by kernel_rfl) rfl (fun _ _ _ h => h) (Or.inl ⟨by rfl, ?_⟩) hS6 ?_
    rotate_left
    · intro W hSW
      go_simp
      try with_reducible rfl
    simp only [Act.put, List.setIfInBounds_toArray, List.set_cons_zero, List.set_cons_succ]
    refine wpAnyL_take' (i := 4) (v := ?_) (oi := { dst := some 33, op := Op.load 23 (Operand.tmp 32), type := 23, pos := "trees.go:89", after := #[{ on := 3, ground := Ground.data }], guard := none }) rfl (by kernel_rfl) (by kernel_rfl) (by kernel_rfl) (by kernel_rfl) rfl (fun _ _ _ h => h) (Or.inl ⟨by rfl, ?_⟩) hS6 ?_
    rotate_left
    · intro W hSW
      go_simp
      try with_reducible rfl
    simp only [Act.put, List.setIfInBounds_toArray, List.set_cons_zero, List.set_cons_succ]
    refine wpAnyL_one' (i := 5) (o := { dst := some 34, op := Op.call { callee := Callee.builtin Builtin.append, args := #[Operand.const (Value.slice none 0 0), Operand.tmp 33], argTypes := #[23, 23] }, type := 23, pos := "trees.go:89", after := #[{ on := 4, ground := Ground.data }], guard := none }) (by kernel_rfl) rfl rfl (fun K hK => ?_)
    refine step_append_runI rfl _ _ 23 23 rfl _ _ rfl rfl hap ?_
    refine hK.out _ _ (fun _ => HS6.out _ BQ) ?_
    clear hK
    simp only [Act.put, List.setIfInBounds_toArray, List.set_cons_zero, List.set_cons_succ]
    refine wpAnyL_one' (i := 6) (o := { dst := some 35, op := Op.indexAddr 22 (Operand.tmp 30) (Operand.tmp 31), type := 0, pos := "trees.go:89", after := #[{ on := 1, ground := Ground.data }, { on := 2, ground := Ground.data }, { on := 0, ground := Ground.phase }, { on := 1, ground := Ground.phase }, { on := 2, ground := Ground.phase }, { on := 3, ground := Ground.phase }, { on := 4, ground := Ground.phase }, { on := 5, ground := Ground.phase }], guard := none }) (by kernel_rfl) rfl rfl (fun K hK => ?_)
    go_simp
    refine hK.out _ _ (fun _ => HS6.out W3 BQ) ?_
    clear hK
    try simp only [Act.put, List.setIfInBounds_toArray, List.set_cons_zero, List.set_cons_succ]
    refine wpAnyL_take' (i := 7) (v := ?_) (oi := { dst := some 36, op := Op.fieldAddr 60 (Operand.tmp 35) 1, type := 0, pos := "trees.go:89", after := #[{ on := 6, ground := Ground.data }, { on := 0, ground := Ground.phase }, { on := 1, ground := Ground.phase }, { on := 2, ground := Ground.phase }, { on := 3, ground := Ground.phase }, { on := 4, ground := Ground.phase }, { on := 5, ground := Ground.phase }], guard := none }) rfl (by kernel_rfl) (by kernel_rfl) (by kernel_rfl) (by kernel_rfl) rfl (fun _ _ _ h => h) (Or.inl ⟨by rfl, ?_⟩) (HS6.out W3 BQ) ?_
    rotate_left
    · intro W hSW
      go_simp
      try with_reducible rfl
    simp only [Act.put, List.setIfInBounds_toArray, List.set_cons_zero, List.set_cons_succ]
    refine wpAnyL_one' (i := 8) (o := { dst := none, op := Op.store 23 (Operand.tmp 36) (Operand.tmp 34), type := 0, pos := "trees.go:89", after := #[{ on := 7, ground := Ground.data }, { on := 5, ground := Ground.data }, { on := 5, ground := Ground.chain }, { on := 0, ground := Ground.phase }, { on := 1, ground := Ground.phase }, { on := 2, ground := Ground.phase }, { on := 3, ground := Ground.phase }, { on := 4, ground := Ground.phase }, { on := 5, ground := Ground.phase }], guard := none }) (by kernel_rfl) rfl rfl (fun K hK => ?_)
    go_simp
    refine hK.out _ _ (fun h => absurd h (by decide)) ?_
    clear hK
    refine wpAnyL_done (by kernel_rfl) ?_ _
    go_wp2_with fail
    exact ⟨⟨i + 1, _, by go_num, by omega, HE.out⟩, by simp [intOf]; omega⟩
end Go.Proofs.Ytoocafcagelbgaa
