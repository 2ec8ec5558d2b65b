/- Classes of states: refined. -/
import Derived.Test.YtdalomibilicfaaPArcs
import Derived.Test.YtdalomibilicfaaRangeU
import Derived.Test.YtdalomibilicfaaTextMath
import Derived.Sort.LoopGhostIn
import Derived.Maps.OwnIn
namespace Go.Proofs.Ytdalomibilicfaa
open Go.RowKit Go.Shelf
attribute [local go_sem] Oper.semAt_some

theorem own_ne {W : World} {B B' n n' k k' j : Nat} {e e' : TypeId} {v v' : Value} {xs xs' : List Value} (h : W.ownsRow B e k v n xs) (h' : W.ownsRow B' e' k' v' n' xs') (hne : e ≠ e') (hj : v.ownBlock = some j) : v'.ownBlock ≠ some j := by
  intro hj'
  obtain ⟨cs, hc⟩ := own_is_cells h hj
  obtain ⟨cs', hc'⟩ := own_is_cells h' hj'
  rw [hc] at hc'
  simp at hc'
  exact hne hc'.2
theorem own_nb {W : World} {B n k j : Nat} {e t : TypeId} {v : Value} {xs : List Value} {cs : Array Value} (h : W.ownsRow B e k v n xs) (hb : W.heap[j]? = some (Obj.cells cs t)) (hne : e ≠ t) : v.ownBlock ≠ some j := by
  intro hj
  obtain ⟨cs', hc'⟩ := own_is_cells h hj
  rw [hb] at hc'
  simp at hc'
  exact hne hc'.2.symm
/-- What refined holds: the keys that are met, the row of numbers, the row of one key. -/
structure RefI (w : World) (o mb tb : Nat) (sv : Value) (L : List ByteArray) (ov : Value) (P : List Int) (tv : Value) (T : List Int) (W : World) : Prop where
  ord : OrdS w.heap.size o mb sv L W
  out : OwnI w.heap.size P ov W
  told : W.heap[tb]? = some (Obj.cells #[tv] 57)
  row : OwnI w.heap.size T tv W
  part : ∀ k, ov.ownBlock = some k → tv.ownBlock ≠ some k
  bel : Below w.heap.size w W
  low : w.heap.size ≤ tb
/-- The blocks that it holds. -/
def RefB (o mb tb : Nat) (sv ov tv : Value) (k : Nat) : Prop := k = tb ∨ tv.ownBlock = some k ∨ ov.ownBlock = some k ∨ FtO o mb sv k
theorem RefI.but {w : World} {o mb tb : Nat} {sv : Value} {L : List ByteArray} {ov : Value} {P : List Int} {tv : Value} {T : List Int} {W W' : World} {D : Nat → Prop} (h : RefI w o mb tb sv L ov P tv T W) (hb : But D W W') (hd : ∀ k, RefB o mb tb sv ov tv k → ¬ D k) (hl : ∀ k, D k → w.heap.size ≤ k) : RefI w o mb tb sv L ov P tv T W' :=
  ⟨h.ord.but hb (fun k hk => hd k (.inr (.inr (.inr hk)))), ownsRow_keep h.out hb (fun k hk => hd k (.inr (.inr (.inl hk)))), but_blk hb h.told (hd _ (.inl rfl)), ownsRow_keep h.row hb (fun k hk => hd k (.inr (.inl hk))), h.part, below_but h.bel hb (Nat.le_refl _) hl, h.low⟩
theorem RefI.next {w : World} {o mb tb : Nat} {sv : Value} {L : List ByteArray} {ov : Value} {P : List Int} {tv : Value} {T : List Int} {W W' : World} (h : RefI w o mb tb sv L ov P tv T W) (hb : Below W.heap.size W W') : RefI w o mb tb sv L ov P tv T W' := h.but (D := fun _ => False) (But.of_next hb) (fun _ _ h => h) (fun _ h => h.elim)
theorem RefI.at {w : World} {o mb tb : Nat} {sv : Value} {L : List ByteArray} {ov : Value} {P : List Int} {tv : Value} {T : List Int} {W : World} (h : RefI w o mb tb sv L ov P tv T W) {k : Nat} (hk : RefB o mb tb sv ov tv k) : w.heap.size ≤ k ∧ k < W.heap.size := by
  rcases hk with rfl | hk | hk | hk
  · exact ⟨h.low, blk_lt h.told⟩
  · exact World.ownsRow.lt h.row k hk
  · exact World.ownsRow.lt h.out k hk
  · exact h.ord.low hk
/-- The row of the key is another one. -/
theorem RefI.turn {w : World} {o mb tb : Nat} {sv : Value} {L : List ByteArray} {ov : Value} {P : List Int} {tv : Value} {T : List Int} {W wm : World} (h : RefI w o mb tb sv L ov P tv T W) (hb : But (fun k => tv.ownBlock = some k) W wm) {nv : Value} {T' : List Int} (ho : OwnI w.heap.size T' nv wm) (hat : nv.ownBlock = tv.ownBlock ∨ ∃ j, nv.ownBlock = some j ∧ W.heap.size ≤ j) :
    wm.heap[tb]? = some (Obj.cells #[tv] 57) ∧ RefI w o mb tb sv L ov P nv T' (wm.setCell ⟨tb, 0, none⟩ nv) ∧ But (fun k => tv.ownBlock = some k ∨ k = tb) W (wm.setCell ⟨tb, 0, none⟩ nv) := by
  have ntb : tv.ownBlock ≠ some tb := own_nb h.row h.told (by decide)
  have e1 : wm.heap[tb]? = some (Obj.cells #[tv] 57) := but_blk hb h.told ntb
  have B2 : But (fun k => tv.ownBlock = some k ∨ k = tb) W (wm.setCell ⟨tb, 0, none⟩ nv) := (hb.mono (fun k _ h => .inl h)).setCell _ _ (.inr (.inr rfl))
  have Bs : But (fun k => k = tb) wm (wm.setCell ⟨tb, 0, none⟩ nv) := (But.refl _ _).setCell _ _ (.inr rfl)
  have nord : ∀ k, FtO o mb sv k → ¬ (tv.ownBlock = some k ∨ k = tb) := by
    intro k hk h2
    rcases hk with rfl | rfl | hk
    · rcases h2 with h2 | rfl
      · exact own_nb h.row h.ord.box (by decide) h2
      · have := h.told
        rw [h.ord.box] at this
        simp at this
    · rcases h2 with h2 | rfl
      · obtain ⟨cs, hc⟩ := own_is_cells h.row h2
        exact h.ord.map.notCells _ _ _ hc
      · exact h.ord.map.notCells _ _ _ h.told
    · rcases h2 with h2 | rfl
      · exact own_ne h.row h.ord.row (by decide) h2 hk
      · exact own_nb h.ord.row h.told (by decide) hk
  have nout : ∀ k, ov.ownBlock = some k → ¬ (tv.ownBlock = some k ∨ k = tb) := by
    intro k hk h2
    rcases h2 with h2 | rfl
    · exact h.part k hk h2
    · exact own_nb h.out h.told (by decide) hk
  refine ⟨e1, ⟨h.ord.but B2 nord, ownsRow_keep h.out B2 nout, by simpa using blk_set (o := 0) e1 nv, ownsRow_keep ho Bs (fun k hk e => own_nb ho e1 (by decide) (by rw [← e]; exact hk)), fun k hk hk2 => ?_, below_but h.bel B2 (Nat.le_refl _) (fun k hk => ?_), h.low⟩, B2⟩
  · rcases hat with h3 | ⟨j, h3, hj⟩
    · exact h.part k hk (by rw [← h3]; exact hk2)
    · rw [h3] at hk2; cases hk2
      have := (World.ownsRow.lt h.out k hk).2
      omega
  · rcases hk with hk | rfl
    · exact (World.ownsRow.lt h.row k hk).1
    · exact h.low
theorem step_append_runI {P : Program} {ops : Array Oper} {o : Oper} {a : Act} {w : World} {K : Act → World → Prop} {Q : Exit → Act → World → Prop} {E : Prop}
    (hg : o.guard = none) (d x : Operand) (dT sT : TypeId) (hop : o.op = Op.call { callee := Callee.builtin Builtin.append, args := #[d, x], argTypes := #[dT, sT] })
    (v u : Value) (hd : a.eval d = v) (hx : a.eval x = u) {v' : Value} {w' : World} (hr : (Builtin.append_ #[dT, sT] o.type #[v, u]).run P w = .ok v' w') (hK : K (a.put o.dst v') w') :
    if Region.wanted o (yielded ops a.tmps) = true then Oper.wp P o a w K Q else E := by
  have hw : Region.wanted o (yielded ops a.tmps) = true := by simp [Region.wanted, hg]
  rw [if_pos hw]
  unfold Oper.wp
  simp [execOp, hop, resolve, invoke, builtin, hd, hx, hr, Result.andThen]
  exact hK
theorem RefI.meet {w : World} {o mb tb : Nat} {sv sv' : Value} {L L' : List ByteArray} {ov : Value} {P : List Int} {tv : Value} {T : List Int} {W W' : World} (h : RefI w o mb tb sv L ov P tv T W) (ho : OrdS w.heap.size o mb sv' L' W') (hb : But (FtO o mb sv) W W') : RefI w o mb tb sv' L' ov P tv T W' := by
  have no : ∀ {v : Value} {Q : List Int}, OwnI w.heap.size Q v W → ∀ k, v.ownBlock = some k → ¬ FtO o mb sv k := by
    intro v Q hv k hk h2
    rcases h2 with rfl | rfl | h2
    · exact own_nb hv h.ord.box (by decide) hk
    · obtain ⟨cs, hc⟩ := own_is_cells hv hk
      exact h.ord.map.notCells _ _ _ hc
    · exact own_ne hv h.ord.row (by decide) hk h2
  refine ⟨ho, ownsRow_keep h.out hb (no h.out), but_blk hb h.told (fun h2 => ?_), ownsRow_keep h.row hb (no h.row), h.part, below_but h.bel hb (Nat.le_refl _) (fun k hk => (h.ord.low hk).1), h.low⟩
  rcases h2 with rfl | rfl | h2
  · have := h.told
    rw [h.ord.box] at this
    simp at this
  · exact h.ord.map.notCells _ _ _ h.told
  · exact own_nb h.ord.row h.told (by decide) h2
theorem RefI.put {w : World} {o mb tb : Nat} {sv : Value} {L : List ByteArray} {ov ov' : Value} {P P' : List Int} {tv : Value} {T : List Int} {W W' : World} (h : RefI w o mb tb sv L ov P tv T W) (hb : But (fun k => ov.ownBlock = some k) W W') (ho : OwnI w.heap.size P' ov' W') (hat : ov'.ownBlock = ov.ownBlock ∨ ∃ j, ov'.ownBlock = some j ∧ W.heap.size ≤ j) : RefI w o mb tb sv L ov' P' tv T W' := by
  refine ⟨h.ord.but hb (fun k hk h2 => ?_), ho, but_blk hb h.told (own_nb h.out h.told (by decide)), ownsRow_keep h.row hb (fun k hk h2 => h.part k h2 hk), fun k hk hk2 => ?_, below_but h.bel hb (Nat.le_refl _) (fun k hk => (World.ownsRow.lt h.out k hk).1), h.low⟩
  · rcases hk with rfl | rfl | hk
    · exact own_nb h.out h.ord.box (by decide) h2
    · obtain ⟨cs, hc⟩ := own_is_cells h.out h2
      exact h.ord.map.notCells _ _ _ hc
    · exact own_ne h.out h.ord.row (by decide) h2 hk
  · rcases hat with h3 | ⟨j, h3, hj⟩
    · exact h.part k (by rw [← h3]; exact hk) hk2
    · rw [h3] at hk; cases hk
      have := (World.ownsRow.lt h.row k hk2).2
      omega
theorem new_cell3 (W : World) (x y z : Value) (t : TypeId) : ∀ (k : Nat) (u : Value), [x, y, z][k]? = some u → (W.alloc (Obj.cells #[x, y, z] t)).cell? ((⟨W.heap.size, 0, none⟩ : Addr).add k) = some u := by
  intro k u hk
  match k, hk with
  | 0, hk => simp at hk; subst hk; rw [add_plain]; simp
  | 1, hk => simp at hk; subst hk; rw [add_plain]; simp
  | 2, hk => simp at hk; subst hk; rw [add_plain]; simp
  | k + 3, hk => simp at hk
theorem ob_len (ta : Option Addr) (n m tc : Nat) : (Value.slice ta n tc).ownBlock = (Value.slice ta m tc).ownBlock := by cases ta <;> rfl
theorem own_cut {W : World} {B n tc : Nat} {e : TypeId} {ta : Option Addr} {xs : List Value} (h : W.ownsRow B e 1 (.slice ta n tc) n xs) : W.ownsRow B e 1 (.slice ta 0 tc) 0 [] := by
  refine ⟨rfl, ?_⟩
  rcases h.2 with ⟨e1, e2⟩ | ⟨g, cap, cur, hv, hB, hg, hle, hm, hsz, hx⟩
  · simp at e1
    exact .inl ⟨by simp [e1], rfl⟩
  · simp at hv
    exact .inr ⟨g, cap, cur, by simp [hv], hB, hg, Nat.zero_le _, hm, hsz, by simp⟩
theorem Mk.but {Ds : List Nat} {W W' : World} {D : Nat → Prop} (h : Mk Ds W) (hb : But D W W') (hd : ∀ k ∈ Ds, ¬ D k) : Mk Ds W' := ⟨h.1, fun d hd' => but_blk hb (h.2 d hd') (hd d hd')⟩
theorem Mk.next {Ds : List Nat} {W W' : World} (h : Mk Ds W) (hb : Below W.heap.size W W') : Mk Ds W' := h.but (D := fun _ => False) (But.of_next hb) (fun _ _ h => h)
/-- The keys of states, from a number on. -/
def keysL (c : List Int) : Nat → List Ds → List (List Int)
  | _, [] => []
  | j, s :: r => (clsOf c j :: (runC (clsOf c) s.arcs).flatMap tri) :: keysL c (j + 1) r
theorem keysL_get (c : List Int) : ∀ (l : List Ds) (j i : Nat), (keysL c j l)[i]? = (l[i]?).map fun s => clsOf c ((j + i : Nat) : Int) :: (runC (clsOf c) s.arcs).flatMap tri
  | [], j, i => by simp [keysL]
  | s :: r, j, 0 => by simp [keysL]
  | s :: r, j, i + 1 => by
    rw [keysL, List.getElem?_cons_succ, keysL_get c r (j + 1) i, List.getElem?_cons_succ]
    rw [show j + 1 + i = j + (i + 1) by omega]
theorem keysL_all (c : List Int) (l : List Ds) : keysL c 0 l = (List.range l.length).map fun i : Nat => keyA l c (i : Nat) := by
  apply List.ext_getElem?
  intro i
  rw [keysL_get]
  by_cases h : i < l.length
  · rw [List.getElem?_map, List.getElem?_range h, List.getElem?_eq_getElem h]
    simp only [Option.map_some, Nat.zero_add, keyA]
    rw [(arcsD_mem h).1]
  · rw [List.getElem?_eq_none (by omega), List.getElem?_eq_none (by simp; omega)]; rfl
def refL (l : List Ds) (c : List Int) : List Int := meetL [runesBytes [0]] ((keysL c 0 l).map runesBytes)
/-- What is kept in the range over a state's arcs. -/
def RefJ (w : World) (o mb tb : Nat) (sv : Value) (L : List ByteArray) (ov : Value) (P : List Int) (Ds : List Nat) (av cv : Value) (ac : Int) (Bs Bc : Nat) (c0 : Int) (A : Nat → Prop) (pre : List Ar) (V : World) : Prop :=
  ∃ tv, RefI w o mb tb sv L ov P tv (c0 :: pre.flatMap tri) V ∧ Mk Ds V ∧ FxC w av cv ac Bs Bc V ∧ (∀ k, (RefB o mb tb sv ov tv k ∨ k ∈ Ds ∨ k = Bs ∨ k = Bc) → ¬ A k) ∧ ∀ k, A k → w.heap.size ≤ k ∧ k < V.heap.size
theorem RefJ.keep (w : World) (o mb tb : Nat) (sv : Value) (L : List ByteArray) (ov : Value) (P : List Int) (Ds : List Nat) (av cv : Value) (ac : Int) (Bs Bc : Nat) (c0 : Int) : KeepJ (FxC w av cv ac Bs Bc) (RefJ w o mb tb sv L ov P Ds av cv ac Bs Bc c0) (fun _ _ => False) := by
  refine ⟨?_, ?_, ?_, ?_, ?_, ?_⟩
  · rintro A pre V V' ⟨tv, h1, h2, h3, h4, h5⟩ hb
    have hold : ∀ k, (RefB o mb tb sv ov tv k ∨ k ∈ Ds ∨ k = Bs ∨ k = Bc) → k < V.heap.size := by
      intro k hk
      rcases hk with hk | hk | rfl | rfl
      · exact (h1.at hk).2
      · exact blk_lt (h2.2 k hk)
      · exact blk_lt h3.2.1
      · exact blk_lt h3.2.2
    refine ⟨tv, h1.but hb (fun k hk => h4 k (.inl hk)) (fun k hk => (h5 k hk).1), h2.but hb (fun k hk => h4 k (.inr (.inl hk))), ⟨below_but h3.1 hb (Nat.le_refl _) (fun k hk => (h5 k hk).1), but_blk hb h3.2.1 (h4 _ (.inr (.inr (.inl rfl)))), but_blk hb h3.2.2 (h4 _ (.inr (.inr (.inr rfl))))⟩, fun k hk h => ?_, fun k hk => ?_⟩
    · rcases h with h | h
      · exact h4 k hk h
      · have := hold k hk; omega
    · have hz := hb.size
      have hw := h1.bel.size
      rcases hk with hk | hk
      · have := h5 k hk; omega
      · omega
  · rintro A pre V k ⟨tv, h1, h2, h3, h4, h5⟩ hk
    exact (h5 k hk).2
  · rintro A B pre V ⟨tv, h1, h2, h3, h4, h5⟩ hB
    exact ⟨tv, h1, h2, h3, fun k hk h => h4 k hk (hB k h), fun k hk => h5 k (hB k hk)⟩
  · rintro A pre V ⟨tv, h1, h2, h3, h4, h5⟩
    exact h3
  · intro A B V h; exact h.elim
  · intro A V V' h; exact h.elim

set_option maxRecDepth 100000 in
set_option maxHeartbeats 4000000 in
theorem refined_any (l : List Ds) (c : List Int) (v cv : Value) (w : World) (hl : SlD l v w) (hc : SlI c cv w) (hlen : c.length = l.length) (hn : l.length ≤ 10000) (hf : ∀ s ∈ l, upA s.arcs 0 ∧ s.arcs.length ≤ 100000 ∧ ∀ x ∈ s.arcs, 0 ≤ x.tg ∧ x.tg < l.length) (hcb : ∀ x ∈ c, 0 ≤ x ∧ x < 50000) :
    Calls Try.prog 47 #[v, cv] w fun e w' => ∃ nv, e = .returned nv ∧ OwnI w.heap.size (refL l c) nv w' ∧ Below w.heap.size w w' := by
  have HL : Hid (∀ V, Below w.heap.size w V → SlD l v V ∧ SlI c cv V) := fun V hV => ⟨hl.next hV, hc.next hV⟩
  have HG : Hid (∀ (s : Ds) (av : Value) (Bs Bc : Nat) (n : Nat) (V : World), s ∈ l → SlA s.arcs av w → GivesT n Try.prog 67 #[.pointer (some ⟨Bs, 0, none⟩), .pointer (some ⟨Bc, 0, none⟩)] encC (fun xs _ => xs = runC (clsOf c) s.arcs) (fun _ _ _ => True) (fun xs => xs <+: runC (clsOf c) s.arcs) (fun _ => False) (FxC w av cv s.acc Bs Bc) V) := fun s av Bs Bc n V hs hav => classArcs_gives n s.arcs c av cv s.acc Bs Bc w V hav hc (fun x hx => by
    obtain ⟨q1, q2, q3⟩ := hf s hs
    have := q3 x hx
    obtain ⟨z1, z2, z3⟩ := upA_at q1 hx
    exact ⟨this.1, by omega, z3, z1, z2⟩)
  have HLEN : Hid (c.length = l.length) := hlen
  have HKB : Hid (∀ (s : Ds) (j : Nat), s ∈ l → j < l.length → ∀ x ∈ clsOf c j :: (runC (clsOf c) s.arcs).flatMap tri, letB x) := fun s j hs hj => key_let hcb (hf s hs).1 j
  have HKL : Hid (∀ s ∈ l, (runC (clsOf c) s.arcs).length ≤ 200000) := fun s hs => Nat.le_trans (crun_len _ _ _ _ _) (by have := (hf s hs).2.1; omega)
  obtain ⟨va, vc, rfl, hld, _⟩ := hl
  have HD : Hid (DssAt l va w) := hld
  obtain ⟨ca, cc, rfl, hcr, _⟩ := hc
  have HC : Hid (RowAt encI c ca w) := hcr
  clear hlen hld hcr hf hcb
  have ba : Below w.heap.size w (w.alloc (Obj.cells #[.int .i64 0] 3)) := below_box _ _ _
  have C1 := textOf_any [0] (.slice (some ⟨w.heap.size, 0, none⟩) 1 1) (w.alloc (Obj.cells #[.int .i64 0] 3)) ⟨_, _, rfl, fun i x hi => by
    match i, hi with
    | 0, hi => simp at hi; subst hi; exact ⟨_, _, rfl, by simp, by simp [encI]⟩, fun h => (by cases h), by simp, fun x hx => by simp at hx; subst hx; exact ⟨by omega, by omega⟩⟩ (fun x hx => by simp at hx; subst hx; exact ⟨by omega, by omega⟩) (by simp)
  have HB1 : Hid (Below w.heap.size w (w.alloc (Obj.cells #[.int .i64 0] 3))) := ba
  have hrs : (runesBytes [0]).size ≤ 100000000 := by have := runesBytes_size_le [0]; simp at this; omega
  obtain ⟨ii, hii, hz0, hz1, hz2⟩ := info_parts info3
  clear ba
  refine (callsIn_wide (n := 9)).1 ?_
  refine callsIn_of_wp_marks Try.func47 rfl trivial ?_ rfl
  simp only [Try.ntmps47, List.size_toArray, List.length_cons, List.length_nil, Nat.reduceAdd, Nat.reduceSub, Array.replicate_succ, Array.replicate_zero, List.push_toArray, List.append_toArray, List.nil_append, List.cons_append]
  gi_wp2_with fail
  refine ⟨trivial, (callsIn_wide.2 C1).mono ?_⟩
  rintro e w1 ⟨rfl, hb1⟩
  have HB2 : Hid (Below w.heap.size w w1) := HB1.out.trans (hb1.mono HB1.out.size)
  clear C1 HB1 hb1
  have C2 := fromS_any (runesBytes [0]) w1 hrs
  gi_wp2_with fail
  refine ⟨trivial, (callsIn_wide.2 C2).mono ?_⟩
  rintro e w2 ⟨o, mb, sv, rfl, hO, hB⟩
  have HS : Hid (OrdS w.heap.size o mb sv [runesBytes [0]] w2 ∧ Below w.heap.size w w2) := ⟨⟨hO.box, hO.map, own_mono hO.row HB2.out.size, Nat.le_trans HB2.out.size hO.lo, Nat.le_trans HB2.out.size hO.lm⟩, HB2.out.trans (hB.mono HB2.out.size)⟩
  clear C2 HB2 hO hB
  gi_wp2_with fail
  refine wpIn_loop_ghost (fun m a' W => ∃ (t8 t9 t10 t11 t18 t19 t20 t21 t22 t23 t24 t25 t26 t27 t28 t29 t30 t31 t32 t33 t34 t35 t36 t37 t38 t39 t40 t41 t42 t43 t44 t45 t46 t47 t48 t49 t50 : Value) (j : Nat) (Ds : List Nat) (sv : Value) (L : List ByteArray) (oa : Option Addr) (oc : Nat) (P : List Int) (tv : Value) (T : List Int) (pn : Nat), a' = { tmps := #[Value.slice va l.length vc, Value.slice ca c.length cc, undef, undef, Value.slice none 0 0, Value.pointer (some ⟨o, 0, none⟩), Value.slice oa pn oc, Value.pointer (some ⟨w2.heap.size, 0, none⟩), t8, t9, t10, t11, Value.slice (some ⟨w.heap.size, 0, none⟩) 1 1, Value.string (runesBytes [0]), Value.pointer (some ⟨o, 0, none⟩), Value.slice va l.length vc, Value.int .i64 (l.length : Nat), Value.int .i64 (j : Nat), t18, t19, t20, t21, t22, t23, t24, t25, t26, t27, t28, t29, t30, t31, t32, t33, t34, t35, t36, t37, t38, t39, t40, t41, t42, t43, t44, t45, t46, t47, t48, t49, t50, undef], defers := Ds.map mark } ∧ pn = P.length ∧ m = l.length - j ∧ j ≤ l.length ∧ P.length ≤ j ∧ L.length ≤ j + 1 ∧ Hid (RefI w o mb w2.heap.size sv L (.slice oa P.length oc) P tv T W ∧ Mk Ds W ∧ (∀ d ∈ Ds, w.heap.size ≤ d) ∧ T.length ≤ 1000000 ∧ refL l c = P ++ meetL L ((keysL c j (l.drop j)).map runesBytes))) l.length ?start ?round
  case start =>
    refine ⟨undef, undef, undef, undef, undef, undef, undef, undef, undef, undef, undef, undef, undef, undef, undef, undef, undef, undef, undef, undef, undef, undef, undef, undef, undef, undef, undef, undef, undef, undef, undef, undef, undef, undef, undef, undef, undef, 0, [], sv, [runesBytes [0]], none, 0, [], .slice none 0 0, [], 0, rfl, rfl, rfl, Nat.zero_le _, Nat.le_refl _, Nat.le_refl _, ?_⟩
    obtain ⟨q1, q2⟩ := HS.out
    have ba : Below w2.heap.size w2 (w2.alloc (Obj.cells #[.slice none 0 0] 57)) := below_box _ _ _
    exact ⟨⟨q1.next ba, World.ownsRow_nil _ _ _ _, heap_alloc_new _ _, World.ownsRow_nil _ _ _ _, fun k hk => (by cases hk), q2.trans (ba.mono q2.size), q2.size⟩, ⟨List.nodup_nil, by simp⟩, by simp, by simp, rfl⟩
  case round =>
    clear HS
    rintro m a' wr ⟨t8, t9, t10, t11, t18, t19, t20, t21, t22, t23, t24, t25, t26, t27, t28, t29, t30, t31, t32, t33, t34, t35, t36, t37, t38, t39, t40, t41, t42, t43, t44, t45, t46, t47, t48, t49, t50, j, Ds, sv, L, oa, oc, P, tv, T, pn, rfl, rfl, rfl, hj, hP, hL, HX⟩
    by_cases hlt : j < l.length
    case neg =>
      obtain rfl : j = l.length := by omega
      have d0 : decide ((l.length : Int) < l.length) = false := decide_eq_false (by omega)
      have HE : Hid (OwnI w.heap.size (refL l c) (.slice oa P.length oc) wr ∧ Below w.heap.size w wr ∧ Mk Ds wr ∧ ∀ d ∈ Ds, w.heap.size ≤ d) := by
        obtain ⟨h1, h2, h3, _, h4⟩ := HX.out
        rw [List.drop_of_length_le (Nat.le_refl _)] at h4
        simp only [keysL, List.map_nil, meetL, List.append_nil] at h4
        exact ⟨by rw [h4]; exact h1.out, h1.bel, h2, h3⟩
      clear HX HG HL HD HC HKB HKL
      gi_wp2
      refine leaves_marksC (Rw := fun W => OwnI w.heap.size (refL l c) (.slice oa P.length oc) W ∧ Below w.heap.size w W) (v := .slice oa P.length oc) (fun W _ => (results_tmp (t := 4) rfl _ _ _).trans (by rfl)) (fun q => w.heap.size ≤ q) (fun W q h1 h2 h3 => ?_) (fun W h => ⟨_, rfl, h.1, h.2⟩) Ds wr HE.out.2.2.1 HE.out.2.2.2 ⟨HE.out.1, HE.out.2.1⟩
      have hb := But.putObj W q (.deferred none)
      refine ⟨ownsRow_keep h3.1 hb (fun k hk e => ?_), h3.2.trans (hb.below h3.2.size (fun k hk => by omega))⟩
      obtain ⟨cs, hcs⟩ := own_is_cells h3.1 hk
      rw [e, h2] at hcs
      cases hcs
    have d0 : decide ((j : Int) < l.length) = true := decide_eq_true (by omega)
    obtain ⟨h1, h2, h3, hT, h4⟩ := HX.out
    obtain ⟨b, off, u, rfl, hb, c1, c2, c3, hac⟩ := HD.out.at (Below.refl _ _) hlt
    have hjc : j < c.length := by rw [HLEN.out]; exact hlt
    obtain ⟨kb, ko, rfl, hkb, cj⟩ := HC.out.at (Below.refl _ _) hjc
    have HQ : Hid (clsOf c (j : Int) = c[j]) := by
      show _ = _
      unfold clsOf
      rw [if_neg (by omega), Int.toNat_natCast, List.getElem?_eq_getElem hjc]; rfl
    generalize c[j] = q at *
    rw [List.drop_eq_getElem_cons hlt] at h4
    have HXM : Hid (l[j] ∈ l) := List.getElem_mem hlt
    have hGV := HG.out l[j] u
    have hKB := HKB.out l[j] j HXM.out hlt
    have hKL := HKL.out l[j] HXM.out
    generalize l[j] = x at *
    have HSA : Hid (SlA x.arcs u w) := c3
    obtain ⟨xa, xc, rfl, _⟩ := c3
    have HGV : Hid _ := hGV
    have HKB2 : Hid (∀ y ∈ q :: (runC (clsOf c) x.arcs).flatMap tri, letB y) := by rw [HQ.out] at hKB; exact hKB
    have HKL2 : Hid ((runC (clsOf c) x.arcs).length ≤ 200000) := hKL
    have HR : Hid (refL l c = P ++ meetL L (runesBytes (q :: (runC (clsOf c) x.arcs).flatMap tri) :: (keysL c (j + 1) (l.drop (j + 1))).map runesBytes)) := by
      show _ = _
      rw [h4, keysL, HQ.out, List.map_cons]
    clear hGV hKB hKL h4
    have a1 : wr.cell? ⟨b, off + j * 2, none⟩ = some (.slice xa x.arcs.length xc) := (h1.bel.cell (p := ⟨b, off + j * 2, none⟩) hb).trans c1
    have a2 : wr.cell? ⟨b, off + j * 2 + 1, none⟩ = some (.int .i64 x.acc) := (h1.bel.cell (p := ⟨b, off + j * 2 + 1, none⟩) hb).trans c2
    have a3 : wr.cell? ⟨kb, ko + j, none⟩ = some (.int .i64 q) := (h1.bel.cell (p := ⟨kb, ko + j, none⟩) hkb).trans cj
    have hwr := h1.bel.size
    have BB : Below wr.heap.size wr (wr.alloc (Obj.cells #[.slice xa x.arcs.length xc, .int .i64 x.acc] 37)) := below_box2 _ _ _ _
    have HN : Hid (RefI w o mb w2.heap.size sv L (.slice oa P.length oc) P tv T (wr.alloc (Obj.cells #[.slice xa x.arcs.length xc, .int .i64 x.acc] 37)) ∧ Mk Ds (wr.alloc (Obj.cells #[.slice xa x.arcs.length xc, .int .i64 x.acc] 37)) ∧ (∀ d ∈ Ds, w.heap.size ≤ d) ∧ (wr.alloc (Obj.cells #[.slice xa x.arcs.length xc, .int .i64 x.acc] 37)).heap[wr.heap.size]? = some (Obj.cells #[.slice xa x.arcs.length xc, .int .i64 x.acc] 37)) := ⟨h1.next BB, h2.next BB, h3, heap_alloc_new _ _⟩
    have a4 : (wr.alloc (Obj.cells #[.slice xa x.arcs.length xc, .int .i64 x.acc] 37)).cell? ⟨kb, ko + j, none⟩ = some (.int .i64 q) := (BB.cell (p := ⟨kb, ko + j, none⟩) (World.block_lt_of_cell? _ _ a3)).trans a3
    have hbw : b < wr.heap.size := by omega
    clear h1 h2 h3 HX BB c1 c2 cj a3 HG HD HC HKB HKL HL
    gi_wp2
    generalize wr.alloc (Obj.cells #[.slice xa x.arcs.length xc, .int .i64 x.acc] 37) = wb at *
    obtain ⟨n1, n2, n3, n4⟩ := HN.out
    obtain ⟨ta, tc, rfl⟩ := slice_of_ownK n1.row
    have hwb := n1.bel.size
    have e7 : wb.cell? ⟨w2.heap.size, 0, none⟩ = some (.slice ta T.length tc) := by rw [Lib.cell_of_heap n1.told]; rfl
    have hsl : ∀ W : World, (Instr.sliceAt 57 (.slice ta T.length tc) none (some (.int .i64 0)) none).run Try.prog W = .ok (.slice ta 0 tc) W := fun W => by
      rcases n1.row.2 with ⟨e1, e2⟩ | ⟨g, cap, cur, hv, _⟩
      · simp at e1
        obtain ⟨rfl, e3, rfl⟩ := e1
        simp [Instr.sliceAt, go_sem, Instr.slice]
      · simp at hv
        obtain ⟨rfl, rfl⟩ := hv
        simp [Instr.sliceAt, go_sem, Instr.slice]
    have BK : Below wb.heap.size wb (wb.drew.alloc (Obj.cells #[.int .i64 q] 3)) := (below_drewN (Below.refl _ _) 1).alloc (Nat.le_refl _) _
    obtain ⟨nv, wm, hap, ho4, hg4, _, hat4⟩ := run_append_own_at (P := Try.prog) (wb.drew.alloc (Obj.cells #[.int .i64 q] 3)) w.heap.size 57 57 3 ii _ 1 8 Try.underlying57 hii hz0 hz1 hz2 rfl (by omega) (.slice ta 0 tc) 0 [] (own_below (own_cut n1.row) BK) ⟨wb.heap.size, 0, none⟩ 1 1 [.int .i64 q] rfl (new_cell wb.drew _ _) (by simp [Value.oneCell']) (by unfold maxLen; omega) (by omega) (by have := BK.size; omega)
    have B4 : But (fun k => (Value.slice ta T.length tc).ownBlock = some k) wb wm := (But.of_next BK).trans ⟨hg4.os, hg4.tape, hg4.output, hg4.size, fun k hk hd => hg4.block k hk (fun e => hd (by rw [e]; exact ob_len _ _ _ _))⟩
    obtain ⟨z1, z2, z3⟩ := n1.turn (nv := nv) (T' := [q]) B4 (by simpa [OwnI, encI] using ho4) (by
      rcases hat4 with h | h
      · exact .inl (by rw [h]; exact ob_len _ _ _ _)
      · exact .inr ⟨_, h, BK.size⟩)
    have nkb : ¬ (Value.slice ta T.length tc).ownBlock = some kb := fun e => by have := (World.ownsRow.lt n1.row kb e).1; omega
    have HS3 : ∀ W2 : World, Below wb.heap.size wb W2 → W2.cell? ⟨w2.heap.size, 0, none⟩ = some (.slice ta T.length tc) ∧ W2.cell? ⟨kb, ko + j, none⟩ = some (.int .i64 q) := fun W2 h2 => ⟨(h2.cell (p := ⟨w2.heap.size, 0, none⟩) (World.block_lt_of_cell? _ _ e7)).trans e7, (h2.cell (p := ⟨kb, ko + j, none⟩) (World.block_lt_of_cell? _ _ a4)).trans a4⟩
    have HS4 : wm.cell? ⟨w2.heap.size, 0, none⟩ = some (.slice ta T.length tc) ∧ wm.cell? ⟨kb, ko + j, none⟩ = some (.int .i64 q) := ⟨by rw [Lib.cell_of_heap z1]; rfl, (B4.cell (p := ⟨kb, ko + j, none⟩) (World.block_lt_of_cell? _ _ a4) nkb).trans a4⟩
    have fz4 : wm.frozen? ⟨w2.heap.size, 0, none⟩ = false := Lib.frozen_of_heap z1 _
    have HM2 : Hid (RefI w o mb w2.heap.size sv L (.slice oa P.length oc) P nv [q] (wm.setCell ⟨w2.heap.size, 0, none⟩ nv) ∧ Mk Ds (wm.setCell ⟨w2.heap.size, 0, none⟩ nv) ∧ (∀ d ∈ Ds, w.heap.size ≤ d) ∧ (wm.setCell ⟨w2.heap.size, 0, none⟩ nv).heap[wr.heap.size]? = some (Obj.cells #[.slice xa x.arcs.length xc, .int .i64 x.acc] 37)) := by
      refine ⟨z2, n2.but z3 (fun k hk h => ?_), n3, but_blk z3 n4 (fun h => ?_)⟩
      · rcases h with h | h
        · obtain ⟨cs, hcs⟩ := own_is_cells n1.row h
          rw [n2.2 k hk] at hcs; cases hcs
        · have := n1.told
          rw [← h, n2.2 k hk] at this; cases this
      · rcases h with h | h
        · exact own_nb n1.row n4 (by decide) h
        · have := n1.told
          rw [← h, n4] at this; simp at this
    obtain ⟨na, nc, rfl⟩ := slice_of_ownK ho4
    clear ho4 hg4 hat4 B4 z1 z2 z3 nkb n1 n2 n3 n4 HN
    refine wpIn_wide.2 ?_
    refine wp_region_noPanic ?_
    refine wp_region_L (fun W => W.cell? ⟨w2.heap.size, 0, none⟩ = some (.slice ta T.length tc) ∧ W.cell? ⟨kb, ko + j, none⟩ = some (.int .i64 q)) 8 (by kernel_rfl) 9 rfl ?_
    refine wpAnyL_take' (i := 0) (v := ?_) (oi := { dst := some 22, op := Op.load 57 (Operand.tmp 7), type := 57, pos := "classes.go:50", after := #[], guard := none }) rfl (by kernel_rfl) (by kernel_rfl) (by kernel_rfl) (by kernel_rfl) rfl (fun _ _ _ h => h) (Or.inl ⟨by rfl, ?_⟩) (HS3 _ (below_drewN (Below.refl _ _) 1)) ?_
    rotate_left
    · intro W hSW
      go_simp
      try with_reducible rfl
    simp only [Act.put, List.setIfInBounds_toArray, List.set_cons_zero, List.set_cons_succ]
    refine wpAnyL_take' (i := 1) (v := ?_) (oi := { dst := some 23, op := Op.slice 57 (Operand.tmp 22) none (some (Operand.const (Value.int IntKind.i64 0))) none, type := 57, pos := "classes.go:50", after := #[{ on := 0, ground := Ground.data }], guard := none }) rfl (by kernel_rfl) (by kernel_rfl) (by kernel_rfl) (by kernel_rfl) rfl (fun _ _ _ h => h) (Or.inl ⟨by rfl, ?_⟩) (HS3 _ (below_drewN (Below.refl _ _) 1)) ?_
    rotate_left
    · intro W hSW
      go_simp
      try with_reducible rfl
    simp only [Act.put, List.setIfInBounds_toArray, List.set_cons_zero, List.set_cons_succ]
    refine wpAnyL_take' (i := 2) (v := ?_) (oi := { dst := some 24, op := Op.move (Operand.tmp 1), type := 57, pos := "classes.go:50", after := #[], guard := none }) rfl (by kernel_rfl) (by kernel_rfl) (by kernel_rfl) (by kernel_rfl) rfl (fun _ _ _ h => h) (Or.inl ⟨by rfl, ?_⟩) (HS3 _ (below_drewN (Below.refl _ _) 1)) ?_
    rotate_left
    · intro W hSW
      go_simp
      try with_reducible rfl
    simp only [Act.put, List.setIfInBounds_toArray, List.set_cons_zero, List.set_cons_succ]
    refine wpAnyL_take' (i := 3) (v := ?_) (oi := { dst := some 25, op := Op.move (Operand.tmp 8), type := 3, pos := "classes.go:50", after := #[], guard := none }) rfl (by kernel_rfl) (by kernel_rfl) (by kernel_rfl) (by kernel_rfl) rfl (fun _ _ _ h => h) (Or.inl ⟨by rfl, ?_⟩) (HS3 _ (below_drewN (Below.refl _ _) 1)) ?_
    rotate_left
    · intro W hSW
      go_simp
      try with_reducible rfl
    simp only [Act.put, List.setIfInBounds_toArray, List.set_cons_zero, List.set_cons_succ]
    refine wpAnyL_take' (i := 4) (v := ?_) (oi := { dst := some 26, op := Op.indexAddr 57 (Operand.tmp 24) (Operand.tmp 25), type := 0, pos := "classes.go:50", after := #[{ on := 2, ground := Ground.data }, { on := 3, ground := Ground.data }], guard := none }) rfl (by kernel_rfl) (by kernel_rfl) (by kernel_rfl) (by kernel_rfl) rfl (fun _ _ _ h => h) (Or.inl ⟨by rfl, ?_⟩) (HS3 _ (below_drewN (Below.refl _ _) 1)) ?_
    rotate_left
    · intro W hSW
      go_simp
      try with_reducible rfl
    simp only [Act.put, List.setIfInBounds_toArray, List.set_cons_zero, List.set_cons_succ]
    refine wpAnyL_take' (i := 5) (v := ?_) (oi := { dst := some 27, op := Op.load 3 (Operand.tmp 26), type := 3, pos := "classes.go:50", after := #[{ on := 4, ground := Ground.data }], guard := none }) rfl (by kernel_rfl) (by kernel_rfl) (by kernel_rfl) (by kernel_rfl) rfl (fun _ _ _ h => h) (Or.inl ⟨by rfl, ?_⟩) (HS3 _ (below_drewN (Below.refl _ _) 1)) ?_
    rotate_left
    · intro W hSW
      go_simp
      try with_reducible rfl
    simp only [Act.put, List.setIfInBounds_toArray, List.set_cons_zero, List.set_cons_succ]
    refine wpAnyL_one' (i := 6) (o := { dst := some 28, op := Op.buildSlice 57 1 #[(0, Operand.tmp 27)], type := 57, pos := "classes.go:50", after := #[{ on := 5, ground := Ground.data }], guard := none }) (by kernel_rfl) rfl rfl (fun K hK => ?_)
    go_simp
    refine hK.out _ _ (fun _ => HS3 _ BK) ?_
    clear hK
    try simp only [Act.put, List.setIfInBounds_toArray, List.set_cons_zero, List.set_cons_succ]
    refine wpAnyL_one' (i := 7) (o := { dst := some 29, op := Op.call { callee := Callee.builtin Builtin.append, args := #[Operand.tmp 23, Operand.tmp 28], argTypes := #[57, 57] }, type := 57, pos := "classes.go:50", after := #[{ on := 1, ground := Ground.data }, { on := 6, ground := Ground.data }], guard := none }) (by kernel_rfl) rfl rfl (fun K hK => ?_)
    refine step_append_runI rfl _ _ 57 57 rfl _ _ rfl rfl hap ?_
    refine hK.out _ _ (fun _ => HS4) ?_
    clear hK
    simp only [Act.put, List.setIfInBounds_toArray, List.set_cons_zero, List.set_cons_succ]
    refine wpAnyL_one' (i := 8) (o := { dst := none, op := Op.store 57 (Operand.tmp 7) (Operand.tmp 29), type := 0, pos := "classes.go:50", after := #[{ on := 7, ground := Ground.data }, { on := 7, ground := Ground.chain }, { on := 0, ground := Ground.phase }, { on := 1, ground := Ground.phase }, { on := 2, ground := Ground.phase }, { on := 3, ground := Ground.phase }, { on := 4, ground := Ground.phase }, { on := 5, ground := Ground.phase }, { on := 6, ground := Ground.phase }, { on := 7, ground := Ground.phase }], guard := none }) (by kernel_rfl) rfl rfl (fun K hK => ?_)
    go_simp
    refine hK.out _ _ (fun h => absurd h (by decide)) ?_
    clear hK
    refine wpAnyL_done (by kernel_rfl) ?_ _
    refine NoPanic.normal ?_
    generalize wm.setCell ⟨w2.heap.size, 0, none⟩ (.slice na (0 + 1) nc) = wn at *
    have k9 : wn.cell? ⟨wr.heap.size, 0, none⟩ = some (.slice xa x.arcs.length xc) ∧ wn.cell? ⟨wr.heap.size, 1, none⟩ = some (.int .i64 x.acc) := ⟨by rw [Lib.cell_of_heap HM2.out.2.2.2]; rfl, by rw [Lib.cell_of_heap HM2.out.2.2.2]; rfl⟩
    obtain ⟨k90, k91⟩ := k9
    have C3 := classArcs_any (.slice xa x.arcs.length xc) (.slice (some ⟨kb, ko, none⟩) c.length cc) x.acc ⟨_, _, _, rfl⟩ ⟨_, _, _, rfl⟩ wn
    clear HS3 HS4 fz4 hap BK e7 a4 hsl
    gi_wp2_with fail
    refine ⟨trivial, (callsIn_wide.2 C3).mono ?_⟩
    rintro e w3 ⟨rfl, hw3⟩
    have HW3 : Hid (w3.heap.size = wn.heap.size + 2 ∧ Below wn.heap.size wn w3 ∧ w3.heap[wn.heap.size]? = some (Obj.cells #[.slice xa x.arcs.length xc, .int .i64 x.acc] 37) ∧ w3.heap[wn.heap.size + 1]? = some (Obj.cells #[.slice (some ⟨kb, ko, none⟩) c.length cc] 57)) := by
      refine ⟨by rw [hw3]; simp, by rw [hw3]; exact ((Below.refl _ _).alloc (Nat.le_refl _) _).alloc (by simp) _, ?_, ?_⟩
      · rw [hw3]; exact blk_new (heap_alloc_new _ _)
      · rw [hw3]
        have := heap_alloc_new (wn.alloc (Obj.cells #[.slice xa x.arcs.length xc, .int .i64 x.acc] 37)) (Obj.cells #[.slice (some ⟨kb, ko, none⟩) c.length cc] 57)
        simpa using this
    have HNT : Hid (¬ wn.heap.size + 1 = w2.heap.size) := fun h => by have := blk_lt HM2.out.1.told; omega
    clear C3 hw3 k90 k91
    gi_wp2_with fail
    refine wpIn_range_U (α := Ar) (by omega) (gf := 67) (lb := #[.pointer (some ⟨wn.heap.size, 0, none⟩), .pointer (some ⟨wn.heap.size + 1, 0, none⟩)]) rfl (enters_of Try.func67 (by kernel_rfl) rfl) (encs := encC) (S := fun xs _ => xs = runC (clsOf c) x.arcs) (Ok := fun _ => True) (Pf := fun xs => xs <+: runC (clsOf c) x.arcs) (A0 := fun _ => False) (Fx := FxC w (.slice xa x.arcs.length xc) (.slice (some ⟨kb, ko, none⟩) c.length cc) x.acc wn.heap.size (wn.heap.size + 1)) (fun _ => rfl) (fun q hq => hq.elim) (fun V _ => HGV.out _ _ _ V HXM.out HSA.out) (fun ys V V' h1 _ => h1)
      (RefJ w o mb w2.heap.size sv L (.slice oa P.length oc) P Ds (.slice xa x.arcs.length xc) (.slice (some ⟨kb, ko, none⟩) c.length cc) x.acc wn.heap.size (wn.heap.size + 1) q) (fun _ _ => False) (RefJ.keep _ _ _ _ _ _ _ _ _ _ _ _ _ _ _) (fun V h1 h2 => ?init)
      (fun y a' W => ∃ xb, W.heap[xb]? = some (Obj.cells #[.int .i64 y.lo, .int .i64 y.hi, .int .i64 0] 39) ∧ a' = { tmps := #[Value.slice (some ⟨b, off, none⟩) l.length vc, Value.slice (some ⟨kb, ko, none⟩) c.length cc, undef, undef, Value.slice none 0 0, Value.pointer (some ⟨o, 0, none⟩), Value.slice oa P.length oc, Value.pointer (some ⟨w2.heap.size, 0, none⟩), Value.int .i64 (j : Nat), Value.pointer (some ⟨wr.heap.size, 0, none⟩), Value.pointer (some ⟨xb, 0, none⟩), Value.int .i64 y.tg, Value.slice (some ⟨w.heap.size, 0, none⟩) 1 1, Value.string (runesBytes [0]), Value.pointer (some ⟨o, 0, none⟩), Value.slice (some ⟨b, off, none⟩) l.length vc, Value.int .i64 (l.length : Nat), Value.int .i64 (j : Nat), Value.bool true, Value.int .i64 (j : Nat), Value.pointer (some ⟨b, off + j * 2, none⟩), Value.agg #[Value.slice xa x.arcs.length xc, Value.int .i64 x.acc], Value.slice ta T.length tc, Value.slice ta 0 tc, Value.slice (some ⟨kb, ko, none⟩) c.length cc, Value.int .i64 (j : Nat), Value.pointer (some ⟨kb, ko + j, none⟩), Value.int .i64 q, Value.slice (some ⟨wb.heap.size, 0, none⟩) 1 1, Value.slice na 1 nc, Value.agg #[Value.slice xa x.arcs.length xc, Value.int .i64 x.acc], Value.slice (some ⟨kb, ko, none⟩) c.length cc, Value.func (.func 67) #[] #[.pointer (some ⟨wn.heap.size, 0, none⟩), .pointer (some ⟨wn.heap.size + 1, 0, none⟩)], Value.agg #[.int .i64 y.lo, .int .i64 y.hi, .int .i64 0], Value.int .i64 y.tg, t35, t36, t37, t38, t39, t40, t41, t42, t43, t44, t45, t46, t47, t48, t49, t50, undef], defers := [] })
      ?assign ?body ?done
    case init =>
      obtain ⟨m1, m2, m3, _⟩ := HM2.out
      obtain ⟨v1, v2, v3, v4⟩ := HW3.out
      have B5 : Below wn.heap.size wn V := v2.trans (h1.mono v2.size)
      have hz5 := m1.bel.size
      refine ⟨_, m1.next B5, m2.next B5, ⟨m1.bel.trans (B5.mono m1.bel.size), (h1.block _ (blk_lt v3)).trans v3, (h1.block _ (blk_lt v4)).trans v4⟩, fun k hk h => ?_, fun k hk => ?_⟩
      · have hkl : k < w3.heap.size := by
          rcases hk with hk | hk | rfl | rfl
          · have := (m1.at hk).2; omega
          · have := blk_lt (m2.2 k hk); omega
          · exact blk_lt v3
          · exact blk_lt v4
        rcases h with h | h | h
        · exact h
        · omega
        · omega
      · rcases hk with h | h | h
        · exact h.elim
        · omega
        · omega
    case assign =>
      intro l' y V K hV hK
      simp only [encC]
      gi_wp2_with fail
      exact hK _ _ ((Below.refl _ _).alloc (Nat.le_refl _) _) (fun W2 h2 => ⟨V.heap.size, but_blk h2 (heap_alloc_new _ _) (fun e => by omega), rfl⟩)
    case body =>
      rintro l' A' pre y a' V hI ⟨xb, hxb, rfl⟩ _ hPf
      obtain ⟨tv2, r1, r2, r3, r4, r5⟩ := hI
      obtain ⟨T2, hT2⟩ : ∃ T2, T2 = q :: pre.flatMap tri := ⟨_, rfl⟩
      rw [← hT2] at r1
      have hlT : T2.length ≤ 700000 := by
        have h9 := hPf.length_le
        have h8 := HKL2.out
        rw [hT2]
        have : (pre.flatMap tri).length = 3 * pre.length := by
          clear hT2 hPf h9 r3
          induction pre with
          | nil => rfl
          | cons a t ih => simp [tri, ih]; omega
        simp only [List.length_append, List.length_cons, List.length_nil] at h9 ⊢
        omega
      have HT2 : Hid (T2 ++ [y.lo, y.hi, y.tg] = q :: (pre ++ [y]).flatMap tri) := by
        show _ = _
        rw [hT2]; simp [tri]
      obtain ⟨ua, uc, rfl⟩ := slice_of_ownK r1.row
      have e7 : V.cell? ⟨w2.heap.size, 0, none⟩ = some (.slice ua T2.length uc) := by rw [Lib.cell_of_heap r1.told]; rfl
      have y0 : V.cell? ⟨xb, 0, none⟩ = some (.int .i64 y.lo) := by rw [Lib.cell_of_heap hxb]; rfl
      have y1 : V.cell? ⟨xb, 1, none⟩ = some (.int .i64 y.hi) := by rw [Lib.cell_of_heap hxb]; rfl
      have b3 : Below V.heap.size V (V.alloc (Obj.cells #[.int .i64 y.lo, .int .i64 y.hi, .int .i64 y.tg] 3)) := (Below.refl _ _).alloc (Nat.le_refl _) _
      have hON : (V.alloc (Obj.cells #[.int .i64 y.lo, .int .i64 y.hi, .int .i64 y.tg] 3)).ownsRow w.heap.size 3 1 (.slice ua T2.length uc) T2.length (T2.map encI) := own_below r1.row b3
      have hszn : w.heap.size ≤ (V.alloc (Obj.cells #[.int .i64 y.lo, .int .i64 y.hi, .int .i64 y.tg] 3)).heap.size := Nat.le_trans r1.bel.size b3.size
      have hnw := new_cell3 V (.int .i64 y.lo) (.int .i64 y.hi) (.int .i64 y.tg) 3
      have HR1 : Hid (RefI w o mb w2.heap.size sv L (.slice oa P.length oc) P (.slice ua T2.length uc) T2 V ∧ Mk Ds V ∧ FxC w (.slice xa x.arcs.length xc) (.slice (some ⟨kb, ko, none⟩) c.length cc) x.acc wn.heap.size (wn.heap.size + 1) V ∧ (∀ k, (RefB o mb w2.heap.size sv (.slice oa P.length oc) (.slice ua T2.length uc) k ∨ k ∈ Ds ∨ k = wn.heap.size ∨ k = wn.heap.size + 1) → ¬ (fun k => A' k ∨ k = w3.heap.size ∨ k = w3.heap.size + 1) k) ∧ ∀ k, (fun k => A' k ∨ k = w3.heap.size ∨ k = w3.heap.size + 1) k → w.heap.size ≤ k ∧ k < V.heap.size) := ⟨r1, r2, r3, r4, r5⟩
      have HB3 : Hid (Below V.heap.size V (V.alloc (Obj.cells #[.int .i64 y.lo, .int .i64 y.hi, .int .i64 y.tg] 3))) := b3
      have hV7 : w2.heap.size < V.heap.size := blk_lt r1.told
      have hVx : xb < V.heap.size := blk_lt hxb
      clear r1 r2 r3 r4 r5 hT2 hPf hxb b3 HM2 HW3 HGV HR HKB2 HKL2
      gi_wp2_with (first
        | (gi_at_builtin; refine wpListIn_append_own_at _ rfl _ _ 57 rfl w.heap.size 3 ii _ 1 8 Try.underlying57 hii hz0 hz1 hz2 rfl (by omega) _ _ _ rfl hON ⟨V.heap.size, 0, none⟩ 3 3 [.int .i64 y.lo, .int .i64 y.hi, .int .i64 y.tg] rfl rfl hnw (by simp [Value.oneCell']) (by unfold maxLen; omega) (by omega) hszn ?_)
        | gi_in)
      intro v' V4 ho4 hg4 _ hat4
      obtain ⟨r1, r2, r3, r4, r5⟩ := HR1.out
      have B34 : But (fun k => (Value.slice ua T2.length uc).ownBlock = some k) V V4 := (But.of_next HB3.out).trans (but_grown hg4 (fun r h => h))
      obtain ⟨z1, z2, z3⟩ := r1.turn (nv := v') (T' := T2 ++ [y.lo, y.hi, y.tg]) B34 (by simpa [OwnI, encI] using ho4) (by
        rcases hat4 with h | h
        · exact .inl h
        · exact .inr ⟨_, h, by omega⟩)
      have hblk : ∀ k, v'.ownBlock = some k → (Value.slice ua T2.length uc).ownBlock = some k ∨ V.heap.size ≤ k := fun k hk => by
        rcases hat4 with h | h
        · exact .inl (by rw [← h]; exact hk)
        · rw [h] at hk; cases hk; exact .inr (by omega)
      have t4 : V4.cell? ⟨w2.heap.size, 0, none⟩ = some (.slice ua T2.length uc) := by rw [Lib.cell_of_heap z1]; rfl
      have tf4 : V4.frozen? ⟨w2.heap.size, 0, none⟩ = false := Lib.frozen_of_heap z1 _
      have HE : Hid (RefJ w o mb w2.heap.size sv L (.slice oa P.length oc) P Ds (.slice xa x.arcs.length xc) (.slice (some ⟨kb, ko, none⟩) c.length cc) x.acc wn.heap.size (wn.heap.size + 1) q (fun k => A' k ∨ k = w3.heap.size ∨ k = w3.heap.size + 1) (pre ++ [y]) (V4.setCell ⟨w2.heap.size, 0, none⟩ v') ∧ But (fun k => ¬ (fun k => A' k ∨ k = w3.heap.size ∨ k = w3.heap.size + 1) k) V (V4.setCell ⟨w2.heap.size, 0, none⟩ v')) := by
        refine ⟨⟨v', by rw [← HT2.out]; exact z2, r2.but z3 (fun k hk h => ?_), ⟨z2.bel, but_blk z3 r3.2.1 ?_, but_blk z3 r3.2.2 ?_⟩, fun k hk h => ?_, fun k hk => ⟨(r5 k hk).1, Nat.lt_of_lt_of_le (r5 k hk).2 z3.size⟩⟩, z3.mono (fun k _ h h2 => ?_)⟩
        · rcases h with h | h
          · obtain ⟨cs, hcs⟩ := own_is_cells r1.row h
            rw [r2.2 k hk] at hcs; cases hcs
          · have := r1.told
            rw [← h, r2.2 k hk] at this; cases this
        · rintro (h | h)
          · exact own_nb r1.row r3.2.1 (by decide) h
          · have := r1.told
            rw [← h, r3.2.1] at this; simp at this
        · rintro (h | h)
          · exact own_nb r1.row r3.2.2 (by decide) h
          · exact HNT.out h
        · rcases hk with (h1 | h1 | h1) | h1
          · exact r4 k (.inl (.inl h1)) h
          · rcases hblk k h1 with h9 | h9
            · exact r4 k (.inl (.inr (.inl h9))) h
            · have := (r5 k h).2; omega
          · exact r4 k (.inl (.inr (.inr h1))) h
          · exact r4 k (.inr h1) h
        · rcases h with h | h
          · exact r4 k (.inl (.inr (.inl h))) h2
          · exact r4 k (.inl (.inl h)) h2
      obtain ⟨ga, gc, rfl⟩ := slice_of_ownK ho4
      clear ho4 hg4 hat4 B34 z1 z2 z3 hblk r1 r2 r3 r4 r5 HR1 HB3 HT2 hnw hON
      gi_wp2
      have HE' := HE.out
      simp only [not_or] at HE'
      exact HE'
    case done =>
      intro xs V hS hI hd
      obtain ⟨tv2, r1, r2, r3, r4, r5⟩ := hI
      subst hS
      obtain ⟨T2, hT2⟩ : ∃ T2, T2 = q :: (runC (clsOf c) x.arcs).flatMap tri := ⟨_, rfl⟩
      have HKB3 := HKB2.out
      rw [← hT2] at r1 HKB3
      have HR2 : Hid (refL l c = P ++ meetL L (runesBytes T2 :: (keysL c (j + 1) (l.drop (j + 1))).map runesBytes)) := by rw [hT2]; exact HR.out
      have hlT : T2.length ≤ 700000 := by
        have h8 := HKL2.out
        rw [hT2]
        generalize runC (clsOf c) x.arcs = rr at h8
        have : (rr.flatMap tri).length = 3 * rr.length := by
          clear h8
          induction rr with
          | nil => rfl
          | cons a t ih => simp [tri, ih]; omega
        simp only [List.length_cons]
        omega
      have hts : (runesBytes T2).size ≤ 100000000 := by have := runesBytes_size_le T2; omega
      have hsl2 : SlI T2 tv2 V := sli_own r1.row (fun y hy => by have := HKB3 y hy; unfold letB at this; unfold i64B; omega)
      have C4 := textOf_any T2 tv2 V hsl2 HKB3 (by omega)
      obtain ⟨ua, uc, rfl⟩ := slice_of_ownK r1.row
      have e7 : V.cell? ⟨w2.heap.size, 0, none⟩ = some (.slice ua T2.length uc) := by rw [Lib.cell_of_heap r1.told]; rfl
      have HR1 : Hid (RefI w o mb w2.heap.size sv L (.slice oa P.length oc) P (.slice ua T2.length uc) T2 V ∧ Mk (w3.heap.size :: Ds) V ∧ ∀ d ∈ w3.heap.size :: Ds, w.heap.size ≤ d) := by
        refine ⟨r1, ⟨List.nodup_cons.2 ⟨fun h => ?_, r2.1⟩, fun d hd2 => ?_⟩, fun d hd2 => ?_⟩
        · exact r4 _ (.inr (.inl h)) (.inr (.inl rfl))
        · rcases List.mem_cons.1 hd2 with rfl | hd2
          · exact hd
          · exact r2.2 d hd2
        · rcases List.mem_cons.1 hd2 with rfl | hd2
          · exact (r5 _ (.inr (.inl rfl))).1
          · exact HM2.out.2.2.1 d hd2
      clear hsl2 r1 r2 r3 r4 r5 hT2 hd HKB3 HKB2 HKL2 HR HGV HM2 HW3 HNT HQ
      have hsp : ∀ (ds : List Nat) (dd : Nat), ({ target := Target.collected dd, args := #[] } : Deferred) :: List.map mark ds = List.map mark (dd :: ds) := fun _ _ => rfl
      rw [hsp]
      clear hsp
      gi_wp2_with fail
      refine ⟨trivial, (callsIn_wide.2 C4).mono ?_⟩
      rintro e V5 ⟨rfl, hb5⟩
      have C5 := meetS_any w.heap.size o mb sv L (runesBytes T2) V5 (HR1.out.1.ord.next hb5) hts (by omega)
      have HR5 : Hid (RefI w o mb w2.heap.size sv L (.slice oa P.length oc) P (.slice ua T2.length uc) T2 V5 ∧ Mk (w3.heap.size :: Ds) V5 ∧ ∀ d ∈ w3.heap.size :: Ds, w.heap.size ≤ d) := ⟨HR1.out.1.next hb5, HR1.out.2.1.next hb5, HR1.out.2.2⟩
      clear C4 HR1 hb5 e7
      gi_wp2_with fail
      refine ⟨trivial, (callsIn_wide.2 C5).mono ?_⟩
      rintro e V6 ⟨rfl, sv', hO6, hB6, _⟩
      have hLn : (addK L (runesBytes T2)).length ≤ j + 2 := by
        unfold addK
        split
        · omega
        · simp; omega
      have HR6 : Hid (RefI w o mb w2.heap.size sv' (addK L (runesBytes T2)) (.slice oa P.length oc) P (.slice ua T2.length uc) T2 V6 ∧ Mk (w3.heap.size :: Ds) V6 ∧ (∀ d ∈ w3.heap.size :: Ds, w.heap.size ≤ d) ∧ refL l c = (P ++ [(idxK (addK L (runesBytes T2)) (runesBytes T2) : Int)]) ++ meetL (addK L (runesBytes T2)) ((keysL c (j + 1) (l.drop (j + 1))).map runesBytes)) := by
        obtain ⟨r1, r2, r3⟩ := HR5.out
        refine ⟨r1.meet hO6 hB6, r2.but hB6 (fun k hk h => ?_), r3, by rw [HR2.out]; simp [meetL]⟩
        rcases h with h | h | h
        · have := r1.ord.box
          rw [← h, r2.2 k hk] at this; cases this
        · obtain ⟨D, ⟨es, clock, h9, _⟩, _⟩ := r1.ord.map.own
          rw [← h, r2.2 k hk] at h9; cases h9
        · obtain ⟨cs, hcs⟩ := own_is_cells r1.ord.row h
          rw [r2.2 k hk] at hcs; cases hcs
      clear C5 HR5 HR2 hO6 hB6
      generalize addK L (runesBytes T2) = L' at *
      generalize idxK L' (runesBytes T2) = z at *
      have b7 : Below V6.heap.size V6 (V6.alloc (Obj.cells #[.int .i64 z] 3)) := below_box _ _ _
      have hON : (V6.alloc (Obj.cells #[.int .i64 z] 3)).ownsRow w.heap.size 3 1 (.slice oa P.length oc) P.length (P.map encI) := own_below HR6.out.1.out b7
      have hszn : w.heap.size ≤ (V6.alloc (Obj.cells #[.int .i64 z] 3)).heap.size := Nat.le_trans HR6.out.1.bel.size b7.size
      have hnw := new_cell V6 (.int .i64 z) 3
      have HB7 : Hid (Below V6.heap.size V6 (V6.alloc (Obj.cells #[.int .i64 z] 3)) ∧ V6.heap.size < (V6.alloc (Obj.cells #[.int .i64 z] 3)).heap.size) := ⟨b7, by simp⟩
      clear b7
      gi_wp2_with (first
        | (gi_at_builtin; refine wpListIn_append_own_at _ rfl _ _ 57 rfl w.heap.size 3 ii _ 1 8 Try.underlying57 hii hz0 hz1 hz2 rfl (by omega) _ _ _ rfl hON ⟨V6.heap.size, 0, none⟩ 1 1 [.int .i64 z] rfl rfl hnw (by simp [Value.oneCell']) (by unfold maxLen; omega) (by omega) hszn ?_)
        | gi_in)
      intro v' V8 ho8 hg8 _ hat8
      have HE : Hid (RefI w o mb w2.heap.size sv' L' v' (P ++ [(z : Int)]) (.slice ua T2.length uc) T2 V8 ∧ Mk (w3.heap.size :: Ds) V8 ∧ (∀ d ∈ w3.heap.size :: Ds, w.heap.size ≤ d) ∧ T2.length ≤ 1000000 ∧ refL l c = (P ++ [(z : Int)]) ++ meetL L' ((keysL c (j + 1) (l.drop (j + 1))).map runesBytes)) := by
        obtain ⟨r1, r2, r3, r4⟩ := HR6.out
        have B8 : But (fun k => (Value.slice oa P.length oc).ownBlock = some k) V6 V8 := (But.of_next HB7.out.1).trans (but_grown hg8 (fun r h => h))
        refine ⟨r1.put B8 (by simpa [OwnI, encI] using ho8) ?_, r2.but B8 (fun k hk h => ?_), r3, by omega, r4⟩
        · rcases hat8 with h | h
          · exact .inl h
          · exact .inr ⟨_, h, by omega⟩
        · obtain ⟨cs, hcs⟩ := own_is_cells r1.out h
          rw [r2.2 k hk] at hcs; cases hcs
      obtain ⟨ga, gc, rfl⟩ := slice_of_ownK ho8
      clear ho8 hg8 hat8 HR6 HB7 hnw hON hszn
      gi_wp2
      refine ⟨l.length - (j + 1), by omega, ?_⟩
      exact ⟨_, _, _, _, _, _, _, _, _, _, _, _, _, _, _, _, _, _, _, _, _, _, _, _, _, _, _, _, _, _, _, _, _, _, _, _, _, j + 1, w3.heap.size :: Ds, sv', L', ga, gc, P ++ [(z : Int)], _, T2, P.length + 1, rfl, by simp, rfl, by omega, by simp; omega, by omega, by simpa using HE⟩
end Go.Proofs.Ytdalomibilicfaa
