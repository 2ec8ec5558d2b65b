/- Stacks: the program's Paths: copies of rows, and what is kept between its rounds. -/
import Derived.Test.YtjpbfckdiojghaaPRows
import Derived.Test.YtjpbfckdiojghaaRound
namespace Go.Proofs.Ytjpbfckdiojghaa
open Go.RowKit Go.Shelf

theorem infoR : (Try.prog.info? 33).map (fun i => (i.zero, i.size, i.bytes)) = some (some (.slice none 0 0), 1, 24) := by kernel_rfl
set_option maxRecDepth 100000 in
set_option maxHeartbeats 800000 in
theorem clone_any (xs : List Int) (v : Value) (w : World) (hs : SlI xs v w) (hne : xs ≠ []) (hl : xs.length ≤ 1000) : Calls Try.prog 36 #[v] w fun e w' => ∃ v', e = .returned v' ∧ w'.ownsRow w.heap.size 3 1 v' xs.length (xs.map encI) ∧ Below w.heap.size w w' := by
  have HS : Hid (SlI xs v w) := hs
  obtain ⟨ao, c, rfl, hr, _⟩ := hs
  obtain ⟨b, off, rfl, hb, _⟩ := hr 0 (xs[0]'(List.length_pos_iff.2 hne)) (List.getElem?_eq_getElem (List.length_pos_iff.2 hne))
  have q : ∀ (w : World) (n c n' c' : Nat), (binOp .eql 33 (.slice (some ⟨b, off, none⟩) n c) (.slice none n' c')).run Try.prog w = .ok (.bool false) w := fun w n c n' c' => Lib.run_eql_slice_nil w _ _ _ n c n' c' Try.underlying33
  clear hr
  go_enter Try.func36, Try.ntmps36
  go_wp2_with (at_builtin; refine wpList_append_sl rfl (.tmp 5) (.tmp 6) rfl w.heap.size [] xs _ _ rfl rfl (World.ownsRow_made w #[] 0 (Nat.le_refl _) (Nat.zero_le _) (by simp)) (HS.out.next ((Below.refl _ _).alloc (Nat.le_refl _) _)) (by simp; omega) (by simp) ?_)
  intro v' w1 hown hgrow hat
  go_wp2
  go_ret
  exact ⟨v', rfl, hown, ((Below.refl _ w).alloc (Nat.le_refl _) _).grown hgrow (by simp) (by intro k hk; simp [Value.ownBlock] at hk; omega)⟩

theorem SlI.but {l : List Int} {v : Value} {W W' : World} {D : Nat → Prop} (h : SlI l v W) (hb : But D W W') (hd : ∀ k, v.ownBlock = some k → ¬ D k) : SlI l v W' := by
  obtain ⟨ao, cap, h0, h1, h2⟩ := h
  refine ⟨ao, cap, h0, fun i y hy => ?_, h2⟩
  obtain ⟨b, off, e, hlt, hc⟩ := h1 i y hy
  exact ⟨b, off, e, Nat.lt_of_lt_of_le hlt hb.size, (hb.cell (p := ⟨b, off + i, none⟩) hlt (hd b (by rw [h0, e]; simp [Value.ownBlock]))).trans hc⟩
theorem SlI.blk {l : List Int} {v : Value} {W : World} (h : SlI l v W) (hl : l ≠ []) : ∀ k, v.ownBlock = some k → k < W.heap.size := by
  obtain ⟨ao, cap, rfl, h1, _⟩ := h
  obtain ⟨b, off, rfl, hlt, _⟩ := h1 0 (l[0]'(List.length_pos_iff.2 hl)) (List.getElem?_eq_getElem (List.length_pos_iff.2 hl))
  intro k hk
  have : b = k := by simpa [Value.ownBlock] using hk
  omega
theorem own_ne {W : World} {B B' n n' k k' : Nat} {e e' : TypeId} {v v' : Value} {xs xs' : List Value} (h : W.ownsRow B e k v n xs) (h' : W.ownsRow B' e' k' v' n' xs') (he : e ≠ e') {q : Nat} (hq : v.ownBlock = some q) : ¬ v'.ownBlock = some q := fun hq' => by
  rcases h.2 with ⟨rfl, _⟩ | ⟨g, _, cur, rfl, _, hg, _⟩
  · simp [Value.ownBlock] at hq
  · rcases h'.2 with ⟨rfl, _⟩ | ⟨g', _, cur', rfl, _, hg', _⟩
    · simp [Value.ownBlock] at hq'
    · simp [Value.ownBlock] at hq hq'
      rw [hq] at hg
      rw [hq', hg] at hg'
      simp at hg'
      exact he hg'.2
theorem own_blk {W : World} {B n k : Nat} {e : TypeId} {v : Value} {xs : List Value} (h : W.ownsRow B e k v n xs) {q : Nat} (hq : v.ownBlock = some q) {o : Obj} (hx : W.heap[q]? = some o) : ∃ cs, o = .cells cs e (0, 0) := by
  rcases h.2 with ⟨rfl, _⟩ | ⟨g, _, cur, rfl, _, hg, _⟩
  · simp [Value.ownBlock] at hq
  · simp [Value.ownBlock] at hq
    rw [hq, hx] at hg
    exact ⟨cur, Option.some.inj hg⟩
/-- The rows that are told: each is a copy. -/
def Told (B : Nat) (R : List (List Int)) (tv : Value) (vs : List Value) (V : World) : Prop := V.ownsRow B 33 1 tv R.length vs ∧ ∀ (i : Nat) (r : List Int) (v : Value), R[i]? = some r → vs[i]? = some v → V.ownsRow B 3 1 v r.length (r.map encI) ∧ ∀ y ∈ r, i64B y
theorem Told.nil (B : Nat) (V : World) : Told B [] (.slice none 0 0) [] V := ⟨World.ownsRow_nil V B _ 1, fun i r v h => by simp at h⟩
theorem Told.but {B : Nat} {R : List (List Int)} {tv : Value} {vs : List Value} {V V' : World} {D : Nat → Prop} (h : Told B R tv vs V) (hb : But D V V') (h1 : ∀ k, tv.ownBlock = some k → ¬ D k) (h2 : ∀ v ∈ vs, ∀ k, v.ownBlock = some k → ¬ D k) : Told B R tv vs V' :=
  ⟨ownsRow_keep h.1 hb h1, fun i r v hr hv => ⟨ownsRow_keep (h.2 i r v hr hv).1 hb (h2 v (List.mem_of_getElem? hv)), (h.2 i r v hr hv).2⟩⟩
theorem Told.len {B : Nat} {R : List (List Int)} {tv : Value} {vs : List Value} {V : World} (h : Told B R tv vs V) : vs.length = R.length := by have := h.1.1; omega
theorem Told.rows {B : Nat} {R : List (List Int)} {tv : Value} {vs : List Value} {V : World} (h : Told B R tv vs V) : SlR R tv V := by
  obtain ⟨a, c, e⟩ := slice_of_own h.1
  subst e
  have hlen := h.len
  refine ⟨a, c, rfl, fun i r hr => ?_, fun e => ?_, ?_⟩
  · have hi : i < R.length := (List.getElem?_eq_some_iff.1 hr).1
    have hv : vs[i]? = some vs[i] := List.getElem?_eq_getElem (by omega)
    rcases h.1.2 with ⟨_, e0⟩ | ⟨g, c', cur, e0, _, hg, _⟩
    · omega
    · simp at e0
      obtain ⟨rfl, rfl⟩ := e0
      refine ⟨g, 0, vs[i], rfl, blk_lt hg, ?_, ?_⟩
      · rw [World.ownsRow.cellAt h.1 (0 + i) (by omega), Nat.zero_add, hv]
      · have := h.2 i r _ hr hv
        exact sli_own (B := B) (show Own1 3 encI B r _ _ from this.1) this.2
  · subst e
    rcases h.1.2 with ⟨e0, _⟩ | ⟨_, _, _, e0, _⟩
    · simp at e0; exact e0.2
    · cases e0
  · rcases h.1.2 with ⟨e0, e1⟩ | ⟨g, c', cur, e0, _, _, hle, _⟩
    · omega
    · simp at e0; omega

/-- What is kept between the rounds of Paths. -/
structure PInv (w : World) (F : List Int) (fv : Value) (rb eb tb : Nat) (all : List (List Int)) (A : Nat → Prop) (pre : List Rv) (V : World) : Prop where
  bel : Below w.heap.size w V
  sf : SlI F fv V
  fn : ∀ k, fv.ownBlock = some k → ¬ A k ∧ k ≠ tb
  r : V.heap[rb]? = some (Obj.cells #[.slice none 0 0] 39)
  e : V.heap[eb]? = some (Obj.cells #[.int .i64 0] 40)
  told : ∃ tv vs, V.heap[tb]? = some (Obj.cells #[tv] 39) ∧ Told w.heap.size (pre.map Prod.fst) tv vs V ∧ (∀ k, tv.ownBlock = some k → ¬ A k ∧ ¬ fv.ownBlock = some k) ∧ ∀ v ∈ vs, ∀ k, v.ownBlock = some k → ¬ A k
  nr : ¬ A rb
  ne : ¬ A eb
  nt : ¬ A tb
  low : ∀ k, A k → w.heap.size ≤ k ∧ k < V.heap.size
  cnt : pre.length ≤ 4000
  pf : pre.map Prod.fst <+: all
structure PStop (w : World) (rb eb : Nat) (all : List (List Int)) (A : Nat → Prop) (V : World) : Prop where
  bel : Below w.heap.size w V
  r : V.heap[rb]? = some (Obj.cells #[.slice none 0 0] 39)
  e : V.heap[eb]? = some (Obj.cells #[.int .i64 15] 40)
  nr : ¬ A rb
  ne : ¬ A eb
  low : ∀ k, A k → w.heap.size ≤ k
  many : 4000 < all.length
theorem PInv.keep (w : World) (F : List Int) (hF : F ≠ []) (fv : Value) (rb eb tb : Nat) (all : List (List Int)) : KeepJ (FxR w F fv) (PInv w F fv rb eb tb all) (PStop w rb eb all) := by
  refine ⟨?_, ?_, ?_, ?_, ?_, ?_⟩
  · intro A pre V V' h hb
    have hnew : ∀ q, q < V.heap.size → ¬ A q → ¬ (A q ∨ (V.heap.size ≤ q ∧ q < V'.heap.size)) := fun q hq hn h => h.elim hn (fun h => by omega)
    obtain ⟨tv, vs, ht, hT, h1, h2⟩ := h.told
    have hv2 : ∀ v ∈ vs, ∀ k, v.ownBlock = some k → k < V.heap.size := fun v hv k hk => by
      obtain ⟨i, hi⟩ := List.getElem?_of_mem hv
      have hi' : i < (pre.map Prod.fst).length := by rw [← hT.len]; exact (List.getElem?_eq_some_iff.1 hi).1
      exact (World.ownsRow.lt (hT.2 i _ v (List.getElem?_eq_getElem hi') hi).1 k hk).2
    refine ⟨h.bel.trans (hb.below h.bel.size (fun k hk => (h.low k hk).1)), h.sf.but hb (fun k hk => (h.fn k hk).1), fun k hk => ⟨hnew k (h.sf.blk hF k hk) (h.fn k hk).1, (h.fn k hk).2⟩, but_blk hb h.r h.nr, but_blk hb h.e h.ne, ⟨tv, vs, but_blk hb ht h.nt, hT.but hb (fun k hk => (h1 k hk).1) h2, fun k hk => ⟨hnew k (World.ownsRow.lt hT.1 k hk).2 (h1 k hk).1, (h1 k hk).2⟩, fun v hv k hk => hnew k (hv2 v hv k hk) (h2 v hv k hk)⟩, hnew _ (blk_lt h.r) h.nr, hnew _ (blk_lt h.e) h.ne, hnew _ (blk_lt ht) h.nt, fun k hk => ?_, h.cnt, h.pf⟩
    · have := h.bel.size
      have := hb.size
      rcases hk with hk | hk
      · have := h.low k hk; omega
      · omega
  · intro A pre V k h hk
    exact (h.low k hk).2
  · intro A B pre V h hB
    obtain ⟨tv, vs, ht, hT, h1, h2⟩ := h.told
    exact ⟨h.bel, h.sf, fun k hk => ⟨fun e => (h.fn k hk).1 (hB _ e), (h.fn k hk).2⟩, h.r, h.e, ⟨tv, vs, ht, hT, fun k hk => ⟨fun e => (h1 k hk).1 (hB _ e), (h1 k hk).2⟩, fun v hv k hk e => h2 v hv k hk (hB _ e)⟩, fun e => h.nr (hB _ e), fun e => h.ne (hB _ e), fun e => h.nt (hB _ e), fun k hk => h.low k (hB _ hk), h.cnt, h.pf⟩
  · intro A pre V h
    exact ⟨h.bel, h.sf⟩
  · intro A B V h hB
    exact ⟨h.bel, h.r, h.e, fun e => h.nr (hB _ e), fun e => h.ne (hB _ e), fun k hk => h.low k (hB _ hk), h.many⟩
  · intro A V V' h hb
    exact ⟨h.bel.trans (hb.below h.bel.size h.low), but_blk hb h.r h.nr, but_blk hb h.e h.ne, h.nr, h.ne, h.low, h.many⟩
end Go.Proofs.Ytjpbfckdiojghaa
