/- The range over the paths of a tree's nodes. -/
import Derived.Test.YtmkkjjhlppagpaaCWalk
import Derived.Test.YtmkkjjhlppagpaaNRange
import Derived.OwnWalk
namespace Go.Proofs.Ytmkkjjhlppagpaa
open Go.RowKit Go.Shelf
attribute [local go_sem] Oper.semAt_some
attribute [local go_sem] run_store_func

theorem SlP.loop {l : List Int} {v : Value} {m : Nat} {W W' : World} (h : SlP l v W) (hb : But (fun k => k = m) W W') (hm : ∃ r, W.heap[m]? = some (.loop r)) : SlP l v W' := by
  obtain ⟨ao, c, e, h1, h2⟩ := h
  refine ⟨ao, c, e, fun i x hx => ?_, h2⟩
  obtain ⟨b, off, e1, h3, h4⟩ := h1 i x hx
  exact ⟨b, off, e1, Nat.lt_of_lt_of_le h3 hb.size, (hb.cell (p := ⟨b, off + i, none⟩) h3 (fun e => by simp only at e; subst e; exact no_cell hm _ _ h4)).trans h4⟩

set_option maxRecDepth 100000 in
set_option maxHeartbeats 4000000 in
theorem paths_gives (q d : Nat) (t : Nd) (ba : Option Addr) (bc nb : Nat) (A0 : Nat → Prop) (W : World) (hct : cntN t ≤ 5000)
    (hT : TAt A0 d t (ndV t.h (.slice ba t.kids.length bc)) W) (hr : Row7 nb 0 t.h (.slice ba t.kids.length bc) W) :
    GivesW q Try.prog 43 #[.pointer (some ⟨nb, 0, none⟩)] encP (fun W W' => W' = W) (fun xs => xs.map Prod.fst = allP [] t) (OkP (allP [] t)) A0 (fun _ => True) W := by
  intro l J St hF hPre
  show CallsIn Fence.wide q Try.prog 43 #[.func (.yield l) #[] #[], .pointer (some ⟨nb, 0, none⟩)] W _
  have hJ := hPre W rfl
  have hnb := World.block_lt_of_cell? _ _ hr.1
  simp only at hnb
  obtain ⟨r0, r1, r2, r3, r4, r5, r6⟩ := hr
  simp only [Nat.zero_add] at r1 r2 r3 r4 r5 r6
  refine callsIn_of_wp Try.func43 rfl trivial ?_ rfl
  simp only [Try.ntmps43, List.size_toArray, List.length_cons, List.length_nil, Nat.reduceAdd, Nat.reduceSub, Array.replicate_succ, Array.replicate_zero, List.push_toArray, List.append_toArray, List.nil_append, List.cons_append]
  have HT : Hid (TAt A0 d t (ndV t.h (.slice ba t.kids.length bc)) W) := hT
  clear hT hPre
  have hcp := cntN_pos t
  have hrec := fun (V : World) (hV : Below W.heap.size W V) (hy : V.cell? ⟨W.heap.size, 0, none⟩ = some (.func (.yield l) #[] #[])) (hw : V.cell? ⟨W.heap.size + 1, 0, none⟩ = some (.func (.func 44) #[] #[.pointer (some ⟨W.heap.size, 0, none⟩), .pointer (some ⟨W.heap.size + 1, 0, none⟩)])) (q' : Nat) =>
    walkP_in (q - 1) l (allP [] t) _ J St hF d t (ndV t.h (.slice ba t.kids.length bc)) (fun k => A0 k ∨ (W.heap.size ≤ k ∧ k < V.heap.size)) [] [] (.slice none 0 0) V W.heap.size (W.heap.size + 1) q' (hF.new _ _ _ _ hJ hV) ((HT.out.next hV).imp (fun _ _ h => .inl h)) (SlP.nil V) (fun k h => by cases h) (by simp only [List.length_nil]; omega) hy (.inr ⟨Nat.le_refl _, World.block_lt_of_cell? _ _ hy⟩) hw (.inr ⟨Nat.le_succ _, World.block_lt_of_cell? _ _ hw⟩) (by simp)
  have HLS : Hid (∀ (V : World) (xs : List Pl) W', J (fun k => A0 k ∨ (W.heap.size ≤ k ∧ k < V.heap.size)) xs W' → J A0 xs W') := fun V xs W' h => hF.less _ _ _ _ h (fun k hk => .inl hk)
  have HRC := hrec
  unfold ndV at hrec
  clear HRC hF hJ HT hct hcp
  generalize t.h = hd at *
  generalize t.kids.length = kl at *
  obtain ⟨zk, zn, zf, zr, zt, zb⟩ := hd
  simp only at *
  gi_wp2
  refine ⟨trivial, fun h => (by cases h), (hrec _ (((Below.refl _ _).alloc (Nat.le_refl _) _).alloc (by simp) _) (by simp) (by simp) (q - 1)).mono ?_⟩
  rintro e W5 (⟨rfl, ⟨xs, hxs, hJ5⟩, _⟩ | ⟨rfl, hSt⟩)
  · have HE : Hid (∃ xs : List Pl, xs.map Prod.fst = allP [] t ∧ J A0 xs W5) := ⟨xs, hxs, HLS.out _ _ _ hJ5⟩
    clear hrec hJ5 hxs
    gi_wp2
    go_end0
    exact ⟨⟨_, rfl⟩, .inl HE.out⟩
  · clear hrec
    gi_wp2
    go_end0
    exact ⟨⟨_, rfl⟩, .inr hSt⟩
/-- paths: the iterator, over a box that holds the tree. -/
theorem paths_any (h : Hd) (kv : Value) (w : World) :
    Calls Try.prog 38 #[ndV h kv] w fun e w' => e = .returned (.func (.func 43) #[] #[.pointer (some ⟨w.heap.size, 0, none⟩)]) ∧ Row7 w.heap.size 0 h kv w' ∧ w'.heap.size = w.heap.size + 1 ∧ Below w.heap.size w w' := by
  obtain ⟨zk, zn, zf, zr, zt, zb⟩ := h
  unfold ndV
  simp only
  go_enter Try.func38, Try.ntmps38
  go_wp2
  go_ret
  refine ⟨rfl, ?_, by simp, (Below.refl _ _).alloc (Nat.le_refl _) _⟩
  refine ⟨?_, ?_, ?_, ?_, ?_, ?_, ?_⟩ <;> simp

/-- What the loop over the nodes holds: V of what was handed out, said by the blocks D alone. -/
structure HoldsP (B : Nat) (w0 w : World) (V : List Pl → World → Prop) (D : World → Nat → Prop) (A : Nat → Prop) (pre : List Pl) (W : World) : Prop where
  v : V pre W
  b : Below B w0 W
  a : ∀ k, A k → k < W.heap.size ∧ ¬ D W k
  d : ∀ k, D W k → k ≠ w.heap.size ∧ k ≠ w.heap.size + 1
  s : w.heap.size + 2 ≤ W.heap.size
theorem range_paths {q : Nat} (hq : 1 ≤ q) {g : Operand} {ps : Array Tmp} {assign body : Code} {Q : Exit → Act → World → Prop} {a : Act} {w : World} {d : Nat} {t : Nd} {ba : Option Addr} {bc nb : Nat} {A0 : Nat → Prop} (B : Nat) (w0 : World)
    (hw0 : Below B w0 w) (hBw : B ≤ w.heap.size) (hct : cntN t ≤ 5000) (hT : TAt A0 d t (ndV t.h (.slice ba t.kids.length bc)) w) (hr : Row7 nb 0 t.h (.slice ba t.kids.length bc) w)
    (hg : a.eval g = .func (.func 43) #[] #[.pointer (some ⟨nb, 0, none⟩)]) (hps : ps.size = 1) (V : List Pl → World → Prop) (D : World → Nat → Prop) (X : World → Prop)
    (hst : ∀ pre W W', V pre W → (∀ k, k < W.heap.size → W'.heap[k]? = W.heap[k]? ∨ ∃ r, W.heap[k]? = some (.loop r)) → W.heap.size ≤ W'.heap.size → V pre W' ∧ ∀ k, D W' k → D W k)
    (hD : ∀ pre W k, V pre W → D W k → k < W.heap.size ∧ B ≤ k) (hV0 : V [] w) (hA0 : ∀ k, A0 k → k < w.heap.size ∧ ¬ D w k)
    (hX : ∀ W W', X W → But (fun k => k = w.heap.size + 1) W W' → (∃ r, W.heap[w.heap.size + 1]? = some (.loop r)) → X W')
    (Ax : Pl → Act → World → Prop) (hax : ∀ x a W W', Ax x a W → But (fun k => k = w.heap.size + 1) W W' → (∃ r, W.heap[w.heap.size + 1]? = some (.loop r)) → Ax x a W')
    (hassign : ∀ (l : Nat) (x : Pl) (W : World) (K : Act → World → Prop), SlP x.1 x.2 W → (∀ a' W', Ax x a' W' → Below W.heap.size W W' → K a' W') →
      assign.wpIn (Fence.wide.inRound l) (q - 1 - 1) Try.prog (Exit.then K (fun _ _ _ => False)) { tmps := (ps.zip (encP x)).foldl (fun t (p, v) => t.setIfInBounds p v) a.tmps, defers := [] } W)
    (hbody : ∀ (l : Nat) (A : Nat → Prop) (pre : List Pl) (x : Pl) (a' : Act) (W : World), V pre W → (∀ k, A k → ¬ D W k) → OkP (allP [] t) A pre x W → Ax x a' W → Below B w0 W → w.heap.size + 2 ≤ W.heap.size →
      body.wpIn (Fence.wide.inRound l) (q - 1 - 1) Try.prog (fun e _ W' => (e = .normal ∧ V (pre ++ [x]) W' ∧ But (D W) W W' ∧ ∀ k, D W' k → D W k ∨ W.heap.size ≤ k) ∨ (e = .ret ∧ X W' ∧ But (D W) W W')) a' W)
    (hdone : ∀ (xs : List Pl) (W : World), xs.map Prod.fst = allP [] t → V xs W → Below B w0 W → w.heap.size + 2 ≤ W.heap.size → W.heap[w.heap.size]? = some (.deferred (some [])) → Q .normal { a with defers := { target := .collected w.heap.size, args := #[] } :: a.defers } W)
    (hleft : ∀ (W : World), X W → Below B w0 W → w.heap.size + 2 ≤ W.heap.size → W.heap[w.heap.size]? = some (.deferred (some [])) → Q .ret { a with defers := { target := .collected w.heap.size, args := #[] } :: a.defers } W) :
    (Code.rangeFunc g ps assign body).wpIn Fence.wide q Try.prog Q a w := by
  refine wpIn_range_N hq (gf := 43) (lb := #[.pointer (some ⟨nb, 0, none⟩)]) hg (enters_of Try.func43 (by kernel_rfl) rfl) (encs := encP) (Pre := fun W W' => W' = W) (S := fun xs => xs.map Prod.fst = allP [] t) (Ok := fun A pre x W => OkP (allP [] t) A pre x W) (A0 := A0) (Fx := fun _ => True) (fun x => by rw [hps]; rfl)
    (fun W hb => paths_gives (q - 1) d t ba bc nb A0 W hct (hT.next hb) (hr.but (D := fun _ => False) (But.of_next hb) (World.block_lt_of_cell? _ _ hr.1) (fun h => h)))
    (HoldsP B w0 w V D) ⟨?_, ?_, ?_⟩ (fun _ _ _ _ => trivial) ?_ ?_ ?_ ?_ Ax hax (fun W => X W ∧ Below B w0 W ∧ w.heap.size + 2 ≤ W.heap.size) ?_ ?_ ?_ ?_
  · intro A pre W W' h hb
    obtain ⟨v', d'⟩ := hst pre W W' h.v (fun k hk => .inl (hb.block k hk)) hb.size
    have hs := h.s
    refine ⟨v', h.b.trans (hb.mono (by omega)), fun k hk => ?_, fun k hk => h.d k (d' k hk), Nat.le_trans h.s hb.size⟩
    rcases hk with hk | hk
    · exact ⟨Nat.lt_of_lt_of_le (h.a k hk).1 hb.size, fun hd => (h.a k hk).2 (d' k hd)⟩
    · exact ⟨hk.2, fun hd => by have := (hD pre W k h.v (d' k hd)).1; omega⟩
  · intro A pre W k h hk
    exact (h.a k hk).1
  · intro A A' pre W h hk
    exact ⟨h.v, h.b, fun k h' => h.a k (hk k h'), h.d, h.s⟩
  · intro A pre W W' h hb hA hl
    obtain ⟨v', d'⟩ := hst pre W W' h.v (fun k hk => by
      by_cases e : k = w.heap.size + 1
      · subst e; exact .inr hl
      · exact .inl (hb.block k hk e)) hb.size
    have hs := h.s
    exact ⟨v', h.b.trans (hb.below (by omega) (fun k _ e => by omega)), fun k hk => ⟨Nat.lt_of_lt_of_le (h.a k hk).1 hb.size, fun hd => (h.a k hk).2 (d' k hd)⟩, fun k hk => h.d k (d' k hk), Nat.le_trans h.s hb.size⟩
  · rintro A pre x W W' ⟨h1, h2⟩ hb hl
    exact ⟨h1.loop hb hl, h2⟩
  · rintro A pre x W W' ⟨h1, h2⟩ hb
    exact ⟨h1.next hb, h2⟩
  · rintro W W' hb hs rfl
    obtain ⟨v', d'⟩ := hst [] w W' hV0 (fun k hk => .inl (hb.block k hk)) hb.size
    refine ⟨⟨v', hw0.trans (hb.mono hBw), fun k hk => ?_, fun k hk => by have := (hD [] w k hV0 (d' k hk)).1; omega, by omega⟩, rfl, rfl⟩
    rcases hk with hk | hk | hk
    · exact ⟨Nat.lt_of_lt_of_le (hA0 k hk).1 hb.size, fun hd => (hA0 k hk).2 (d' k hd)⟩
    · exact ⟨by omega, fun hd => by have := (hD [] w k hV0 (d' k hd)).1; omega⟩
    · exact ⟨by omega, fun hd => by have := (hD [] w k hV0 (d' k hd)).1; omega⟩
  · rintro l x W K ⟨A, pre, h1, _⟩ hK
    exact hassign l x W K h1 hK
  · intro l A pre x a' W h hx hok
    refine wpIn_mono (hbody l (fun k => A k ∨ k = w.heap.size ∨ k = w.heap.size + 1) pre x a' W h.v (fun k hk => (h.a k hk).2) ⟨hok.1, fun k hk => .inl (hok.2.1 k hk), hok.2.2⟩ hx h.b h.s) ?_
    rintro e a3 W3 (⟨rfl, h1, h2, h3⟩ | ⟨rfl, h1, h2⟩)
    · have hs := h.s
      refine .inl ⟨rfl, ⟨h1, h.b.trans (h2.below (by omega) (fun k _ hk => (hD pre W k h.v hk).2)), fun k hk => ⟨Nat.lt_of_lt_of_le (h.a k hk).1 h2.size, fun hd => ?_⟩, fun k hk => ?_, Nat.le_trans h.s h2.size⟩, h2.mono (fun k _ hd hk => (h.a k hk).2 hd)⟩
      · rcases h3 k hd with h' | h'
        · exact (h.a k hk).2 h'
        · have := (h.a k hk).1; omega
      · rcases h3 k hk with h' | h'
        · exact h.d k h'
        · omega
    · have hs := h.s
      exact .inr ⟨rfl, ⟨h1, h.b.trans (h2.below (by omega) (fun k _ hk => (hD pre W k h.v hk).2)), Nat.le_trans h.s h2.size⟩, h2.mono (fun k _ hd hk => (h.a k hk).2 hd)⟩
  · intro xs W hxs h hd
    exact hdone xs W hxs h.v h.b h.s hd
  · rintro W W' ⟨h1, h2, h3⟩ hb hl hd
    exact hleft W' (hX W W' h1 hb hl) (h2.trans (hb.below (by omega) (fun k _ e => by omega))) (Nat.le_trans h3 hb.size) hd
end Go.Proofs.Ytmkkjjhlppagpaa
