/- The range over the nodes of a tree. -/
import Derived.Test.YtmkkjjhlppagpaaNWalk
import Derived.Test.YtmkkjjhlppagpaaRangeN
import Derived.OwnWalk
namespace Go.Proofs.Ytmkkjjhlppagpaa
open Go.RowKit Go.Shelf
attribute [local go_sem] Oper.semAt_some
theorem run_store_func {P : Program} {w : World} {a : Addr} {m : Mode} (f : Fn) (x y : Array Value) : (store a (.func f x y) m).run P w = stored P w a (.func f x y) m := run_store P w a _ m rfl
attribute [local go_sem] run_store_func

theorem no_cell {W : World} {m : Nat} (h : ∃ r, W.heap[m]? = some (.loop r)) (o : Nat) (v : Value) : W.cell? ⟨m, o, none⟩ ≠ some v := by
  obtain ⟨r, h⟩ := h
  simp [World.cell?, h]
theorem TAt.loop {A : Nat → Prop} {m : Nat} : ∀ {n : Nat} {t : Nd} {v : Value} {W W' : World}, TAt A n t v W → But (fun k => k = m) W W' → (∃ r, W.heap[m]? = some (.loop r)) → TAt A n t v W'
  | 0, _, _, _, _, h, _, _ => h.elim
  | n + 1, t, v, W, W', h, hb, hm => by
    obtain ⟨ba, bc, h0, h1, h2, h3, h4, h5⟩ := h
    refine ⟨ba, bc, h0, h1, h2, h3, h4, fun i t' ht => ?_⟩
    obtain ⟨b, off, ka, kc, e0, e1, e2, e3, e4⟩ := h5 i t' ht
    exact ⟨b, off, ka, kc, e0, e1, Nat.lt_of_lt_of_le e2 hb.size, e3.but hb e2 (fun e => no_cell hm _ _ (by rw [← e]; exact e3.1)), e4.loop hb hm⟩

set_option maxRecDepth 100000 in
set_option maxHeartbeats 4000000 in
theorem nodes_gives (q N d : Nat) (t : Nd) (ba : Option Addr) (bc nb : Nat) (A0 : Nat → Prop) (W : World) (hN : N ≤ 100000) (hct : cntN t ≤ N)
    (hT : TAt A0 d t (ndV t.h (.slice ba t.kids.length bc)) W) (hr : Row7 nb 0 t.h (.slice ba t.kids.length bc) W) :
    GivesW q Try.prog 49 #[.pointer (some ⟨nb, 0, none⟩)] encA (fun W W' => W' = W) (fun xs => xs.map stripA = preN t 1) (OkA N (preN t 1)) A0 (fun _ => True) W := by
  intro l J St hF hPre
  show CallsIn Fence.wide q Try.prog 49 #[.func (.yield l) #[] #[], .pointer (some ⟨nb, 0, none⟩)] W _
  have hJ := hPre W rfl
  have hnb := World.block_lt_of_cell? _ _ hr.1
  simp only at hnb
  obtain ⟨r0, r1, r2, r3, r4, r5, r6⟩ := hr
  simp only [Nat.zero_add] at r1 r2 r3 r4 r5 r6
  refine callsIn_of_wp Try.func49 rfl trivial ?_ rfl
  simp only [Try.ntmps49, List.size_toArray, List.length_cons, List.length_nil, Nat.reduceAdd, Nat.reduceSub, Array.replicate_succ, Array.replicate_zero, List.push_toArray, List.append_toArray, List.nil_append, List.cons_append]
  have HT : Hid (TAt A0 d t (ndV t.h (.slice ba t.kids.length bc)) W) := hT
  clear hT hPre
  have hcp := cntN_pos t
  have hrec := fun (V : World) (hV : Below W.heap.size W V) (hy : V.cell? ⟨W.heap.size, 0, none⟩ = some (.func (.yield l) #[] #[])) (hw : V.cell? ⟨W.heap.size + 1, 0, none⟩ = some (.func (.func 50) #[] #[.pointer (some ⟨W.heap.size, 0, none⟩), .pointer (some ⟨W.heap.size + 1, 0, none⟩)])) (q' : Nat) =>
    walk_in (q - 1) l N (preN t 1) hN _ J St hF d t (ndV t.h (.slice ba t.kids.length bc)) (fun k => A0 k ∨ (W.heap.size ≤ k ∧ k < V.heap.size)) [] 1 V W.heap.size (W.heap.size + 1) q' (hF.new _ _ _ _ hJ hV) ((HT.out.next hV).imp (fun _ _ h => .inl h)) hy (.inr ⟨Nat.le_refl _, World.block_lt_of_cell? _ _ hy⟩) hw (.inr ⟨Nat.le_succ _, World.block_lt_of_cell? _ _ hw⟩) (by simpa using hct) (by omega) (by omega) (by simp)
  have HLS : Hid (∀ (V : World) (xs : List Al) W', J (fun k => A0 k ∨ (W.heap.size ≤ k ∧ k < V.heap.size)) xs W' → J A0 xs W') := fun V xs W' h => hF.less _ _ _ _ h (fun k hk => .inl hk)
  have HRC := hrec
  unfold ndV at hrec
  clear HRC hF hJ HT hct hcp
  generalize t.h = hd at *
  generalize t.kids.length = kl at *
  obtain ⟨zk, zn, zf, zr, zt, zb⟩ := hd
  simp only at *
  gi_wp2
  refine ⟨trivial, fun h => (by cases h), (hrec _ (((Below.refl _ _).alloc (Nat.le_refl _) _).alloc (by simp) _) (by simp) (by simp) (q - 1)).mono ?_⟩
  rintro e W5 (⟨rfl, ⟨xs, hxs, hJ5⟩, _⟩ | ⟨rfl, hSt⟩)
  · have HE : Hid (∃ xs : List Al, xs.map stripA = preN t 1 ∧ J A0 xs W5) := ⟨xs, hxs, HLS.out _ _ _ hJ5⟩
    clear hrec hJ5 hxs
    gi_wp2
    go_end0
    exact ⟨⟨_, rfl⟩, .inl HE.out⟩
  · clear hrec
    gi_wp2
    go_end0
    exact ⟨⟨_, rfl⟩, .inr hSt⟩
/-- nodes: the iterator, over a box that holds the tree. -/
theorem nodes_any (h : Hd) (kv : Value) (w : World) :
    Calls Try.prog 47 #[ndV h kv] w fun e w' => e = .returned (.func (.func 49) #[] #[.pointer (some ⟨w.heap.size, 0, none⟩)]) ∧ Row7 w.heap.size 0 h kv w' ∧ w'.heap.size = w.heap.size + 1 ∧ Below w.heap.size w w' := by
  obtain ⟨zk, zn, zf, zr, zt, zb⟩ := h
  unfold ndV
  simp only
  go_enter Try.func47, Try.ntmps47
  go_wp2
  go_ret
  refine ⟨rfl, ?_, by simp, (Below.refl _ _).alloc (Nat.le_refl _) _⟩
  refine ⟨?_, ?_, ?_, ?_, ?_, ?_, ?_⟩ <;> simp

theorem leave_one {F : Fence} {n : Nat} {P : Program} {fn : Func} {tmps : Array Value} {R : Ending → World → Prop} {d : Nat} {W : World} {v : Value} (hd : W.heap[d]? = some (.deferred (some [])))
    (hv : (results fn tmps).run P (W.putObj d (.deferred none)) = .ok v (W.putObj d (.deferred none))) (hR : R (.returned v) (W.putObj d (.deferred none))) :
    LeavesInM F n P fn tmps R [{ target := .collected d, args := #[] }] .returning W := ⟨by simp, .inl ⟨d, _, rfl, run_takeDeferred hd, v, hv, hR⟩⟩
theorem not_deferred {W : World} {k off : Nat} {u : Value} (h : W.cell? ⟨k, off, none⟩ = some u) (hd : W.heap[k]? = some (.deferred (some []))) : False := by
  simp [World.cell?, hd] at h
/-- A cell behind the end of the loop's mark. -/
theorem cell_end {W : World} {d k off : Nat} {u : Value} (hd : W.heap[d]? = some (.deferred (some []))) (h : W.cell? ⟨k, off, none⟩ = some u) : (W.putObj d (.deferred none)).cell? ⟨k, off, none⟩ = some u :=
  ((But.putObj W d (.deferred none)).cell (p := ⟨k, off, none⟩) (World.block_lt_of_cell? _ _ h) (fun e => by simp only at e; subst e; exact not_deferred h hd)).trans h
theorem below_end {w W : World} {B d : Nat} (h : Below B w W) (hB : B ≤ d) (hs : B ≤ W.heap.size) : Below B w (W.putObj d (.deferred none)) := h.trans ((But.putObj W d (.deferred none)).below hs (fun k _ e => by omega))

/-- What the loop over the nodes holds: V of what was handed out, said by the blocks D alone. -/
structure HoldsR (B : Nat) (w0 w : World) (V : List Al → World → Prop) (D : World → Nat → Prop) (A : Nat → Prop) (pre : List Al) (W : World) : Prop where
  v : V pre W
  b : Below B w0 W
  a : ∀ k, A k → k < W.heap.size ∧ ¬ D W k
  d : ∀ k, D W k → k ≠ w.heap.size ∧ k ≠ w.heap.size + 1
  s : w.heap.size + 2 ≤ W.heap.size
theorem range_nodes {q : Nat} (hq : 1 ≤ q) {g : Operand} {ps : Array Tmp} {assign body : Code} {Q : Exit → Act → World → Prop} {a : Act} {w : World} {N d : Nat} {t : Nd} {ba : Option Addr} {bc nb : Nat} {A0 : Nat → Prop} (B : Nat) (w0 : World)
    (hw0 : Below B w0 w) (hBw : B ≤ w.heap.size) (hN : N ≤ 100000) (hct : cntN t ≤ N) (hT : TAt A0 d t (ndV t.h (.slice ba t.kids.length bc)) w) (hr : Row7 nb 0 t.h (.slice ba t.kids.length bc) w)
    (hg : a.eval g = .func (.func 49) #[] #[.pointer (some ⟨nb, 0, none⟩)]) (hps : ps.size = 2) (V : List Al → World → Prop) (D : World → Nat → Prop) (X : World → Prop)
    (hst : ∀ pre W W', V pre W → (∀ k, D W k → W'.heap[k]? = W.heap[k]?) → W.heap.size ≤ W'.heap.size → V pre W' ∧ ∀ k, D W' k → D W k)
    (hD : ∀ pre W k, V pre W → D W k → k < W.heap.size ∧ B ≤ k) (hV0 : V [] w) (hA0 : ∀ k, A0 k → k < w.heap.size ∧ ¬ D w k)
    (hX : ∀ W W', X W → But (fun k => k = w.heap.size + 1) W W' → (∃ r, W.heap[w.heap.size + 1]? = some (.loop r)) → X W')
    (Ax : Al → Act → World → Prop) (hax : ∀ x a W W', Ax x a W → But (fun k => k = w.heap.size + 1) W W' → (∃ r, W.heap[w.heap.size + 1]? = some (.loop r)) → Ax x a W')
    (hassign : ∀ (l : Nat) (x : Al) (W : World) (K : Act → World → Prop), (∃ n A, TAt A n x.1 x.2.1 W) → (∀ a' W', Ax x a' W' → Below W.heap.size W W' → K a' W') →
      assign.wpIn (Fence.wide.inRound l) (q - 1 - 1) Try.prog (Exit.then K (fun _ _ _ => False)) { tmps := (ps.zip (encA x)).foldl (fun t (p, v) => t.setIfInBounds p v) a.tmps, defers := [] } W)
    (hbody : ∀ (l : Nat) (A : Nat → Prop) (pre : List Al) (x : Al) (a' : Act) (W : World), V pre W → (∀ k, A k → ¬ D W k) → OkA N (preN t 1) A pre x W → Ax x a' W → Below B w0 W → w.heap.size + 2 ≤ W.heap.size →
      body.wpIn (Fence.wide.inRound l) (q - 1 - 1) Try.prog (fun e _ W' => (e = .normal ∧ V (pre ++ [x]) W' ∧ But (D W) W W' ∧ ∀ k, D W' k → D W k ∨ W.heap.size ≤ k) ∨ (e = .ret ∧ X W' ∧ But (D W) W W')) a' W)
    (hdone : ∀ (xs : List Al) (W : World), xs.map stripA = preN t 1 → V xs W → Below B w0 W → w.heap.size + 2 ≤ W.heap.size → W.heap[w.heap.size]? = some (.deferred (some [])) → Q .normal { a with defers := { target := .collected w.heap.size, args := #[] } :: a.defers } W)
    (hleft : ∀ (W : World), X W → Below B w0 W → w.heap.size + 2 ≤ W.heap.size → W.heap[w.heap.size]? = some (.deferred (some [])) → Q .ret { a with defers := { target := .collected w.heap.size, args := #[] } :: a.defers } W) :
    (Code.rangeFunc g ps assign body).wpIn Fence.wide q Try.prog Q a w := by
  refine wpIn_range_N hq (gf := 49) (lb := #[.pointer (some ⟨nb, 0, none⟩)]) hg (enters_of Try.func49 (by kernel_rfl) rfl) (encs := encA) (Pre := fun W W' => W' = W) (S := fun xs => xs.map stripA = preN t 1) (Ok := fun A pre x W => OkA N (preN t 1) A pre x W) (A0 := A0) (Fx := fun _ => True) (fun x => by rw [hps]; rfl)
    (fun W hb => nodes_gives (q - 1) N d t ba bc nb A0 W hN hct (hT.next hb) (hr.but (D := fun _ => False) (But.of_next hb) (World.block_lt_of_cell? _ _ hr.1) (fun h => h)))
    (HoldsR B w0 w V D) ⟨?_, ?_, ?_⟩ (fun _ _ _ _ => trivial) ?_ ?_ ?_ ?_ Ax hax (fun W => X W ∧ Below B w0 W ∧ w.heap.size + 2 ≤ W.heap.size) ?_ ?_ ?_ ?_
  · intro A pre W W' h hb
    obtain ⟨v', d'⟩ := hst pre W W' h.v (fun k hk => hb.block k (hD pre W k h.v hk).1) hb.size
    have hs := h.s
    refine ⟨v', h.b.trans (hb.mono (by omega)), fun k hk => ?_, fun k hk => h.d k (d' k hk), Nat.le_trans h.s hb.size⟩
    rcases hk with hk | hk
    · exact ⟨Nat.lt_of_lt_of_le (h.a k hk).1 hb.size, fun hd => (h.a k hk).2 (d' k hd)⟩
    · exact ⟨hk.2, fun hd => by have := (hD pre W k h.v (d' k hd)).1; omega⟩
  · intro A pre W k h hk
    exact (h.a k hk).1
  · intro A A' pre W h hk
    exact ⟨h.v, h.b, fun k h' => h.a k (hk k h'), h.d, h.s⟩
  · intro A pre W W' h hb hA hl
    obtain ⟨v', d'⟩ := hst pre W W' h.v (fun k hk => hb.block k (hD pre W k h.v hk).1 (h.d k hk).2) hb.size
    have hs := h.s
    exact ⟨v', h.b.trans (hb.below (by omega) (fun k _ e => by omega)), fun k hk => ⟨Nat.lt_of_lt_of_le (h.a k hk).1 hb.size, fun hd => (h.a k hk).2 (d' k hd)⟩, fun k hk => h.d k (d' k hk), Nat.le_trans h.s hb.size⟩
  · rintro A pre x W W' ⟨⟨n, h1⟩, h2⟩ hb hl
    exact ⟨⟨n, h1.loop hb hl⟩, h2⟩
  · rintro A pre x W W' ⟨⟨n, h1⟩, h2⟩ hb
    exact ⟨⟨n, h1.next hb⟩, h2⟩
  · rintro W W' hb hs rfl
    obtain ⟨v', d'⟩ := hst [] w W' hV0 (fun k hk => hb.block k (hD [] w k hV0 hk).1) hb.size
    refine ⟨⟨v', hw0.trans (hb.mono hBw), fun k hk => ?_, fun k hk => by have := (hD [] w k hV0 (d' k hk)).1; omega, by omega⟩, rfl, rfl⟩
    rcases hk with hk | hk | hk
    · exact ⟨Nat.lt_of_lt_of_le (hA0 k hk).1 hb.size, fun hd => (hA0 k hk).2 (d' k hd)⟩
    · exact ⟨by omega, fun hd => by have := (hD [] w k hV0 (d' k hd)).1; omega⟩
    · exact ⟨by omega, fun hd => by have := (hD [] w k hV0 (d' k hd)).1; omega⟩
  · rintro l x W K ⟨A, pre, ⟨n, h1⟩, _⟩ hK
    exact hassign l x W K ⟨n, A, h1⟩ hK
  · intro l A pre x a' W h hx hok
    refine wpIn_mono (hbody l (fun k => A k ∨ k = w.heap.size ∨ k = w.heap.size + 1) pre x a' W h.v (fun k hk => (h.a k hk).2) ⟨⟨_, hok.1.choose_spec.imp (fun _ _ h => .inl h)⟩, hok.2⟩ hx h.b h.s) ?_
    rintro e a3 W3 (⟨rfl, h1, h2, h3⟩ | ⟨rfl, h1, h2⟩)
    · have hs := h.s
      refine .inl ⟨rfl, ⟨h1, h.b.trans (h2.below (by omega) (fun k _ hk => (hD pre W k h.v hk).2)), fun k hk => ⟨Nat.lt_of_lt_of_le (h.a k hk).1 h2.size, fun hd => ?_⟩, fun k hk => ?_, Nat.le_trans h.s h2.size⟩, h2.mono (fun k _ hd hk => (h.a k hk).2 hd)⟩
      · rcases h3 k hd with h' | h'
        · exact (h.a k hk).2 h'
        · have := (h.a k hk).1; omega
      · rcases h3 k hk with h' | h'
        · exact h.d k h'
        · omega
    · have hs := h.s
      exact .inr ⟨rfl, ⟨h1, h.b.trans (h2.below (by omega) (fun k _ hk => (hD pre W k h.v hk).2)), Nat.le_trans h.s h2.size⟩, h2.mono (fun k _ hd hk => (h.a k hk).2 hd)⟩
  · intro xs W hxs h hd
    exact hdone xs W hxs h.v h.b h.s hd
  · rintro W W' ⟨h1, h2, h3⟩ hb hl hd
    exact hleft W' (hX W W' h1 hb hl) (h2.trans (hb.below (by omega) (fun k _ e => by omega))) (Nat.le_trans h3 hb.size) hd
end Go.Proofs.Ytmkkjjhlppagpaa
