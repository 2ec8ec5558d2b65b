/- All. -/
import Derived.Test.YtmkkjjhlppagpaaCPaths
import Derived.Test.YtmkkjjhlppagpaaRCount
import Derived.Test.YtmkkjjhlppagpaaRAside
import Derived.Maps.OwnIn
namespace Go.Proofs.Ytmkkjjhlppagpaa
open Go.RowKit Go.Shelf
attribute [local go_sem] Oper.semAt_some
attribute [local go_sem] run_store_func

theorem infoRow : (Try.prog.info? 25).map (fun i => (i.zero, i.size, i.bytes)) = some (some (.slice none 0 0), 1, 24) := by kernel_rfl
theorem ownsRow_slice {W : World} {B n : Nat} {e : TypeId} {v : Value} {xs : List Value} (h : W.ownsRow B e 1 v n xs) : ∃ a c, v = .slice a n c := by
  rcases h.2 with ⟨rfl, hn⟩ | ⟨g, cap, cur, rfl, _⟩
  · exact ⟨none, 0, by rw [hn]⟩
  · exact ⟨_, _, rfl⟩
theorem SlP.but2 {l : List Int} {v : Value} {W W' : World} {D : Nat → Prop} (h : SlP l v W) (hb : But D W W') (hd : l ≠ [] → ∀ k, v.ownBlock = some k → ¬ D k) : SlP l v W' := by
  obtain ⟨ao, c, e, h1, h2⟩ := h
  refine ⟨ao, c, e, fun i x hx => ?_, h2⟩
  obtain ⟨b, off, e1, h3, h4⟩ := h1 i x hx
  exact ⟨b, off, e1, Nat.lt_of_lt_of_le h3 hb.size, (hb.cell (p := ⟨b, off + i, none⟩) h3 (hd (by rintro rfl; simp at hx) b (by rw [e, e1]; rfl))).trans h4⟩
theorem SlP.lt {l : List Int} {v : Value} {W : World} (h : SlP l v W) (hl : l ≠ []) : ∀ k, v.ownBlock = some k → k < W.heap.size := fun k hk => by
  obtain ⟨ao, c, e, h1, _⟩ := h
  obtain ⟨x, l', rfl⟩ := List.exists_cons_of_ne_nil hl
  obtain ⟨b, off, e1, h3, _⟩ := h1 0 x rfl
  rw [e, e1] at hk
  have : b = k := by simpa [Value.ownBlock] using hk
  omega
/-- A row of paths of one's own; the paths lie beside it. -/
structure OwnPP (B : Nat) (L : List Pl) (v : Value) (W : World) : Prop where
  own : W.ownsRow B 25 1 v L.length (L.map Prod.snd)
  sl : ∀ x ∈ L, SlP x.1 x.2 W
  ap : ∀ x ∈ L, x.1 ≠ [] → ∀ k, x.2.ownBlock = some k → v.ownBlock ≠ some k
theorem OwnPP.nil (B : Nat) (W : World) : OwnPP B [] (.slice none 0 0) W := ⟨World.ownsRow_nil _ _ _ _, by simp, by simp⟩
theorem OwnPP.next {B : Nat} {L : List Pl} {v : Value} {W W' : World} (h : OwnPP B L v W) (hb : Below W.heap.size W W') : OwnPP B L v W' :=
  ⟨ownsRow_next h.own hb, fun x hx => (h.sl x hx).next hb, h.ap⟩
theorem OwnPP.but {B : Nat} {L : List Pl} {v : Value} {W W' : World} {D : Nat → Prop} (h : OwnPP B L v W) (hb : But D W W') (h1 : ∀ k, v.ownBlock = some k → ¬ D k) (h2 : ∀ x ∈ L, x.1 ≠ [] → ∀ k, x.2.ownBlock = some k → ¬ D k) : OwnPP B L v W' :=
  ⟨ownsRow_but h.own hb h1, fun x hx => (h.sl x hx).but2 hb (h2 x hx), h.ap⟩
theorem OwnPP.base {B C : Nat} {L : List Pl} {v : Value} {W : World} (h : OwnPP B L v W) (hC : C ≤ B) : OwnPP C L v W := ⟨own_base h.own hC, h.sl, h.ap⟩
/-- Behind an append of one. -/
theorem OwnPP.snoc {B : Nat} {L : List Pl} {v v' : Value} {W W' : World} {x : Pl} (h : OwnPP B L v W) (ho : W'.ownsRow B 25 1 v' (L.length + 1) (L.map Prod.snd ++ [x.2])) (hg : W.grownBy W' v.ownBlock) (hk : ∀ k, v'.ownBlock = some k → v.ownBlock = some k ∨ W.heap.size ≤ k)
    (hx : SlP x.1 x.2 W) (hxv : x.1 ≠ [] → ∀ k, x.2.ownBlock = some k → v.ownBlock ≠ some k) : OwnPP B (L ++ [x]) v' W' := by
  have hb : But (fun k => v.ownBlock = some k) W W' := but_grown hg
  have all : ∀ y ∈ L ++ [x], SlP y.1 y.2 W ∧ (y.1 ≠ [] → ∀ k, y.2.ownBlock = some k → v.ownBlock ≠ some k) := fun y hy => by
    rcases List.mem_append.1 hy with hy | hy
    · exact ⟨h.sl y hy, h.ap y hy⟩
    · rw [List.mem_singleton] at hy; subst hy; exact ⟨hx, hxv⟩
  refine ⟨by rw [List.map_append, List.length_append]; exact ho, fun y hy => (all y hy).1.but2 hb (fun hn k hk2 hD => (all y hy).2 hn k hk2 hD), fun y hy hn k hk2 e => ?_⟩
  rcases hk k e with h' | h'
  · exact (all y hy).2 hn k hk2 h'
  · have := (all y hy).1.lt hn k hk2; omega
/-- Behind the end of a loop's mark. -/
theorem OwnPP.mark {B d : Nat} {L : List Pl} {v : Value} {W : World} (h : OwnPP B L v W) (hd : W.heap[d]? = some (.deferred (some []))) : OwnPP B L v (W.putObj d (.deferred none)) := by
  refine h.but (But.putObj W d (.deferred none)) (fun k hk e => ?_) (fun x hx hn k hk e => ?_)
  · subst e
    rcases h.own.2 with ⟨rfl, _⟩ | ⟨g, cap, cur, rfl, hB, hg, _⟩
    · cases hk
    · have hgP : g = k := by simpa [Value.ownBlock] using hk
      rw [hgP, hd] at hg
      cases hg
  · subst e
    obtain ⟨ao, c, e, h1, _⟩ := h.sl x hx
    obtain ⟨y, l', hl⟩ := List.exists_cons_of_ne_nil hn
    obtain ⟨b, off, e1, _, h4⟩ := h1 0 y (by rw [hl]; rfl)
    rw [e, e1] at hk
    have : b = k := by simpa [Value.ownBlock] using hk
    subst this
    exact not_deferred h4 hd
/-- What the loop over the paths holds. -/
structure VP (B P : Nat) (pre : List Pl) (W : World) : Prop where
  bx : ∃ v, W.heap[P]? = some (.cells #[v] 33 (0, 0)) ∧ OwnPP B pre v W
  ap : ∀ x ∈ pre, x.1 ≠ [] → ∀ k, x.2.ownBlock = some k → k ≠ P
def KeepH (W W' : World) : Prop := ∀ k, k < W.heap.size → W'.heap[k]? = W.heap[k]? ∨ ∃ r, W.heap[k]? = some (.loop r)
theorem KeepH.cells {W W' : World} (he : KeepH W W') {k : Nat} {cs : Array Value} {T : TypeId} {z : Nat × Nat} (h : W.heap[k]? = some (.cells cs T z)) : W'.heap[k]? = some (.cells cs T z) := by
  rcases he k (Array.getElem?_eq_some_iff.1 h).1 with e | ⟨r, e⟩
  · rw [e, h]
  · rw [h] at e; cases e
theorem KeepH.cell {W W' : World} (he : KeepH W W') {b off : Nat} {x : Value} (h : W.cell? ⟨b, off, none⟩ = some x) : W'.cell? ⟨b, off, none⟩ = some x := by
  rcases he b (World.block_lt_of_cell? _ _ h) with e | e
  · rw [World.cell?_of_block e, h]
  · exact absurd h (no_cell e _ _)
theorem SlP.keep {l : List Int} {v : Value} {W W' : World} (h : SlP l v W) (he : KeepH W W') (hs : W.heap.size ≤ W'.heap.size) : SlP l v W' := by
  obtain ⟨ao, c, e, h1, h2⟩ := h
  refine ⟨ao, c, e, fun i x hx => ?_, h2⟩
  obtain ⟨b, off, e1, h3, h4⟩ := h1 i x hx
  exact ⟨b, off, e1, Nat.lt_of_lt_of_le h3 hs, he.cell h4⟩
theorem OwnPP.keep {B : Nat} {L : List Pl} {v : Value} {W W' : World} (h : OwnPP B L v W) (he : KeepH W W') (hs : W.heap.size ≤ W'.heap.size) : OwnPP B L v W' := by
  refine ⟨⟨h.own.1, ?_⟩, fun x hx => (h.sl x hx).keep he hs, h.ap⟩
  rcases h.own.2 with h1 | ⟨g, cap, cur, hv, hB, hg, h3⟩
  · exact .inl h1
  · exact .inr ⟨g, cap, cur, hv, hB, he.cells hg, h3⟩
def DP (P : Nat) (W : World) (k : Nat) : Prop := k = P ∨ ∃ v, W.heap[P]? = some (.cells #[v] 33 (0, 0)) ∧ v.ownBlock = some k
theorem VP.keep {B P : Nat} {pre : List Pl} {W W' : World} (h : VP B P pre W) (he : KeepH W W') (hs : W.heap.size ≤ W'.heap.size) : VP B P pre W' ∧ ∀ k, DP P W' k → DP P W k := by
  obtain ⟨v, hb, ho⟩ := h.bx
  have hb' := he.cells hb
  refine ⟨⟨⟨v, hb', ho.keep he hs⟩, h.ap⟩, fun k hk => ?_⟩
  rcases hk with hk | ⟨v', h1, h2⟩
  · exact .inl hk
  · rw [hb'] at h1
    have e : (Obj.cells #[v] 33 (0, 0)) = Obj.cells #[v'] 33 (0, 0) := Option.some.inj h1
    injection e with e
    have : v = v' := by injection e with e; injection e
    subst this
    exact .inr ⟨v, hb, h2⟩
theorem VP.dom {B P : Nat} {pre : List Pl} {W : World} (h : VP B P pre W) (hP : B ≤ P) {k : Nat} (hk : DP P W k) : k < W.heap.size ∧ B ≤ k := by
  obtain ⟨v, hb, ho⟩ := h.bx
  rcases hk with rfl | ⟨v', h1, h2⟩
  · exact ⟨(Array.getElem?_eq_some_iff.1 hb).1, hP⟩
  · rw [hb] at h1
    have e : (Obj.cells #[v] 33 (0, 0)) = Obj.cells #[v'] 33 (0, 0) := Option.some.inj h1
    injection e with e
    have : v = v' := by injection e with e; injection e
    subst this
    have := World.ownsRow.lt ho.own k h2
    exact ⟨this.2, this.1⟩
theorem row_not_box {W : World} {B n P : Nat} {v u : Value} {xs : List Value} (h : W.ownsRow B 25 1 v n xs) (hb : W.heap[P]? = some (.cells #[u] 33 (0, 0))) : v.ownBlock ≠ some P := fun e => by
  rcases h.2 with ⟨rfl, _⟩ | ⟨g, cap, cur, rfl, hB, hg, _⟩
  · cases e
  · have hgP : g = P := by simpa [Value.ownBlock] using e
    rw [hgP, hb] at hg
    have e2 : (Obj.cells #[u] 33 (0, 0)) = Obj.cells cur 25 (0, 0) := Option.some.inj hg
    injection e2 with _ e2
    cases e2
theorem VP.step {B P : Nat} {pre : List Pl} {x : Pl} {W W3 V4 : World} {v v' : Value} (h : VP B P pre W) (hbx : W.heap[P]? = some (.cells #[v] 33 (0, 0))) (ho : OwnPP B pre v W) (hx : SlP x.1 x.2 W)
    (hxA : x.1 ≠ [] → ∀ k, x.2.ownBlock = some k → v.ownBlock ≠ some k ∧ k ≠ P) (hB : Below W.heap.size W W3) (ho4 : V4.ownsRow B 25 1 v' (pre.length + 1) (pre.map Prod.snd ++ [x.2])) (hg : W3.grownBy V4 v.ownBlock)
    (hat : v'.ownBlock = v.ownBlock ∨ v'.ownBlock = some W3.heap.size) :
    VP B P (pre ++ [x]) (V4.setCell ⟨P, 0, none⟩ v') ∧ But (DP P W) W (V4.setCell ⟨P, 0, none⟩ v') ∧ (∀ k, DP P (V4.setCell ⟨P, 0, none⟩ v') k → DP P W k ∨ W.heap.size ≤ k) ∧ V4.cell? ⟨P, 0, none⟩ = some v ∧ V4.frozen? ⟨P, 0, none⟩ = false := by
  have hPl : P < W.heap.size := (Array.getElem?_eq_some_iff.1 hbx).1
  have hc3 := (hB.block P hPl).trans hbx
  have hbs := hB.size
  have hc4 : V4.heap[P]? = some (.cells #[v] 33 (0, 0)) := (hg.block P (by omega) (fun e => row_not_box ho.own hbx e.symm)).trans hc3
  have hs : (V4.setCell ⟨P, 0, none⟩ v').heap[P]? = some (.cells #[v'] 33 (0, 0)) := by simpa using heap_set (o := 0) v' hc4
  have h4 : OwnPP B (pre ++ [x]) v' V4 := OwnPP.snoc (ho.next hB) ho4 hg (fun k hk => by
    rcases hat with e | e
    · rw [e] at hk; exact .inl hk
    · rw [e] at hk
      have : W3.heap.size = k := by simpa using hk
      exact .inr (by omega)) (hx.next hB) (fun hn k hk => (hxA hn k hk).1)
  have hap : ∀ y ∈ pre ++ [x], y.1 ≠ [] → ∀ k, y.2.ownBlock = some k → k ≠ P := fun y hy hn k hk => by
    rcases List.mem_append.1 hy with hy | hy
    · exact h.ap y hy hn k hk
    · rw [List.mem_singleton] at hy; subst hy; exact (hxA hn k hk).2
  have hbt : But (fun k => k = P) V4 (V4.setCell ⟨P, 0, none⟩ v') := (But.refl _ _).setCell _ _ _ rfl
  refine ⟨⟨⟨v', hs, h4.but hbt (fun k hk e => row_not_box ho4 hc4 (by rw [hk, e])) (fun y hy hn k hk e => hap y hy hn k hk e)⟩, hap⟩, ?_, ?_, by simp [World.cell?, hc4], by simp [World.frozen?, hc4]⟩
  · refine (But.of_next hB).trans (((but_grown hg).mono (fun k _ hk => .inr ⟨v, hbx, hk⟩)).trans (hbt.mono (fun k _ hk => .inl hk)))
  · rintro k (hk | ⟨u, h1, h2⟩)
    · exact .inl (.inl hk)
    · rw [hs] at h1
      have e : (Obj.cells #[v'] 33 (0, 0)) = Obj.cells #[u] 33 (0, 0) := Option.some.inj h1
      injection e with e
      have : v' = u := by injection e with e; injection e
      subst this
      rcases hat with e | e
      · rw [e] at h2; exact .inl (.inr ⟨v, hbx, h2⟩)
      · rw [e] at h2
        have : W3.heap.size = k := by simpa using h2
        exact .inr (by omega)

set_option maxRecDepth 100000 in
set_option maxHeartbeats 8000000 in
theorem all_any {A : Nat → Prop} (n : Nat) (t : Nd) (v : Value) (w : World) (h : TAt A n t v w) (hc : cntN t ≤ 5000) :
    Calls Try.prog 23 #[v] w fun e w' => ∃ (L : List Pl) (rv : Value), L.map Prod.fst = allP [] t ∧ e = .returned rv ∧ OwnPP w.heap.size L rv w' ∧ Below w.heap.size w w' := by
  obtain ⟨ba, bc, rfl, hkl⟩ := h.val
  have HT : Hid (∀ W, Below w.heap.size w W → TAt (fun k => k < w.heap.size) n t (ndV t.h (.slice ba t.kids.length bc)) W) := fun W hb => (h.imp (B := fun k => k < w.heap.size) (fun k hk _ => hk)).next hb
  have HCT : Hid (∀ W, Below w.heap.size w W → Calls Try.prog 37 #[ndV t.h (.slice ba t.kids.length bc)] W fun e w' => (∃ a d : Int, 1 ≤ a ∧ a ≤ 5000 ∧ 0 ≤ d ∧ d ≤ 5000 ∧ e = .returned (.tuple #[.int .i64 a, .int .i64 d])) ∧ Below W.heap.size W w') := fun W hb => (count_any n t _ W (h.next hb) hc).mono (fun e w' ⟨xs, h1, h2, h3⟩ => by
    have e1 : xs.length = cntN t := by have := congrArg List.length h1; rw [List.length_map, preN_len] at this; exact this
    have e2 := maxD_deepR h1
    have e3 := deepR_cnt t
    have e4 := deepRL_pos t.kids
    have e5 := deepR_mk t
    have e6 := cntN_pos t
    exact ⟨⟨_, _, by omega, by omega, by omega, by omega, h2⟩, h3⟩)
  clear h
  refine (callsIn_wide (n := 9)).1 (callsIn_of_wp_marks Try.func23 rfl trivial ?_ rfl)
  simp only [Try.ntmps23, List.size_toArray, List.length_cons, List.length_nil, Nat.reduceAdd, Nat.reduceSub, Array.replicate_succ, Array.replicate_zero, List.push_toArray, List.append_toArray, List.nil_append, List.cons_append]
  have HPA : Hid (∀ w, _) := paths_any t.h (.slice ba t.kids.length bc)
  have HC : Hid (cntN t ≤ 5000) := hc
  obtain ⟨hd, hhd⟩ : ∃ hd, t.h = hd := ⟨_, rfl⟩
  obtain ⟨kl, hkl2⟩ : ∃ kl, t.kids.length = kl := ⟨_, rfl⟩
  have HE : Hid (t.h = hd ∧ t.kids.length = kl) := ⟨hhd, hkl2⟩
  rw [hhd, hkl2] at HPA HCT
  rw [hhd, hkl2]
  rw [hkl2] at hkl
  clear hhd hkl2 hc
  obtain ⟨zk, zn, zf, zr, zt, zb⟩ := hd
  unfold ndV at HPA HCT ⊢
  simp only at HPA HCT ⊢
  have hB0 : Below w.heap.size w (w.alloc (Obj.cells #[.string zk, .bool zn, .string zf, .int .i64 zr, .int .i64 zt, .int .i64 zb, .slice ba kl bc] 24)) := (Below.refl _ _).alloc (Nat.le_refl _) _
  have hb0 := World.alloc_heap_new w (Obj.cells #[.string zk, .bool zn, .string zf, .int .i64 zr, .int .i64 zt, .int .i64 zb, .slice ba kl bc] 24)
  have hct := HCT.out _ hB0
  have hs0 : (w.alloc (Obj.cells #[.string zk, .bool zn, .string zf, .int .i64 zr, .int .i64 zt, .int .i64 zb, .slice ba kl bc] 24)).heap.size = w.heap.size + 1 := by simp
  have HB0 : Hid _ := hB0
  gi_wp2
  refine ⟨trivial, (callsIn_wide.2 hct).mono ?_⟩
  rintro e w1 ⟨⟨a, d, ha1, ha2, hd1, hd2, rfl⟩, hb1⟩
  have HB1 : Hid (Below w.heap.size w w1) := below_next HB0.out hb1
  have hbx := (hb1.block w.heap.size (by omega)).trans hb0
  have HBX : Hid _ := hbx
  obtain ⟨v0, v1, v2, v3, v4, v5, v6⟩ := cells7_at hbx
  clear hct hb1 hb0 hs0 hbx hB0
  have k1 : ¬ a = 0 := by omega
  obtain ⟨ad, had⟩ : ∃ ad, a * d = ad := ⟨_, rfl⟩
  have hm1 : 0 ≤ ad := by rw [← had]; exact Int.mul_nonneg (by omega) hd1
  have hm2 : ad ≤ 25000000 := by rw [← had]; calc a * d ≤ 5000 * 5000 := Int.mul_le_mul ha2 hd2 hd1 (by decide)
    _ = 25000000 := by decide
  have hw1 : IntKind.i64.wrap (a * d) = ad := by rw [had]; exact IntWalk.i64_in _ (by omega)
  have k2 : (a == 0) = false := by simpa using k1
  have k3 : decide ((33554432 : Int) < ad) = false := decide_eq_false (by omega)
  clear k1
  clear had v0 v1 v2 v3 v4 v5 v6
  have hB2 : Below w1.heap.size w1 (w1.alloc (Obj.cells #[.slice none 0 0] 33)) := (Below.refl _ _).alloc (Nat.le_refl _) _
  have hwl : w.heap.size < w1.heap.size := (Array.getElem?_eq_some_iff.1 HBX.out).1
  have hbx2 := (hB2.block _ hwl).trans HBX.out
  obtain ⟨v0, v1, v2, v3, v4, v5, v6⟩ := cells7_at hbx2
  have hal := World.alloc_heap_new w1 (Obj.cells #[.slice none 0 0] 33)
  have HB2 : Hid (Below w.heap.size w (w1.alloc (Obj.cells #[.slice none 0 0] 33))) := below_next HB1.out hB2
  have hz2 : (w1.alloc (Obj.cells #[.slice none 0 0] 33)).heap.size = w1.heap.size + 1 := by simp
  have hpa := HPA.out (w1.alloc (Obj.cells #[.slice none 0 0] 33))
  clear hB2 hbx2
  gi_wp2
  refine ⟨trivial, (callsIn_wide.2 hpa).mono ?_⟩
  generalize w1.alloc (Obj.cells #[.slice none 0 0] 33) = W2 at *
  rintro e w3 ⟨rfl, hr7, hsz, hb3⟩
  have HB3 : Hid (Below w.heap.size w w3) := below_next HB2.out hb3
  have hal3 := (hb3.block _ (by omega)).trans hal
  obtain ⟨P, HP⟩ : ∃ P, Hid (P = w1.heap.size) := ⟨_, rfl⟩
  rw [← HP.out] at hal3 hz2 hwl ⊢
  have hr : Row7 W2.heap.size 0 t.h (.slice ba t.kids.length bc) w3 := by
    rw [HE.out.1, HE.out.2]
    exact hr7
  rw [hz2] at hr
  have hT3 := HT.out w3 HB3.out
  have HPW : Hid (w.heap.size < P ∧ P < w3.heap.size ∧ w3.heap.size = P + 2) := ⟨hwl, by omega, by omega⟩
  have HZ2 : Hid (W2.heap.size = P + 1) := hz2
  rw [hz2]
  clear v0 v1 v2 v3 v4 v5 v6 hpa hal hr7 HPA HCT hz2 hb3 hsz
  gi_wp2
  have hpw := HPW.out
  refine range_paths (q := 9) (by omega) (A0 := fun k => k < w.heap.size) w.heap.size w HB3.out (by omega) HC.out hT3 hr rfl rfl (VP w.heap.size P) (DP P) (fun _ => False) (fun pre W W' hv he hs => VP.keep hv he hs) (fun pre W k hv hk => VP.dom hv (by omega) hk) ⟨⟨_, hal3, OwnPP.nil _ _⟩, by simp⟩ (fun k hk => ⟨by omega, fun hd => ?_⟩) (fun W W' h => h.elim)
    (fun x a' _ => a' = { tmps := #[Value.agg #[Value.string zk, Value.bool zn, Value.string zf, Value.int IntKind.i64 zr, Value.int IntKind.i64 zt, Value.int IntKind.i64 zb, Value.slice ba kl bc], Value.pointer (some ⟨w.heap.size, 0, none⟩), Value.slice none 0 0, Value.int IntKind.i64 a, Value.int IntKind.i64 d, Value.pointer (some ⟨P, 0, none⟩), x.2, Value.tuple #[Value.int IntKind.i64 a, Value.int IntKind.i64 d], Value.agg #[Value.string zk, Value.bool zn, Value.string zf, Value.int IntKind.i64 zr, Value.int IntKind.i64 zt, Value.int IntKind.i64 zb, Value.slice ba kl bc], Value.tuple #[Value.int IntKind.i64 a, Value.int IntKind.i64 d], Value.int IntKind.i64 a, Value.int IntKind.i64 d, Value.int IntKind.i64 a, Value.bool false, Value.bool false, Value.int IntKind.i64 a, Value.int IntKind.i64 d, Value.int IntKind.i64 ad, Value.bool false, Value.bool false, Value.agg #[Value.string zk, Value.bool zn, Value.string zf, Value.int IntKind.i64 zr, Value.int IntKind.i64 zt, Value.int IntKind.i64 zb, Value.slice ba kl bc], Value.func (Fn.func 43) #[] #[Value.pointer (some ⟨P + 1, 0, none⟩)], x.2, undef, undef, undef, undef, undef], defers := [] }) (fun x a' W W' h _ _ => h) ?_ ?_ ?_ (fun W h => h.elim)
  · rcases hd with rfl | ⟨v, h1, h2⟩
    · omega
    · rw [hal3] at h1
      injection h1 with h1
      injection h1 with h1
      have : (Value.slice none 0 0) = v := by injection h1 with h1; injection h1
      subst this
      cases h2
  · rintro l ⟨xp, xv⟩ W K _ hK
    have HK := hK _ _ rfl (Below.refl _ _)
    clear hK
    simp only [encP] at *
    gi_wp2
    exact HK
  · rintro l A' pre x a' W hv hA hok rfl hbw hsw
    obtain ⟨xp, xv⟩ := x
    simp only
    obtain ⟨hx1, hx2, hx3, hx4⟩ := hok
    simp only at hx1 hx2 hx3 hx4
    have hpl : pre.length < 5001 := by
      have h1 := hx4.length_le
      rw [allP_len] at h1
      have := HC.out
      simp at h1
      omega
    obtain ⟨v, hbx, hown⟩ := hv.bx
    obtain ⟨va, vc, rfl⟩ := ownsRow_slice hown.own
    have HV : Hid (VP w.heap.size P pre W) := hv
    have c0 : W.cell? ⟨P, 0, none⟩ = some (.slice va pre.length vc) := by simp [World.cell?, hbx]
    have hPl : P < W.heap.size := (Array.getElem?_eq_some_iff.1 hbx).1
    have hvP : ¬ (Value.slice va pre.length vc).ownBlock = some P := fun h => by
      rcases hown.own.2 with ⟨e, _⟩ | ⟨g, cap, cur, e, hB, hg, _⟩
      · rw [e] at h; cases h
      · rw [e] at h
        have hgP : g = P := by simpa [Value.ownBlock] using h
        rw [hgP, hbx] at hg
        injection hg with hg
        injection hg with _ hg
        cases hg
    have hxA : xp ≠ [] → ∀ k, xv.ownBlock = some k → (Value.slice va pre.length vc).ownBlock ≠ some k ∧ k ≠ P := fun _ k hk => ⟨fun e => hA k (hx2 k hk) (.inr ⟨_, hbx, e⟩), fun e => hA k (hx2 k hk) (.inl e)⟩
    have HXA : Hid _ := hxA
    have HX : Hid (SlP xp xv W) := hx1
    obtain ⟨xa, xc, rfl, _⟩ := hx1
    have hBn : Below W.heap.size W (W.alloc (Obj.cells #[.slice xa xp.length xc] 25)) := (Below.refl _ _).alloc (Nat.le_refl _) _
    have hownn := ownsRow_next hown.own hBn
    have hszn : w.heap.size ≤ (W.alloc (Obj.cells #[.slice xa xp.length xc] 25)).heap.size := by simp; omega
    have hnw : ∀ (k : Nat) (u : Value), [Value.slice xa xp.length xc][k]? = some u → (W.alloc (Obj.cells #[.slice xa xp.length xc] 25)).cell? ((⟨W.heap.size, 0, none⟩ : Addr).add k) = some u := fun k u hu => by
      match k, hu with
      | 0, hu => simp at hu; subst hu; rw [add_plain]; simp
    have hc3 : (W.alloc (Obj.cells #[.slice xa xp.length xc] 25)).heap[P]? = some (.cells #[.slice va pre.length vc] 33 (0, 0)) := (hBn.block _ hPl).trans hbx
    have HC3 : Hid _ := hc3
    have HBN : Hid (Below W.heap.size W (W.alloc (Obj.cells #[.slice xa xp.length xc] 25))) := hBn
    have HVP : Hid (¬ (Value.slice va pre.length vc).ownBlock = some P) := hvP
    have HOW : Hid (OwnPP w.heap.size pre (.slice va pre.length vc) W) := hown
    have HBW : Hid (W.heap[P]? = some (.cells #[.slice va pre.length vc] 33 (0, 0))) := hbx
    obtain ⟨i0, hi, hz0, hz1, hz2⟩ := info_parts infoRow
    have hone : ∀ u ∈ [Value.slice xa xp.length xc], u.oneCell' = true := fun u hu => by
      rw [List.mem_singleton] at hu
      subst hu
      rfl
    clear hv hA hx2 hx4 hbx hown hvP hxA hBn hc3 hr hT3 hal3
    gi_wp2_with (first
      | (gi_at_builtin; refine wpListIn_append_own_at _ rfl _ _ 33 rfl w.heap.size 25 i0 _ 1 24 Try.underlying33 hi hz0 hz1 hz2 rfl (by omega) _ _ _ rfl hownn ⟨W.heap.size, 0, none⟩ 1 1 [.slice xa xp.length xc] rfl rfl hnw hone (by unfold maxLen; omega) (by omega) hszn ?_)
      | gi_in)
    intro v' V4 ho4 hg4 _ hat4
    obtain ⟨na, nc, rfl⟩ := ownsRow_slice ho4
    have hst := VP.step (x := (xp, .slice xa xp.length xc)) HV.out HBW.out HOW.out HX.out HXA.out HBN.out ho4 hg4 (by simpa using hat4)
    obtain ⟨s1, s2, s3, s4, s5⟩ := hst
    have HST : Hid (VP w.heap.size P (pre ++ [(xp, .slice xa xp.length xc)]) (V4.setCell ⟨P, 0, none⟩ (.slice na (pre.length + 1) nc)) ∧ But (DP P W) W (V4.setCell ⟨P, 0, none⟩ (.slice na (pre.length + 1) nc)) ∧ ∀ k, DP P (V4.setCell ⟨P, 0, none⟩ (.slice na (pre.length + 1) nc)) k → DP P W k ∨ W.heap.size ≤ k) := ⟨s1, s2, s3⟩
    clear s1 s2 s3 ho4 hg4 hat4 hnw hone HXA HX HBW HOW HV HC3 hownn c0
    gi_wp2
    exact HST.out
  · intro xs W hxs hv hbw hsw hd
    obtain ⟨v, hbx, hown⟩ := hv.bx
    obtain ⟨va, vc, rfl⟩ := ownsRow_slice hown.own
    have c0 : W.cell? ⟨P, 0, none⟩ = some (.slice va xs.length vc) := by simp [World.cell?, hbx]
    have HV : Hid (OwnPP w.heap.size xs (.slice va xs.length vc) W) := hown
    have HBW : Hid (Below w.heap.size w W) := hbw
    have HXS : Hid (xs.map Prod.fst = allP [] t) := hxs
    clear hv hbx hown hbw hxs hr hT3 hal3
    gi_wp2
    refine leave_one (v := .slice va xs.length vc) hd ((results_tmp (t := 2) rfl _ _ _).trans (by rfl)) ⟨xs, _, HXS.out, rfl, ?_, below_end HBW.out (by omega) HBW.out.size⟩
    exact OwnPP.mark HV.out hd
end Go.Proofs.Ytmkkjjhlppagpaa
