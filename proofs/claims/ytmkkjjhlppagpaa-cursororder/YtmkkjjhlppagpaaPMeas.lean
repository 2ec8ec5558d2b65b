/- measure, ends, Count. -/
import Derived.Test.YtmkkjjhlppagpaaNRange
import Derived.Shelf.RegionOpenPlain
namespace Go.Proofs.Ytmkkjjhlppagpaa
open Go.RowKit Go.Shelf
attribute [local go_sem] Oper.semAt_some

/-- A box of one cell. -/
def Bx (k : Nat) (v : Value) (t : TypeId) (W : World) : Prop := W.heap[k]? = some (.cells #[v] t (0, 0))
theorem Bx.cell {k : Nat} {v : Value} {t : TypeId} {W : World} (h : Bx k v t W) : W.cell? ⟨k, 0, none⟩ = some v := by simp [World.cell?, show W.heap[k]? = _ from h]
theorem Bx.frozen {k : Nat} {v : Value} {t : TypeId} {W : World} (h : Bx k v t W) : W.frozen? ⟨k, 0, none⟩ = false := by simp [World.frozen?, show W.heap[k]? = _ from h]
theorem Bx.lt {k : Nat} {v : Value} {t : TypeId} {W : World} (h : Bx k v t W) : k < W.heap.size := (Array.getElem?_eq_some_iff.1 h).1
theorem Bx.set {k : Nat} {v u : Value} {t : TypeId} {W : World} (h : Bx k v t W) : Bx k u t (W.setCell ⟨k, 0, none⟩ u) := by
  unfold Bx at *
  simp [World.setCell, Array.getElem?_modify, h]
theorem Bx.other {k j : Nat} {v u : Value} {t : TypeId} {W : World} (h : Bx k v t W) (hk : k ≠ j) (o : Nat) : Bx k v t (W.setCell ⟨j, o, none⟩ u) := by
  unfold Bx at *
  simp [World.setCell, Array.getElem?_modify, Ne.symm hk, h]
theorem Bx.same {k : Nat} {v : Value} {t : TypeId} {W W' : World} (h : Bx k v t W) (e : W'.heap[k]? = W.heap[k]?) : Bx k v t W' := by unfold Bx at *; rw [e, h]
theorem bx_new {w : World} {k : Nat} (v : Value) (t : TypeId) (hk : w.heap.size = k) : Bx k v t (w.alloc (.cells #[v] t)) := by subst hk; exact World.alloc_heap_new _ _
theorem Bx.next {k : Nat} {v : Value} {t : TypeId} {W W' : World} (h : Bx k v t W) (hb : Below W.heap.size W W') : Bx k v t W' := h.same (hb.block k h.lt)
theorem Bx.alloc {k : Nat} {v : Value} {t : TypeId} {W : World} (h : Bx k v t W) (o : Obj) : Bx k v t (W.alloc o) := h.next ((Below.refl _ _).alloc (Nat.le_refl _) o)
theorem But.setCell {D : Nat → Prop} {a b : World} (h : But D a b) (k o : Nat) (v : Value) (hk : D k) : But D a (b.setCell ⟨k, o, none⟩ v) := by
  refine ⟨h.os, h.tape, h.output, ?_, fun j hj hd => ?_⟩
  · simp [World.setCell]; exact h.size
  · have hne : k ≠ j := fun e => hd (e ▸ hk)
    simp [World.setCell, Array.getElem?_modify, hne, h.block j hj hd]
theorem results_cells3 {fn : Func} {p q r : Tmp} {t u s : TypeId} (h : fn.results = #[.cell p t, .cell q u, .cell r s]) (tmps : Array Value) (P : Program) (w : World) {a b c : Addr} {x y z : Value} (ha : tmps[p]?.getD undef = .pointer (some a)) (hb : tmps[q]?.getD undef = .pointer (some b)) (hc : tmps[r]?.getD undef = .pointer (some c)) (hx : (loadVar t a).run P w = .ok x w) (hy : (loadVar u b).run P w = .ok y w) (hz : (loadVar s c).run P w = .ok z w) :
    (results fn tmps).run P w = .ok (.tuple #[x, y, z]) w := by
  simp only [results, h]
  simp [Sem.run_bind, Result.andThen, ha, hb, hc, hx, hy, hz, asAddr]
/-- How deep the deepest one is. -/
def maxD (l : List Al) : Int := l.foldl (fun m x => max m x.2.2) 0
theorem maxD_snoc (l : List Al) (x : Al) : maxD (l ++ [x]) = max (maxD l) x.2.2 := by unfold maxD; simp
theorem maxD_le {N : Int} (h0 : 0 ≤ N) (l : List Al) (h : ∀ x ∈ l, x.2.2 ≤ N) : 0 ≤ maxD l ∧ maxD l ≤ N := by
  suffices H : ∀ (l : List Al) (m : Int), 0 ≤ m → m ≤ N → (∀ x ∈ l, x.2.2 ≤ N) → 0 ≤ l.foldl (fun m x => max m x.2.2) m ∧ l.foldl (fun m x => max m x.2.2) m ≤ N from H l 0 (by omega) h0 h
  intro l
  induction l with
  | nil => intro m h1 h2 _; exact ⟨h1, h2⟩
  | cons a l ih =>
    intro m h1 h2 h3
    have := h3 a (by simp)
    exact ih _ (by simp only; omega) (by simp only; omega) (fun x hx => h3 x (by simp [hx]))
/-- What measure holds. -/
structure VM (P1 P2 P3 : Nat) (pre : List Al) (W : World) : Prop where
  len : pre.length ≤ 5000
  deep : 0 ≤ maxD pre ∧ maxD pre ≤ 5000
  b1 : Bx P1 (.int .i64 pre.length) 3 W
  b2 : Bx P2 (.int .i64 (maxD pre)) 3 W
  b3 : Bx P3 (.bool false) 4 W

set_option maxRecDepth 100000 in
set_option maxHeartbeats 4000000 in
theorem measure_any {A : Nat → Prop} (n : Nat) (t : Nd) (v : Value) (w : World) (h : TAt A n t v w) (hc : cntN t ≤ 5000) :
    Calls Try.prog 42 #[v] w fun e w' => ∃ xs : List Al, xs.map stripA = preN t 1 ∧ e = .returned (.tuple #[.int .i64 xs.length, .int .i64 (maxD xs), .bool true]) ∧ Below w.heap.size w w' := by
  obtain ⟨ba, bc, rfl, hkl⟩ := h.val
  have HT : Hid (∀ W, Below w.heap.size w W → TAt (fun k => k < w.heap.size) n t (ndV t.h (.slice ba t.kids.length bc)) W) := fun W hb => (h.imp (B := fun k => k < w.heap.size) (fun k hk _ => hk)).next hb
  clear h
  refine (callsIn_wide (n := 9)).1 (callsIn_of_wp_marks Try.func42 rfl trivial ?_ rfl)
  simp only [Try.ntmps42, List.size_toArray, List.length_cons, List.length_nil, Nat.reduceAdd, Nat.reduceSub, Array.replicate_succ, Array.replicate_zero, List.push_toArray, List.append_toArray, List.nil_append, List.cons_append]
  have hnd := nodes_any t.h (.slice ba t.kids.length bc)
  have HHD : Hid (t.h = t.h) := rfl
  obtain ⟨hd, hhd⟩ : ∃ hd, t.h = hd := ⟨_, rfl⟩
  obtain ⟨kl, hkl2⟩ : ∃ kl, t.kids.length = kl := ⟨_, rfl⟩
  have HE : Hid (t.h = hd ∧ t.kids.length = kl) := ⟨hhd, hkl2⟩
  rw [hhd, hkl2] at hnd
  rw [hhd, hkl2]
  rw [hkl2] at hkl
  clear hhd hkl2 HHD
  obtain ⟨zk, zn, zf, zr, zt, zb⟩ := hd
  unfold ndV at hnd ⊢
  simp only at hnd ⊢
  have hnd1 := hnd ((((w.alloc (Obj.cells #[Value.string zk, Value.bool zn, Value.string zf, Value.int IntKind.i64 zr, Value.int IntKind.i64 zt, Value.int IntKind.i64 zb, Value.slice ba kl bc] 24)).alloc (Obj.cells #[.int .i64 0] 3)).alloc (Obj.cells #[.int .i64 0] 3)).alloc (Obj.cells #[.bool false] 4))
  clear hnd
  gi_wp2
  refine ⟨trivial, (callsIn_wide.2 hnd1).mono ?_⟩
  rintro e w2 ⟨rfl, hr7, hsz, hb2⟩
  clear hnd1
  have hb1 : Below w.heap.size w w2 := (((((Below.refl _ _).alloc (Nat.le_refl _) _).alloc (by simp) _).alloc (by simp; omega) _).alloc (by simp; omega) _).trans (hb2.mono (by simp; omega))
  have hs5 : w2.heap.size = w.heap.size + 1 + 1 + 1 + 1 + 1 := by rw [hsz]; simp
  have hv0 : VM (w.heap.size + 1) (w.heap.size + 1 + 1) (w.heap.size + 1 + 1 + 1) [] w2 := by
    exact ⟨by simp, ⟨by decide, by decide⟩, (((bx_new _ _ (by simp)).alloc _).alloc _).next hb2, ((bx_new _ _ (by simp)).alloc _).next hb2, (bx_new _ _ (by simp)).next hb2⟩
  have hr : Row7 (w.heap.size + 1 + 1 + 1 + 1) 0 t.h (.slice ba t.kids.length bc) w2 := by
    rw [HE.out.1, HE.out.2]
    simpa using hr7
  have hp4 : (((((w.alloc (Obj.cells #[Value.string zk, Value.bool zn, Value.string zf, Value.int IntKind.i64 zr, Value.int IntKind.i64 zt, Value.int IntKind.i64 zb, Value.slice ba kl bc] 24)).alloc (Obj.cells #[.int .i64 0] 3)).alloc (Obj.cells #[.int .i64 0] 3)).alloc (Obj.cells #[.bool false] 4))).heap.size = w.heap.size + 1 + 1 + 1 + 1 := by simp
  rw [hp4]
  clear hp4 hr7 hsz hb2
  have HT2 := HT.out w2 hb1
  have HVV : Hid (VM (w.heap.size + 1) (w.heap.size + 1 + 1) (w.heap.size + 1 + 1 + 1) [] w2) := hv0
  clear hv0 HT HE
  obtain ⟨P, HP⟩ : ∃ P, Hid (P = w.heap.size) := ⟨_, rfl⟩
  rw [← HP.out] at hs5 hb1 hr HT2 HVV ⊢
  obtain ⟨P1, HP1⟩ : ∃ P1, Hid (P + 1 = P1) := ⟨_, rfl⟩
  rw [HP1.out] at hs5 hr HVV ⊢
  obtain ⟨P2, HP2⟩ : ∃ P2, Hid (P1 + 1 = P2) := ⟨_, rfl⟩
  rw [HP2.out] at hs5 hr HVV ⊢
  obtain ⟨P3, HP3⟩ : ∃ P3, Hid (P2 + 1 = P3) := ⟨_, rfl⟩
  rw [HP3.out] at hs5 hr HVV ⊢
  obtain ⟨P4, HP4⟩ : ∃ P4, Hid (P3 + 1 = P4) := ⟨_, rfl⟩
  rw [HP4.out] at hs5 hr ⊢
  have ho : P < P1 ∧ P1 < P2 ∧ P2 < P3 ∧ P3 < P4 ∧ P4 < w2.heap.size := by have := HP1.out; have := HP2.out; have := HP3.out; have := HP4.out; omega
  have HO : Hid (P < P1 ∧ P1 < P2 ∧ P2 < P3 ∧ P3 < P4 ∧ P4 < w2.heap.size) := ho
  clear hs5
  gi_wp2
  refine range_nodes (q := 9) (by omega) (N := 5000) (A0 := fun k => k < P) P w hb1 (by omega) (by omega) hc HT2 hr rfl rfl (VM (P1) (P2) (P3)) (fun _ k => k = P1 ∨ k = P2 ∨ k = P3) (fun _ => False)
    (fun pre W W' hv he hs => ⟨⟨hv.len, hv.deep, hv.b1.same (he _ (.inl rfl)), hv.b2.same (he _ (.inr (.inl rfl))), hv.b3.same (he _ (.inr (.inr rfl)))⟩, fun k hk => hk⟩)
    (fun pre W k hv hk => ⟨?_, by omega⟩) HVV.out (fun k hk => ⟨by omega, by omega⟩) (fun W W' h => h.elim)
    (fun x a' _ => a' = { tmps := #[Value.agg #[Value.string zk, Value.bool zn, Value.string zf, Value.int IntKind.i64 zr, Value.int IntKind.i64 zt, Value.int IntKind.i64 zb, Value.slice ba kl bc], .pointer (some ⟨P, 0, none⟩), .pointer (some ⟨P1, 0, none⟩), .pointer (some ⟨P2, 0, none⟩), .pointer (some ⟨P3, 0, none⟩), undef, .int .i64 x.2.2, Value.agg #[Value.string zk, Value.bool zn, Value.string zf, Value.int IntKind.i64 zr, Value.int IntKind.i64 zt, Value.int IntKind.i64 zb, Value.slice ba kl bc], .func (.func 49) #[] #[.pointer (some ⟨P4, 0, none⟩)], x.2.1, .int .i64 x.2.2, undef, undef, undef, undef, undef, undef, undef, undef, undef, undef, undef, undef, undef], defers := [] }) (fun _ _ _ _ h _ _ => h) ?_ ?_ ?_ (fun W h => h.elim)
  · rcases hk with rfl | rfl | rfl
    · exact hv.b1.lt
    · exact hv.b2.lt
    · exact hv.b3.lt
  · rintro l ⟨xt, xv, xd⟩ W K _ hK
    have HK := hK _ _ rfl (Below.refl _ _)
    clear hK
    simp only [encA] at *
    gi_wp2
    exact HK
  · rintro l A' pre x a' W hv hA hok rfl hbw hsw
    obtain ⟨_, hlen, hx1, hx2, _⟩ := hok
    obtain ⟨xt, xv, xd⟩ := x
    simp only at hx1 hx2 ⊢
    have hx3 : xd ≤ 5000 := by simpa using hx2
    clear hx2
    have HM : Hid (maxD (pre ++ [(xt, xv, xd)]) = max (maxD pre) xd) := maxD_snoc _ _
    have HV : Hid (VM (P1) (P2) (P3) pre W) := hv
    have c1 := hv.b1.cell
    have c2 := hv.b2.cell
    have f1 := hv.b1.frozen
    have f2 := hv.b2.frozen
    have hdp := hv.deep
    have n12 : P1 ≠ P2 := by omega
    have n21 : P2 ≠ P1 := by omega
    clear hv
    generalize maxD pre = mx at *
    obtain ⟨pl, hpl⟩ : ∃ pl : Int, (pre.length : Int) = pl := ⟨_, rfl⟩
    have HPL : Hid ((pre.length : Int) = pl) := hpl
    have HLN : Hid (pre.length < 5000) := hlen
    rw [hpl] at c1
    have hl1 : pl < 5000 := by omega
    have hl0 : 0 ≤ pl := by omega
    clear hpl hlen
    have hs1 : IntKind.i64.wrap (pl + 1) = pl + 1 := IntWalk.i64_in _ (by omega)
    have k1 : ¬ (1048576 : Int) < pl + 1 := by omega
    have k2 : ¬ (65536 : Int) < xd := by omega
    clear ho hA hbw hsw HVV hc hr HT2 hkl
    have HEND : Hid (∀ m', max mx xd = m' → VM P1 P2 P3 (pre ++ [(xt, xv, xd)]) ((W.setCell ⟨P1, 0, none⟩ (.int .i64 (pl + 1))).setCell ⟨P2, 0, none⟩ (.int .i64 m')) ∧ But (fun k => k = P1 ∨ k = P2 ∨ k = P3) W ((W.setCell ⟨P1, 0, none⟩ (.int .i64 (pl + 1))).setCell ⟨P2, 0, none⟩ (.int .i64 m'))) := fun m' hm => by
      have hv := HV.out
      have ho := HO.out
      have hpl := HPL.out
      have hln := HLN.out
      refine ⟨⟨by simp; omega, by rw [HM.out, hm]; omega, ?_, ?_, (hv.b3.other (by omega) 0).other (by omega) 0⟩, ((But.refl _ _).setCell P1 0 _ (.inl rfl)).setCell P2 0 _ (.inr (.inl rfl))⟩
      · have := (hv.b1.set (u := .int .i64 (pl + 1))).other (j := P2) (u := .int .i64 m') (by omega) 0
        simpa [← hpl] using this
      · rw [HM.out, hm]
        exact (hv.b2.other (by omega) 0).set
    clear HV HM HPL HLN
    gi_wp2_with fail
    all_goals exact HEND.out _ (by omega)
  · intro xs W hxs hv hbw hsw hd
    have c1 := hv.b1.cell
    have c2 := hv.b2.cell
    have c3 := hv.b3.cell
    have f1 := hv.b1.frozen
    have f2 := hv.b2.frozen
    have f3 := hv.b3.frozen
    clear ho hkl hr HT2 HVV hc
    have HV : Hid (VM P1 P2 P3 xs W) := hv
    have HBW : Hid (Below P w W ∧ w2.heap.size + 2 ≤ W.heap.size) := ⟨hbw, hsw⟩
    have n12 : P1 ≠ P2 := by have := HO.out; omega
    have n21 : P2 ≠ P1 := by have := HO.out; omega
    have n13 : P1 ≠ P3 := by have := HO.out; omega
    have n31 : P3 ≠ P1 := by have := HO.out; omega
    have n23 : P2 ≠ P3 := by have := HO.out; omega
    have n32 : P3 ≠ P2 := by have := HO.out; omega
    obtain ⟨xl, hxl⟩ : ∃ xl : Int, (xs.length : Int) = xl := ⟨_, rfl⟩
    obtain ⟨mx, hmx⟩ : ∃ mx : Int, maxD xs = mx := ⟨_, rfl⟩
    have HX : Hid ((xs.length : Int) = xl ∧ maxD xs = mx) := ⟨hxl, hmx⟩
    rw [hxl] at c1
    rw [hmx] at c2
    clear hv hbw hsw hxl hmx
    have mixed : Try.prog.follows Departure.mixedOrders = true := by kernel_rfl
    gi_wp2
    refine wpIn_wide.2 ?_
    go_region_o
    have HEND : Hid (∀ W', W' = (((W.setCell ⟨P1, 0, none⟩ (.int .i64 xl)).setCell ⟨P2, 0, none⟩ (.int .i64 mx)).setCell ⟨P3, 0, none⟩ (.bool true)).drew → W'.heap[w2.heap.size]? = some (.deferred (some [])) ∧ W'.cell? ⟨P1, 0, none⟩ = some (.int .i64 xl) ∧ W'.cell? ⟨P2, 0, none⟩ = some (.int .i64 mx) ∧ W'.cell? ⟨P3, 0, none⟩ = some (.bool true) ∧ Below P w W' ∧ w2.heap.size + 2 ≤ W'.heap.size) := fun W' e => by
      subst e
      have hv := HV.out
      have ho := HO.out
      obtain ⟨hb, hs⟩ := HBW.out
      have hB : But (fun k => k = P1 ∨ k = P2 ∨ k = P3) W (((W.setCell ⟨P1, 0, none⟩ (.int .i64 xl)).setCell ⟨P2, 0, none⟩ (.int .i64 mx)).setCell ⟨P3, 0, none⟩ (.bool true)).drew := ((((But.refl _ W).setCell P1 0 _ (.inl rfl)).setCell P2 0 _ (.inr (.inl rfl))).setCell P3 0 _ (.inr (.inr rfl))).drew
      refine ⟨(hB.block _ (Array.getElem?_eq_some_iff.1 hd).1 (by omega)).trans hd, (((hv.b1.set (u := .int .i64 xl)).other (by omega) 0).other (by omega) 0).cell, (((hv.b2.other (by omega) 0).set (u := .int .i64 mx)).other (by omega) 0).cell, (((hv.b3.other (by omega) 0).other (by omega) 0).set (u := .bool true)).cell, hb.trans (hB.below (by omega) (fun k _ hk => by omega)), Nat.le_trans hs hB.size⟩
    clear c1 c2 c3 f1 f2 f3 HV n12 n21 n13 n31 n23 n32 hd
    generalize hW' : (((W.setCell ⟨P1, 0, none⟩ (.int .i64 xl)).setCell ⟨P2, 0, none⟩ (.int .i64 mx)).setCell ⟨P3, 0, none⟩ (.bool true)).drew = W' at *
    obtain ⟨d0, c1, c2, c3, hb, hs⟩ := HEND.out W' rfl
    have HXS : Hid (xs.map stripA = preN t 1) := hxs
    clear HEND hW' hxs
    gi_wp2
    have e1 := cell_end d0 c1
    have e2 := cell_end d0 c2
    have e3 := cell_end d0 c3
    have ho := HO.out
    refine leave_one (v := .tuple #[.int .i64 xl, .int .i64 mx, .bool true]) d0 (results_cells3 rfl _ _ _ (a := ⟨P1, 0, none⟩) (b := ⟨P2, 0, none⟩) (c := ⟨P3, 0, none⟩) rfl rfl rfl (by simp [go_sem, loadVar, e1]) (by simp [go_sem, loadVar, e2]) (by simp [go_sem, loadVar, e3])) ⟨xs, HXS.out, by rw [HX.out.1, HX.out.2], by rw [← HP.out]; exact below_end hb (by omega) (by omega)⟩
set_option maxHeartbeats 1000000 in
theorem count_any {A : Nat → Prop} (n : Nat) (t : Nd) (v : Value) (w : World) (h : TAt A n t v w) (hc : cntN t ≤ 5000) :
    Calls Try.prog 37 #[v] w fun e w' => ∃ xs : List Al, xs.map stripA = preN t 1 ∧ e = .returned (.tuple #[.int .i64 xs.length, .int .i64 (maxD xs)]) ∧ Below w.heap.size w w' := by
  have hm := fun W (hb : Below w.heap.size w W) => measure_any n t v W (h.next hb) hc
  obtain ⟨ba, bc, rfl, _⟩ := h.val
  clear h hc
  have HP : Hid (preN t 1 = preN t 1) := rfl
  generalize preN t 1 = PT at *
  generalize t.h = hd at *
  generalize t.kids.length = kl at *
  obtain ⟨zk, zn, zf, zr, zt, zb⟩ := hd
  unfold ndV at *
  simp only at *
  have hB0 : Below w.heap.size w (w.alloc (Obj.cells #[Value.string zk, Value.bool zn, Value.string zf, Value.int IntKind.i64 zr, Value.int IntKind.i64 zt, Value.int IntKind.i64 zb, Value.slice ba kl bc] 24)) := (Below.refl _ _).alloc (Nat.le_refl _) _
  have hm1 := hm _ hB0
  clear hm
  go_enter Try.func37, Try.ntmps37
  go_wp2_with (go_at_call 42; refine hm1.mono ?_; rintro e w2 ⟨xs, hxs, rfl, hb2⟩)
  all_goals
    refine bodyPost_ret (v := .tuple #[.int .i64 xs.length, .int .i64 (maxD xs)]) (by simp [results, Try.f37, go_sem]) rfl ⟨xs, hxs, rfl, below_next hB0 hb2⟩
end Go.Proofs.Ytmkkjjhlppagpaa
