/- Fit. -/
import Derived.Test.YthmpnhjlblcgdaaPWrong
import Derived.Test.YthmpnhjlblcgdaaPFitA
namespace Go.Proofs.Ythmpnhjlblcgdaa
open Go.RowKit Go.Shelf
attribute [local go_sem] Oper.semAt_some

def oneB (size : Int) (x : Nd × Int) : Bool := decide (x.2 ≤ 32) && aloneB x.1 size
def fitB (t : Nd) (size : Int) : Bool := (preN t 1).all (oneB size)
/-- What Fit holds. -/
structure VF (P1 P2 P3 : Nat) (size : Int) (pre : List Al) (W : World) : Prop where
  all : ∀ x ∈ pre, oneB size (stripA x) = true
  b1 : Bx P1 (.int .i64 size) 3 W
  b2 : Bx P2 (.bool false) 4 W
  b3 : Bx P3 (.int .i64 pre.length) 3 W

set_option maxRecDepth 100000 in
set_option maxHeartbeats 4000000 in
theorem fit_any {A : Nat → Prop} (n : Nat) (t : Nd) (v : Value) (size : Int) (w : World) (h : TAt A n t v w) (hc : cntN t ≤ 5000) :
    Calls Try.prog 13 #[v, .int .i64 size] w fun e w' => e = .returned (.bool (fitB t size)) ∧ Below w.heap.size w w' := by
  obtain ⟨ba, bc, rfl, hkl⟩ := h.val
  have HT : Hid (∀ W, Below w.heap.size w W → TAt (fun k => k < w.heap.size) n t (ndV t.h (.slice ba t.kids.length bc)) W) := fun W hb => (h.imp (B := fun k => k < w.heap.size) (fun k hk _ => hk)).next hb
  clear h
  have HND : Hid (∀ W, Calls Try.prog 33 #[ndV t.h (.slice ba t.kids.length bc)] W fun e w' => e = .returned (.func (.func 44) #[] #[.pointer (some ⟨W.heap.size, 0, none⟩)]) ∧ Row7 W.heap.size 0 t.h (.slice ba t.kids.length bc) w' ∧ w'.heap.size = W.heap.size + 1 ∧ Below W.heap.size W w') := fun W => nodes_any t.h (.slice ba t.kids.length bc) W
  refine (callsIn_wide (n := 9)).1 (callsIn_of_wp_marks Try.func13 rfl trivial ?_ rfl)
  simp only [Try.ntmps13, List.size_toArray, List.length_cons, List.length_nil, Nat.reduceAdd, Nat.reduceSub, Array.replicate_succ, Array.replicate_zero, List.push_toArray, List.append_toArray, List.nil_append, List.cons_append]
  obtain ⟨hd, hhd⟩ : ∃ hd, t.h = hd := ⟨_, rfl⟩
  obtain ⟨kl, hkl2⟩ : ∃ kl, t.kids.length = kl := ⟨_, rfl⟩
  have HE : Hid (t.h = hd ∧ t.kids.length = kl) := ⟨hhd, hkl2⟩
  rw [hhd, hkl2] at HND ⊢
  rw [hkl2] at hkl
  clear hhd hkl2
  obtain ⟨zk, zn, zf, zr, zt, zb⟩ := hd
  unfold ndV at HND ⊢
  simp only at HND ⊢
  have w1e : ∃ w1, w1 = (((w.alloc (Obj.cells #[Value.string zk, Value.bool zn, Value.string zf, Value.int IntKind.i64 zr, Value.int IntKind.i64 zt, Value.int IntKind.i64 zb, Value.slice ba kl bc] 24)).alloc (Obj.cells #[.int .i64 size] 3)).alloc (Obj.cells #[.bool false] 4)).alloc (Obj.cells #[.int .i64 0] 3) := ⟨_, rfl⟩
  have hnd1 := HND.out ((((w.alloc (Obj.cells #[Value.string zk, Value.bool zn, Value.string zf, Value.int IntKind.i64 zr, Value.int IntKind.i64 zt, Value.int IntKind.i64 zb, Value.slice ba kl bc] 24)).alloc (Obj.cells #[.int .i64 size] 3)).alloc (Obj.cells #[.bool false] 4)).alloc (Obj.cells #[.int .i64 0] 3))
  clear HND
  gi_wp2
  refine ⟨trivial, (callsIn_wide.2 hnd1).mono ?_⟩
  rintro e w2 ⟨rfl, hr7, hsz, hb2⟩
  clear hnd1 w1e
  have hb : Below w.heap.size w w2 := (((((Below.refl _ _).alloc (Nat.le_refl _) _).alloc (by simp) _).alloc (by simp; omega) _).alloc (by simp; omega) _).trans (hb2.mono (by simp; omega))
  have hs5 : w2.heap.size = w.heap.size + 1 + 1 + 1 + 1 + 1 := by rw [hsz]; simp
  have hv0 : VF (w.heap.size + 1) (w.heap.size + 1 + 1) (w.heap.size + 1 + 1 + 1) size [] w2 := ⟨by simp, (((bx_new _ _ (by simp)).alloc _).alloc _).next hb2, ((bx_new _ _ (by simp)).alloc _).next hb2, (bx_new _ _ (by simp)).next hb2⟩
  have hr : Row7 (w.heap.size + 1 + 1 + 1 + 1) 0 t.h (.slice ba t.kids.length bc) w2 := by
    rw [HE.out.1, HE.out.2]
    simpa using hr7
  have hp4 : (((((w.alloc (Obj.cells #[Value.string zk, Value.bool zn, Value.string zf, Value.int IntKind.i64 zr, Value.int IntKind.i64 zt, Value.int IntKind.i64 zb, Value.slice ba kl bc] 24)).alloc (Obj.cells #[.int .i64 size] 3)).alloc (Obj.cells #[.bool false] 4)).alloc (Obj.cells #[.int .i64 0] 3))).heap.size = w.heap.size + 1 + 1 + 1 + 1 := by simp
  rw [hp4]
  clear hp4 hr7 hsz hb2
  have HT2 := HT.out w2 hb
  have HVV : Hid (VF (w.heap.size + 1) (w.heap.size + 1 + 1) (w.heap.size + 1 + 1 + 1) size [] w2) := hv0
  clear hv0 HT HE
  obtain ⟨P, HP⟩ : ∃ P, Hid (P = w.heap.size) := ⟨_, rfl⟩
  rw [← HP.out] at hs5 hb hr HT2 HVV ⊢
  obtain ⟨P1, HP1⟩ : ∃ P1, Hid (P + 1 = P1) := ⟨_, rfl⟩
  rw [HP1.out] at hs5 hr HVV ⊢
  obtain ⟨P2, HP2⟩ : ∃ P2, Hid (P1 + 1 = P2) := ⟨_, rfl⟩
  rw [HP2.out] at hs5 hr HVV ⊢
  obtain ⟨P3, HP3⟩ : ∃ P3, Hid (P2 + 1 = P3) := ⟨_, rfl⟩
  rw [HP3.out] at hs5 hr HVV ⊢
  obtain ⟨P4, HP4⟩ : ∃ P4, Hid (P3 + 1 = P4) := ⟨_, rfl⟩
  rw [HP4.out] at hs5 hr ⊢
  have ho : P < P1 ∧ P1 < P2 ∧ P2 < P3 ∧ P3 < P4 ∧ P4 < w2.heap.size := by have := HP1.out; have := HP2.out; have := HP3.out; have := HP4.out; omega
  have HO : Hid (P < P1 ∧ P1 < P2 ∧ P2 < P3 ∧ P3 < P4 ∧ P4 < w2.heap.size) := ho
  clear hs5
  gi_wp2
  refine range_nodes (q := 9) (by omega) (N := 5000) (A0 := fun k => k < P) P w hb (by omega) (by omega) hc HT2 hr rfl rfl (VF P1 P2 P3 size) (fun _ k => k = P1 ∨ k = P2 ∨ k = P3) (fun W => Bx P2 (.bool false) 4 W ∧ fitB t size = false)
    (fun pre W W' hv he hs => ⟨⟨hv.all, hv.b1.same (he _ (.inl rfl)), hv.b2.same (he _ (.inr (.inl rfl))), hv.b3.same (he _ (.inr (.inr rfl)))⟩, fun k hk => hk⟩)
    (fun pre W k hv hk => ⟨?_, by omega⟩) HVV.out (fun k hk => ⟨by omega, by omega⟩) (fun W W' h hb' hl => ⟨h.1.same (hb'.block _ h.1.lt (by omega)), h.2⟩)
    (fun x a' W' => ∃ K, PartAt x K W' ∧ a' = { tmps := #[Value.agg #[Value.string zk, Value.bool zn, Value.string zf, Value.int IntKind.i64 zr, Value.int IntKind.i64 zt, Value.int IntKind.i64 zb, Value.slice ba kl bc], .int .i64 size, .pointer (some ⟨P, 0, none⟩), .pointer (some ⟨P1, 0, none⟩), .pointer (some ⟨P2, 0, none⟩), .pointer (some ⟨P3, 0, none⟩), .pointer (some ⟨K, 0, none⟩), .int .i64 x.2.2, Value.agg #[Value.string zk, Value.bool zn, Value.string zf, Value.int IntKind.i64 zr, Value.int IntKind.i64 zt, Value.int IntKind.i64 zb, Value.slice ba kl bc], .func (.func 44) #[] #[.pointer (some ⟨P4, 0, none⟩)], x.2.1, .int .i64 x.2.2, undef, undef, undef, undef, undef, undef, undef, undef, undef, undef, undef, undef, undef, undef], defers := [] })
    (fun x a W W' ⟨K, h1, h2⟩ hb' hl => ⟨K, h1.loop hb' hl, h2⟩) ?_ ?_ ?_ ?_
  · rcases hk with rfl | rfl | rfl
    · exact hv.b1.lt
    · exact hv.b2.lt
    · exact hv.b3.lt
  · rintro l ⟨xt, xv, xd⟩ W K ⟨nx, Ax, hx⟩ hK
    obtain ⟨xa, xc, hxv, _⟩ := hx.val
    simp only at hxv
    subst hxv
    have HK := fun (p : PartAt (xt, ndV xt.h (.slice xa xt.kids.length xc), xd) W.heap.size (W.alloc (Obj.cells #[.string xt.h.kind, .bool xt.h.named, .string xt.h.field, .int .i64 xt.h.frm, .int .i64 xt.h.to, .int .i64 xt.h.bad, .slice xa xt.kids.length xc] 24))) => hK _ _ ⟨W.heap.size, p, rfl⟩ ((Below.refl _ _).alloc (Nat.le_refl _) _)
    have HK2 := HK ⟨xa, xc, rfl, by refine ⟨?_, ?_, ?_, ?_, ?_, ?_, ?_⟩ <;> simp⟩
    clear hK HK hx
    simp only [encA, ndV] at HK2 ⊢
    generalize xt.h = xh at *
    obtain ⟨xk, xn, xf, xr, xt, xb⟩ := xh
    simp only at *
    gi_wp2
    exact HK2
  · rintro l A' pre x a' W hv hA hok ⟨K, ⟨xa, xc, hxv, hr7⟩, rfl⟩ hbw hsw
    obtain ⟨⟨nx, hTx⟩, hlen, hx1, hx2, hpre⟩ := hok
    obtain ⟨tx, vx, dx⟩ := x
    simp only at hxv hTx hx1 hx2 hr7 ⊢
    have hx3 : dx ≤ 5000 := by simpa using hx2
    clear hx2
    have HV : Hid (VF P1 P2 P3 size pre W) := hv
    obtain ⟨pl, hpl⟩ : ∃ pl : Int, (pre.length : Int) = pl := ⟨_, rfl⟩
    have HPL : Hid ((pre.length : Int) = pl) := hpl
    have c3 := hv.b3.cell
    rw [hpl] at c3
    have f3 := hv.b3.frozen
    have hl1 : pl < 5000 := by omega
    have hl0 : 0 ≤ pl := by omega
    have hs1 : IntKind.i64.wrap (pl + 1) = pl + 1 := IntWalk.i64_in _ (by omega)
    have k1 : ¬ (5000 : Int) < pl + 1 := by omega
    have HPR : Hid (oneB size (tx, dx) = false → fitB t size = false) := fun h => by
      unfold fitB
      rw [Bool.eq_false_iff]
      intro h'
      have := List.all_eq_true.1 h' _ (mem_of_prefix hpre)
      simp only [stripA] at this
      rw [h] at this
      cases this
    have HON : Hid (oneB size (tx, dx) = (decide (dx ≤ 32) && aloneB tx size)) := rfl
    have hB1 : But (fun k => k = P1 ∨ k = P2 ∨ k = P3) W (W.setCell ⟨P3, 0, none⟩ (.int .i64 (pl + 1))) := (But.refl _ _).setCell P3 0 _ (.inr (.inr rfl))
    have hfa := fitAlone_any nx tx vx size _ (hTx.but hA hB1)
    have hKl : K < W.heap.size := World.block_lt_of_cell? _ _ hr7.1
    have hKn : ∀ j (u : Value) ty, Bx j u ty W → (∀ s, u ≠ .string s) → K ≠ j := fun j u ty hbx hu e => by
      subst e
      have h1 := hbx.cell
      have h2 := hr7.1
      rw [h1] at h2
      exact hu _ (Option.some.inj h2)
    have n1 := hKn _ _ _ hv.b1 (by intro s h; cases h)
    have n2 := hKn _ _ _ hv.b2 (by intro s h; cases h)
    have n3 := hKn _ _ _ hv.b3 (by intro s h; cases h)
    obtain ⟨p0, p1, p2, p3, p4, p5, p6⟩ := hr7.but hB1 hKl (by omega)
    simp only [Nat.zero_add] at p1 p2 p3 p4 p5 p6
    have c1 := (hv.b1.other (j := P3) (u := .int .i64 (pl + 1)) (by omega) 0).cell
    have c3' := (hv.b3.set (u := .int .i64 (pl + 1))).cell
    have HV1 : Hid (∀ W', Below (W.setCell ⟨P3, 0, none⟩ (.int .i64 (pl + 1))).heap.size (W.setCell ⟨P3, 0, none⟩ (.int .i64 (pl + 1))) W' → oneB size (tx, dx) = true → VF P1 P2 P3 size (pre ++ [(tx, vx, dx)]) W') := fun W' hb' h1 => by
      refine ⟨fun y hy => ?_, (hv.b1.other (by omega) 0).next hb', (hv.b2.other (by omega) 0).next hb', ?_⟩
      · rcases List.mem_append.1 hy with h | h
        · exact hv.all y h
        · simp only [List.mem_singleton] at h; subst h; exact h1
      · have := (hv.b3.set (u := .int .i64 (pl + 1))).next hb'
        simpa [← hpl] using this
    have b2' := hv.b2.other (j := P3) (u := .int .i64 (pl + 1)) (by omega) 0
    clear hv hA hbw hsw ho HVV hc hr HT2 hkl hpre hKn hr7 hpl hlen hTx
    subst hxv
    generalize aloneB tx size = AB at *
    generalize tx.h = xh at *
    generalize tx.kids.length = xl at *
    obtain ⟨xk, xn, xf, xr, xt, xb⟩ := xh
    unfold ndV at *
    simp only at *
    by_cases hdp : dx ≤ 32
    · have k2 : ¬ (32 : Int) < dx := by omega
      have HAB : Hid (oneB size (tx, dx) = AB) := by show _ = _; rw [HON.out]; simp [hdp]
      gi_wp2_with fail
      refine ⟨trivial, (callsIn_wide.2 hfa).mono ?_⟩
      rintro e w3 ⟨rfl, hb3⟩
      have hBB : But (fun k => k = P1 ∨ k = P2 ∨ k = P3) W w3 := hB1.trans (But.of_next hb3)
      cases AB with
      | true =>
        have HEND : Hid _ := HV1.out _ hb3 HAB.out
        clear HV1 HV HPR HON hfa
        gi_wp2_with fail
        exact HEND.out
      | false =>
        have b3' := b2'.next hb3
        have c2' := b3'.cell
        have f2' := b3'.frozen
        have HEND : Hid ((Bx P2 (.bool false) 4 (w3.setCell ⟨P2, 0, none⟩ (.bool false)) ∧ fitB t size = false) ∧ But (fun k => k = P1 ∨ k = P2 ∨ k = P3) W (w3.setCell ⟨P2, 0, none⟩ (.bool false))) := ⟨⟨b3'.set, HPR.out HAB.out⟩, hBB.setCell P2 0 _ (.inr (.inl rfl))⟩
        clear HV1 HV HPR HON hfa b3' b2'
        gi_wp2_with fail
        exact HEND.out
    · have k2 : (32 : Int) < dx := by omega
      have c2' := b2'.cell
      have f2' := b2'.frozen
      have HEND : Hid ((Bx P2 (.bool false) 4 ((W.setCell ⟨P3, 0, none⟩ (.int .i64 (pl + 1))).setCell ⟨P2, 0, none⟩ (.bool false)) ∧ fitB t size = false) ∧ But (fun k => k = P1 ∨ k = P2 ∨ k = P3) W ((W.setCell ⟨P3, 0, none⟩ (.int .i64 (pl + 1))).setCell ⟨P2, 0, none⟩ (.bool false))) := ⟨⟨b2'.set, HPR.out (by rw [HON.out]; simp [hdp])⟩, hB1.setCell P2 0 _ (.inr (.inl rfl))⟩
      clear HV1 HV HPR HON hfa b2'
      gi_wp2_with fail
      refine ⟨trivial, ?_⟩
      gi_wp2_with fail
      exact HEND.out
  · intro xs W hxs hv hbw hsw hd
    have HW : Hid (fitB t size = true) := by
      show _ = _
      unfold fitB
      rw [← hxs, List.all_eq_true]
      intro y hy
      obtain ⟨x, hx, rfl⟩ := List.mem_map.1 hy
      exact hv.all x hx
    have c1 := hv.b2.cell
    have f1 := hv.b2.frozen
    have b1' := (hv.b2.set (u := .bool true)).cell
    have hB : But (fun k => k = P2) W (W.setCell ⟨P2, 0, none⟩ (.bool true)) := (But.refl _ W).setCell P2 0 _ rfl
    have d1 : (W.setCell ⟨P2, 0, none⟩ (.bool true)).heap[w2.heap.size]? = some (.deferred (some [])) := (hB.block _ (Array.getElem?_eq_some_iff.1 hd).1 (by omega)).trans hd
    have hb3 : Below P w (W.setCell ⟨P2, 0, none⟩ (.bool true)) := hbw.trans (hB.below (by omega) (fun k _ hk => by omega))
    have hs3 := hB.size
    have HS : Hid (P ≤ w2.heap.size ∧ P ≤ (W.setCell ⟨P2, 0, none⟩ (.bool true)).heap.size) := ⟨by omega, by omega⟩
    clear ho hkl hr HT2 HVV hc hv hbw hsw hd hB hs3
    gi_wp2
    have e1 := cell_end d1 b1'
    refine leave_one (v := .bool true) d1 (results_cell1 rfl _ _ _ (a := ⟨P2, 0, none⟩) rfl (by simp [go_sem, loadVar, e1])) ⟨by rw [HW.out], by rw [← HP.out]; exact below_end hb3 HS.out.1 HS.out.2⟩
  · rintro W ⟨h1, h2⟩ hbw hsw hd
    have e1 := cell_end hd h1.cell
    have HS : Hid (P ≤ w2.heap.size ∧ P ≤ W.heap.size) := ⟨by omega, by omega⟩
    clear ho hkl hr HT2 HVV hc
    have hL := leave_one (F := Fence.wide) (n := 9) (P := Try.prog) (fn := Try.f13) (R := fun e w' => e = .returned (.bool (fitB t size)) ∧ Below w.heap.size w w') (v := .bool false) (tmps := #[Value.agg #[Value.string zk, Value.bool zn, Value.string zf, Value.int IntKind.i64 zr, Value.int IntKind.i64 zt, Value.int IntKind.i64 zb, Value.slice ba kl bc], .int .i64 size, .pointer (some ⟨P, 0, none⟩), .pointer (some ⟨P1, 0, none⟩), .pointer (some ⟨P2, 0, none⟩), .pointer (some ⟨P3, 0, none⟩), undef, undef, Value.agg #[Value.string zk, Value.bool zn, Value.string zf, Value.int IntKind.i64 zr, Value.int IntKind.i64 zt, Value.int IntKind.i64 zb, Value.slice ba kl bc], .func (.func 44) #[] #[.pointer (some ⟨P4, 0, none⟩)], undef, undef, undef, undef, undef, undef, undef, undef, undef, undef, undef, undef, undef, undef, undef, undef]) hd (results_cell1 rfl _ _ _ (a := ⟨P2, 0, none⟩) rfl (by simp [go_sem, loadVar, e1])) ⟨by rw [h2], by rw [← HP.out]; exact below_end hbw HS.out.1 HS.out.2⟩
    exact hL
end Go.Proofs.Ythmpnhjlblcgdaa
