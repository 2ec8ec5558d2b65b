/- Wrong. -/
import Derived.Test.YthmpnhjlblcgdaaPMeas
namespace Go.Proofs.Ythmpnhjlblcgdaa
open Go.RowKit Go.Shelf
attribute [local go_sem] Oper.semAt_some

def badN (t : Nd) : Bool := t.h.bad != 0
def wrongB (t : Nd) : Bool := (preN t 1).any fun x => badN x.1
theorem Row7.loop {K m : Nat} {h : Hd} {kv : Value} {W W' : World} (k : Row7 K 0 h kv W) (hb : But (fun k => k = m) W W') (hm : ∃ r, W.heap[m]? = some (.loop r)) : Row7 K 0 h kv W' :=
  k.but hb (World.block_lt_of_cell? _ _ k.1) (fun e => no_cell hm _ _ (by rw [← e]; exact k.1))
/-- The box of a round's node. -/
def PartAt (x : Al) (K : Nat) (W : World) : Prop := ∃ ka kc, x.2.1 = ndV x.1.h (.slice ka x.1.kids.length kc) ∧ Row7 K 0 x.1.h (.slice ka x.1.kids.length kc) W
theorem PartAt.loop {x : Al} {K m : Nat} {W W' : World} (k : PartAt x K W) (hb : But (fun k => k = m) W W') (hm : ∃ r, W.heap[m]? = some (.loop r)) : PartAt x K W' := by
  obtain ⟨ka, kc, h1, h2⟩ := k
  exact ⟨ka, kc, h1, h2.loop hb hm⟩
theorem results_cell1 {fn : Func} {p : Tmp} {t : TypeId} (h : fn.results = #[.cell p t]) (tmps : Array Value) (P : Program) (w : World) {a : Addr} {x : Value} (ha : tmps[p]?.getD undef = .pointer (some a)) (hx : (loadVar t a).run P w = .ok x w) :
    (results fn tmps).run P w = .ok x w := by
  simp only [results, h]
  simp [ha, hx, asAddr]
/-- What Wrong holds. -/
structure VW (P1 : Nat) (pre : List Al) (W : World) : Prop where
  all : ∀ x ∈ pre, badN x.1 = false
  b1 : Bx P1 (.bool false) 4 W
theorem mem_of_prefix {t : Nd} {pre : List Al} {x : Al} (h : (pre.map stripA ++ [stripA x]) <+: preN t 1) : stripA x ∈ preN t 1 := h.subset (by simp)

set_option maxRecDepth 100000 in
set_option maxHeartbeats 4000000 in
theorem wrong_any {A : Nat → Prop} (n : Nat) (t : Nd) (v : Value) (w : World) (h : TAt A n t v w) (hc : cntN t ≤ 5000) :
    Calls Try.prog 22 #[v] w fun e w' => e = .returned (.bool (wrongB t)) ∧ Below w.heap.size w w' := by
  have HEN : Hid (∀ W, Below w.heap.size w W → Calls Try.prog 36 #[v] W fun e w' => e = .returned (.bool true) ∧ Below W.heap.size W w') := fun W hb => ends_any n t v W (h.next hb) hc
  obtain ⟨ba, bc, rfl, hkl⟩ := h.val
  have HT : Hid (∀ W, Below w.heap.size w W → TAt (fun k => k < w.heap.size) n t (ndV t.h (.slice ba t.kids.length bc)) W) := fun W hb => (h.imp (B := fun k => k < w.heap.size) (fun k hk _ => hk)).next hb
  clear h
  have HND : Hid (∀ W, Calls Try.prog 33 #[ndV t.h (.slice ba t.kids.length bc)] W fun e w' => e = .returned (.func (.func 44) #[] #[.pointer (some ⟨W.heap.size, 0, none⟩)]) ∧ Row7 W.heap.size 0 t.h (.slice ba t.kids.length bc) w' ∧ w'.heap.size = W.heap.size + 1 ∧ Below W.heap.size W w') := fun W => nodes_any t.h (.slice ba t.kids.length bc) W
  refine (callsIn_wide (n := 9)).1 (callsIn_of_wp_marks Try.func22 rfl trivial ?_ rfl)
  simp only [Try.ntmps22, List.size_toArray, List.length_cons, List.length_nil, Nat.reduceAdd, Nat.reduceSub, Array.replicate_succ, Array.replicate_zero, List.push_toArray, List.append_toArray, List.nil_append, List.cons_append]
  obtain ⟨hd, hhd⟩ : ∃ hd, t.h = hd := ⟨_, rfl⟩
  obtain ⟨kl, hkl2⟩ : ∃ kl, t.kids.length = kl := ⟨_, rfl⟩
  have HE : Hid (t.h = hd ∧ t.kids.length = kl) := ⟨hhd, hkl2⟩
  rw [hhd, hkl2] at HND HEN ⊢
  rw [hkl2] at hkl
  clear hhd hkl2
  obtain ⟨zk, zn, zf, zr, zt, zb⟩ := hd
  unfold ndV at HND HEN ⊢
  simp only at HND HEN ⊢
  have hB0 : Below w.heap.size w ((w.alloc (Obj.cells #[Value.string zk, Value.bool zn, Value.string zf, Value.int IntKind.i64 zr, Value.int IntKind.i64 zt, Value.int IntKind.i64 zb, Value.slice ba kl bc] 24)).alloc (Obj.cells #[.bool false] 4)) := ((Below.refl _ _).alloc (Nat.le_refl _) _).alloc (by simp) _
  have r7 : Row7 w.heap.size 0 ⟨zk, zn, zf, zr, zt, zb⟩ (.slice ba kl bc) ((w.alloc (Obj.cells #[Value.string zk, Value.bool zn, Value.string zf, Value.int IntKind.i64 zr, Value.int IntKind.i64 zt, Value.int IntKind.i64 zb, Value.slice ba kl bc] 24)).alloc (Obj.cells #[.bool false] 4)) := by refine ⟨?_, ?_, ?_, ?_, ?_, ?_, ?_⟩ <;> simp
  have b1 : Bx (w.heap.size + 1) (.bool false) 4 ((w.alloc (Obj.cells #[Value.string zk, Value.bool zn, Value.string zf, Value.int IntKind.i64 zr, Value.int IntKind.i64 zt, Value.int IntKind.i64 zb, Value.slice ba kl bc] 24)).alloc (Obj.cells #[.bool false] 4)) := bx_new _ _ (by simp)
  have hen1 := HEN.out _ hB0
  gi_wp2
  refine ⟨trivial, (callsIn_wide.2 hen1).mono ?_⟩
  rintro e w1 ⟨rfl, hb1⟩
  have hB1 : Below w.heap.size w w1 := below_next hB0 hb1
  have r71 := r7.but (D := fun _ => False) (But.of_next hb1) (by simp; omega) (fun h => h)
  have b11 := b1.next hb1
  clear hen1 r7 b1 hb1 hB0 HEN
  obtain ⟨r0, r1, r2, r3, r4, r5, r6⟩ := r71
  simp only [Nat.zero_add] at r1 r2 r3 r4 r5 r6
  have hnd1 := HND.out w1
  clear HND
  gi_wp2
  refine ⟨trivial, (callsIn_wide.2 hnd1).mono ?_⟩
  rintro e w2 ⟨rfl, hr7, hsz, hb2⟩
  have hb : Below w.heap.size w w2 := below_next hB1 hb2
  have hP1 : w.heap.size + 1 < w1.heap.size := b11.lt
  have hv0 : VW (w.heap.size + 1) [] w2 := ⟨by simp, b11.next hb2⟩
  have hr : Row7 w1.heap.size 0 t.h (.slice ba t.kids.length bc) w2 := by
    rw [HE.out.1, HE.out.2]
    exact hr7
  have HT2 := HT.out w2 hb
  have HVV : Hid (VW (w.heap.size + 1) [] w2) := hv0
  clear hnd1 hr7 hb2 r0 r1 r2 r3 r4 r5 r6 hv0 HT HE b11 hB1
  obtain ⟨P4, HP4⟩ : ∃ P4, Hid (w1.heap.size = P4) := ⟨_, rfl⟩
  rw [HP4.out] at hr hsz hP1 ⊢
  obtain ⟨P, HP⟩ : ∃ P, Hid (P = w.heap.size) := ⟨_, rfl⟩
  rw [← HP.out] at hb HT2 HVV hP1 ⊢
  obtain ⟨P1, HP1⟩ : ∃ P1, Hid (P + 1 = P1) := ⟨_, rfl⟩
  rw [HP1.out] at HVV hP1 ⊢
  have ho : P < P1 ∧ P1 < P4 ∧ P4 < w2.heap.size := by have := HP1.out; omega
  have HO : Hid (P < P1 ∧ P1 < P4 ∧ P4 < w2.heap.size) := ho
  gi_wp2
  refine range_nodes (q := 9) (by omega) (N := 5000) (A0 := fun k => k < P) P w hb (by omega) (by omega) hc HT2 hr rfl rfl (VW P1) (fun _ k => k = P1) (fun W => Bx P1 (.bool true) 4 W ∧ wrongB t = true)
    (fun pre W W' hv he hs => ⟨⟨hv.all, hv.b1.same (he _ rfl)⟩, fun k hk => hk⟩)
    (fun pre W k hv hk => ⟨by subst hk; exact hv.b1.lt, by omega⟩) HVV.out (fun k hk => ⟨by omega, by omega⟩) (fun W W' h hb' hl => ⟨h.1.same (hb'.block _ h.1.lt (by omega)), h.2⟩)
    (fun x a' W' => ∃ K, PartAt x K W' ∧ a' = { tmps := #[Value.agg #[Value.string zk, Value.bool zn, Value.string zf, Value.int IntKind.i64 zr, Value.int IntKind.i64 zt, Value.int IntKind.i64 zb, Value.slice ba kl bc], .pointer (some ⟨P, 0, none⟩), .pointer (some ⟨P1, 0, none⟩), .pointer (some ⟨K, 0, none⟩), Value.agg #[Value.string zk, Value.bool zn, Value.string zf, Value.int IntKind.i64 zr, Value.int IntKind.i64 zt, Value.int IntKind.i64 zb, Value.slice ba kl bc], .bool true, .bool false, Value.agg #[Value.string zk, Value.bool zn, Value.string zf, Value.int IntKind.i64 zr, Value.int IntKind.i64 zt, Value.int IntKind.i64 zb, Value.slice ba kl bc], .func (.func 44) #[] #[.pointer (some ⟨P4, 0, none⟩)], x.2.1, .int .i64 x.2.2, undef, undef, undef], defers := [] })
    (fun x a W W' ⟨K, h1, h2⟩ hb' hl => ⟨K, h1.loop hb' hl, h2⟩) ?_ ?_ ?_ ?_
  · rintro l ⟨xt, xv, xd⟩ W K ⟨nx, Ax, hx⟩ hK
    obtain ⟨xa, xc, hxv, _⟩ := hx.val
    simp only at hxv
    subst hxv
    have HK := fun (p : PartAt (xt, ndV xt.h (.slice xa xt.kids.length xc), xd) W.heap.size (W.alloc (Obj.cells #[.string xt.h.kind, .bool xt.h.named, .string xt.h.field, .int .i64 xt.h.frm, .int .i64 xt.h.to, .int .i64 xt.h.bad, .slice xa xt.kids.length xc] 24))) => hK _ _ ⟨W.heap.size, p, rfl⟩ ((Below.refl _ _).alloc (Nat.le_refl _) _)
    have HK2 := HK ⟨xa, xc, rfl, by refine ⟨?_, ?_, ?_, ?_, ?_, ?_, ?_⟩ <;> simp⟩
    clear hK HK hx
    simp only [encA, ndV] at HK2 ⊢
    generalize xt.h = xh at *
    obtain ⟨xk, xn, xf, xr, xt, xb⟩ := xh
    simp only at *
    gi_wp2
    exact HK2
  · rintro l A' pre x a' W hv hA hok ⟨K, ⟨xa, xc, hxv, p0, p1, p2, p3, p4, p5, p6⟩, rfl⟩ hbw hsw
    obtain ⟨_, _, _, _, hpre⟩ := hok
    have HV : Hid (VW P1 pre W) := hv
    have c1 := hv.b1.cell
    have f1 := hv.b1.frozen
    have HBD : Hid (badN x.1 = (x.1.h.bad != 0)) := rfl
    have HPR : Hid (badN x.1 = true → wrongB t = true) := fun h => List.any_eq_true.2 ⟨_, mem_of_prefix hpre, h⟩
    simp only [Nat.zero_add] at p5
    rw [hxv]
    clear hv hA hbw hsw ho HVV hc hr HT2 hkl hpre p0 p1 p2 p3 p4 p6 hxv
    generalize x.1.h.bad = xb at *
    generalize x.1.h = xh at *
    by_cases hb0 : xb = 0
    · have HEND : Hid (VW P1 (pre ++ [x]) W) := ⟨fun y hy => by
        rcases List.mem_append.1 hy with h | h
        · exact HV.out.all y h
        · simp only [List.mem_singleton] at h; subst h; rw [HBD.out, hb0]; rfl, HV.out.b1⟩
      clear HV HBD HPR
      subst hb0
      unfold ndV
      gi_wp2_with fail
      exact ⟨HEND.out, But.refl _ _⟩
    · have hb1 : (xb != 0) = true := bne_iff_ne.2 hb0
      have HEND : Hid ((Bx P1 (.bool true) 4 (W.setCell ⟨P1, 0, none⟩ (.bool true)) ∧ wrongB t = true) ∧ But (fun k => k = P1) W (W.setCell ⟨P1, 0, none⟩ (.bool true))) := ⟨⟨HV.out.b1.set, HPR.out (by rw [HBD.out]; exact hb1)⟩, (But.refl _ _).setCell P1 0 _ rfl⟩
      clear HV HBD HPR
      unfold ndV
      gi_wp2_with fail
      exact HEND.out
  · intro xs W hxs hv hbw hsw hd
    have HW : Hid (wrongB t = false) := by
      show _ = _
      unfold wrongB
      rw [← hxs, Bool.eq_false_iff]
      intro h
      obtain ⟨y, hy, hb'⟩ := List.any_eq_true.1 h
      obtain ⟨x, hx, rfl⟩ := List.mem_map.1 hy
      have := hv.all x hx
      simp only [stripA] at hb'
      rw [this] at hb'
      cases hb'
    have c1 := hv.b1.cell
    have f1 := hv.b1.frozen
    have b1' := (hv.b1.set (u := .bool false)).cell
    have hB : But (fun k => k = P1) W (W.setCell ⟨P1, 0, none⟩ (.bool false)) := (But.refl _ W).setCell P1 0 _ rfl
    have d1 : (W.setCell ⟨P1, 0, none⟩ (.bool false)).heap[w2.heap.size]? = some (.deferred (some [])) := (hB.block _ (Array.getElem?_eq_some_iff.1 hd).1 (by omega)).trans hd
    have hb3 : Below P w (W.setCell ⟨P1, 0, none⟩ (.bool false)) := hbw.trans (hB.below (by omega) (fun k _ hk => by omega))
    have hs3 := hB.size
    have HS : Hid (P ≤ w2.heap.size ∧ P ≤ (W.setCell ⟨P1, 0, none⟩ (.bool false)).heap.size) := ⟨by omega, by omega⟩
    clear ho hkl hr HT2 HVV hc hv hbw hsw hd hB hs3
    gi_wp2
    have e1 := cell_end d1 b1'
    refine leave_one (v := .bool false) d1 (results_cell1 rfl _ _ _ (a := ⟨P1, 0, none⟩) rfl (by simp [go_sem, loadVar, e1])) ⟨by rw [HW.out], by rw [← HP.out]; exact below_end hb3 HS.out.1 HS.out.2⟩
  · rintro W ⟨h1, h2⟩ hbw hsw hd
    have e1 := cell_end hd h1.cell
    have HS : Hid (P ≤ w2.heap.size ∧ P ≤ W.heap.size) := ⟨by omega, by omega⟩
    clear ho hkl hr HT2 HVV hc
    have hL := leave_one (F := Fence.wide) (n := 9) (P := Try.prog) (fn := Try.f22) (R := fun e w' => e = .returned (.bool (wrongB t)) ∧ Below w.heap.size w w') (v := .bool true) (tmps := #[Value.agg #[Value.string zk, Value.bool zn, Value.string zf, Value.int IntKind.i64 zr, Value.int IntKind.i64 zt, Value.int IntKind.i64 zb, Value.slice ba kl bc], .pointer (some ⟨P, 0, none⟩), .pointer (some ⟨P1, 0, none⟩), undef, Value.agg #[Value.string zk, Value.bool zn, Value.string zf, Value.int IntKind.i64 zr, Value.int IntKind.i64 zt, Value.int IntKind.i64 zb, Value.slice ba kl bc], .bool true, .bool false, Value.agg #[Value.string zk, Value.bool zn, Value.string zf, Value.int IntKind.i64 zr, Value.int IntKind.i64 zt, Value.int IntKind.i64 zb, Value.slice ba kl bc], .func (.func 44) #[] #[.pointer (some ⟨P4, 0, none⟩)], undef, undef, undef, undef, undef]) hd (results_cell1 rfl _ _ _ (a := ⟨P1, 0, none⟩) rfl (by simp [go_sem, loadVar, e1])) ⟨by rw [h2], by rw [← HP.out]; exact below_end hbw HS.out.1 HS.out.2⟩
    exact hL
end Go.Proofs.Ythmpnhjlblcgdaa
