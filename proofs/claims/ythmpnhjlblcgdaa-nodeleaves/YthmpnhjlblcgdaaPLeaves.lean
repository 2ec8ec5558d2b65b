/- Leaves. -/
import Derived.Test.YthmpnhjlblcgdaaPLast
import Derived.Test.YthmpnhjlblcgdaaNRangeM
import Derived.Test.YthmpnhjlblcgdaaPMeas
import Derived.Test.YthmpnhjlblcgdaaRound
namespace Go.Proofs.Ythmpnhjlblcgdaa
open Go.RowKit Go.Shelf
attribute [local go_sem] Oper.semAt_some

def leavesN (t : Nd) : List Nd := ((preN t 1).map (·.1)).filter isLeaf
theorem own_form {W : World} {B n : Nat} {e : TypeId} {v : Value} {xs : List Value} (h : W.ownsRow B e 7 v n xs) : ∃ ao cap, v = .slice ao n cap ∧ n ≤ cap ∧ (ao = none → cap = 0) := by
  rcases h.2 with ⟨rfl, rfl⟩ | ⟨g, cap, cur, rfl, hB, hg, hle, _⟩
  · exact ⟨_, _, rfl, Nat.le_refl _, fun _ => rfl⟩
  · exact ⟨_, _, rfl, hle, fun h => by cases h⟩
theorem own_down {W : World} {B B' n : Nat} {e : TypeId} {v : Value} {xs : List Value} (h : W.ownsRow B e 7 v n xs) (hB : B' ≤ B) : W.ownsRow B' e 7 v n xs := by
  obtain ⟨h1, h2⟩ := h
  refine ⟨h1, ?_⟩
  rcases h2 with ⟨rfl, hn⟩ | ⟨g, cap, cur, rfl, hB2, h3⟩
  · exact .inl ⟨rfl, hn⟩
  · exact .inr ⟨g, cap, cur, rfl, by omega, h3⟩
theorem own_end {W : World} {B n d : Nat} {e : TypeId} {v : Value} {xs : List Value} (h : W.ownsRow B e 7 v n xs) (hd : W.heap[d]? = some (.deferred (some []))) : (W.putObj d (.deferred none)).ownsRow B e 7 v n xs := by
  refine ownsRow_but h (But.putObj W d (.deferred none)) (fun j hj e => ?_)
  rcases h.2 with ⟨rfl, hn⟩ | ⟨g, cap, cur, rfl, hB2, hg, h3⟩
  · cases hj
  · simp only [Value.ownBlock, Option.some.injEq] at hj
    subst hj
    subst e
    rw [hg] at hd
    cases hd
def noneH : Hd := ⟨⟨#[]⟩, false, ⟨#[]⟩, 0, 0, 0⟩
/-- Behind a round with a leaf. -/
theorem VL.put {B2 P3 s K g c : Nat} {pre : List Al} {x : Al} {W Wa w4 E : World} {u : Value} {l : List Nd} (b1 : Bx P3 u 22 W) (hl : l = (pre.map (·.1)).filter isLeaf) (hok : ∀ t ∈ l, HdOk t.h) (hP : P3 < B2) (hsK : s ≤ K) (hKW : K < W.heap.size) (hWa : But (fun k => s ≤ k) W Wa) (hsz : W.heap.size ≤ Wa.heap.size)
    (hgr : Wa.grownBy w4 u.ownBlock) (hown : w4.ownsRow B2 24 7 (.slice (some ⟨g, 0, none⟩) (l.length + 1) c) (l.length + 1) (rowC (l.map fun t => (t, leafV)) ++ cells7 noneH leafV)) (hat : u.ownBlock = some g ∨ Wa.heap.size ≤ g) (hB2 : B2 ≤ g) (hx : isLeaf x.1 = true) (hxo : HdOk x.1.h) (hPs : P3 < s) (ho : u.ownBlock ≠ some P3)
    (hE : E = (set7 w4 g (l.length * 7) x.1.h leafV).setCell ⟨P3, 0, none⟩ (.slice (some ⟨g, 0, none⟩) (l.length + 1) c) ∨ E = set7 (w4.setCell ⟨P3, 0, none⟩ (.slice (some ⟨g, 0, none⟩) (l.length + 1) c)) g (l.length * 7) x.1.h leafV) :
    VL B2 P3 (pre ++ [x]) E ∧ But (fun k => DL P3 W k ∨ s ≤ k) W E ∧ ∀ k, DL P3 E k → DL P3 W k ∨ W.heap.size ≤ k := by
  have hlen : (rowC (l.map fun t => (t, leafV))).length = l.length * 7 := by rw [rowC_len]; simp
  have hgP : g ≠ P3 := by omega
  have hobP : u.ownBlock ≠ some P3 → w4.heap[P3]? = W.heap[P3]? := fun h => (hgr.block P3 (Nat.lt_of_lt_of_le b1.lt hsz) (fun e => h e.symm)).trans (hWa.block P3 b1.lt (by omega))
  have hD4 : But (fun k => DL P3 W k ∨ s ≤ k) W w4 := ⟨hgr.os.trans hWa.os, hgr.tape.trans hWa.tape, hgr.output.trans hWa.output, Nat.le_trans hWa.size hgr.size, fun k hk hd => (hgr.block k (Nat.lt_of_lt_of_le hk hWa.size) (fun e => hd (.inl (.inr ⟨u, b1.cell, e.symm⟩)))).trans (hWa.block k hk (fun h => hd (.inr h)))⟩
  have hDg : DL P3 W g ∨ s ≤ g := hat.elim (fun h => .inl (.inr ⟨u, b1.cell, h⟩)) (fun h => .inr (by omega))
  have key : (∃ v0, Bx P3 v0 22 w4) → VL B2 P3 (pre ++ [x]) E ∧ But (fun k => DL P3 W k ∨ s ≤ k) W E ∧ Bx P3 (.slice (some ⟨g, 0, none⟩) (l.length + 1) c) 22 E := fun ⟨v0, h4⟩ => by
    have hl2 : l ++ [x.1] = ((pre ++ [x]).map (·.1)).filter isLeaf := by rw [List.map_append, List.filter_append, ← hl]; simp [hx]
    have hrow : rowC ((l ++ [x.1]).map fun t => (t, leafV)) = rowC (l.map fun t => (t, leafV)) ++ cells7 x.1.h leafV := by rw [List.map_append, rowC_app]; rfl
    have hok2 : ∀ t ∈ l ++ [x.1], HdOk t.h := fun t ht => by
      rcases List.mem_append.1 ht with h | h
      · exact hok t h
      · simp only [List.mem_singleton] at h; subst h; exact hxo
    rcases hE with rfl | rfl
    · have o1 := own_set7 (kv := leafV) hown rfl hlen rfl x.1.h
      have o2 := ownsRow_but o1 ((But.refl (fun k => k = P3) _).setCell P3 0 (.slice (some ⟨g, 0, none⟩) (l.length + 1) c) rfl) (fun j hj e => by simp only [Value.ownBlock, Option.some.injEq] at hj; omega)
      have b2 : Bx P3 (.slice (some ⟨g, 0, none⟩) (l.length + 1) c) 22 ((set7 w4 g (l.length * 7) x.1.h leafV).setCell ⟨P3, 0, none⟩ (.slice (some ⟨g, 0, none⟩) (l.length + 1) c)) := (h4.same ((but_set7 w4 g _ _ _).block P3 h4.lt (fun e => hgP e.symm))).set
      refine ⟨⟨_, _, b2, by rw [hrow, List.length_append]; exact o2, hl2, hok2⟩, ?_, b2⟩
      refine But.setCell (hD4.trans ((but_set7 w4 g _ _ _).mono (fun k _ e => by subst e; exact hDg))) P3 0 _ (.inl (.inl rfl))
    · have o2 := ownsRow_but hown ((But.refl (fun k => k = P3) _).setCell P3 0 (.slice (some ⟨g, 0, none⟩) (l.length + 1) c) rfl) (fun j hj e => by simp only [Value.ownBlock, Option.some.injEq] at hj; omega)
      have o1 := own_set7 (kv := leafV) o2 rfl hlen rfl x.1.h
      have b2 : Bx P3 (.slice (some ⟨g, 0, none⟩) (l.length + 1) c) 22 (set7 (w4.setCell ⟨P3, 0, none⟩ (.slice (some ⟨g, 0, none⟩) (l.length + 1) c)) g (l.length * 7) x.1.h leafV) := (h4.set (u := .slice (some ⟨g, 0, none⟩) (l.length + 1) c)).same ((but_set7 _ g _ _ _).block P3 (h4.set (u := .slice (some ⟨g, 0, none⟩) (l.length + 1) c)).lt (fun e => hgP e.symm))
      refine ⟨⟨_, _, b2, by rw [hrow, List.length_append]; exact o1, hl2, hok2⟩, ?_, b2⟩
      exact (But.setCell hD4 P3 0 _ (.inl (.inl rfl))).trans ((but_set7 _ g _ _ _).mono (fun k _ e => by subst e; exact hDg))
  · obtain ⟨h1, h2, h3⟩ := key ⟨u, b1.same (hobP ho)⟩
    refine ⟨h1, h2, fun k hk => ?_⟩
    rcases hk with rfl | ⟨v2, hv2, hk⟩
    · exact .inl (.inl rfl)
    · rw [h3.cell] at hv2
      cases hv2
      simp only [Value.ownBlock, Option.some.injEq] at hk
      subst hk
      rcases hat with h | h
      · exact .inl (.inr ⟨u, b1.cell, h⟩)
      · exact .inr (by omega)
set_option maxRecDepth 100000 in
set_option maxHeartbeats 4000000 in
theorem leaves_any {A : Nat → Prop} (n : Nat) (t : Nd) (v : Value) (w : World) (h : TAt A n t v w) (hc : cntN t ≤ 5000) :
    Calls Try.prog 20 #[v] w fun e w' => ∃ u, e = .returned u ∧ w'.ownsRow w.heap.size 24 7 u (leavesN t).length (rowC ((leavesN t).map fun t => (t, leafV))) ∧ (∀ x ∈ leavesN t, HdOk x.h) ∧ Below w.heap.size w w' := by
  have HEN : Hid (∀ W, Below w.heap.size w W → Calls Try.prog 36 #[v] W fun e w' => e = .returned (.bool true) ∧ Below W.heap.size W w') := fun W hb => ends_any n t v W (h.next hb) hc
  obtain ⟨ba, bc, rfl, hkl⟩ := h.val
  have HT : Hid (∀ W, Below w.heap.size w W → TAt (fun k => k < w.heap.size) n t (ndV t.h (.slice ba t.kids.length bc)) W) := fun W hb => (h.imp (B := fun k => k < w.heap.size) (fun k hk _ => hk)).next hb
  clear h
  have HND : Hid (∀ W, Calls Try.prog 33 #[ndV t.h (.slice ba t.kids.length bc)] W fun e w' => e = .returned (.func (.func 44) #[] #[.pointer (some ⟨W.heap.size, 0, none⟩)]) ∧ Row7 W.heap.size 0 t.h (.slice ba t.kids.length bc) w' ∧ w'.heap.size = W.heap.size + 1 ∧ Below W.heap.size W w') := fun W => nodes_any t.h (.slice ba t.kids.length bc) W
  refine (callsIn_wide (n := 9)).1 (callsIn_of_wp_marks Try.func20 rfl trivial ?_ rfl)
  simp only [Try.ntmps20, List.size_toArray, List.length_cons, List.length_nil, Nat.reduceAdd, Nat.reduceSub, Array.replicate_succ, Array.replicate_zero, List.push_toArray, List.append_toArray, List.nil_append, List.cons_append]
  obtain ⟨hd, hhd⟩ : ∃ hd, t.h = hd := ⟨_, rfl⟩
  obtain ⟨kl, hkl2⟩ : ∃ kl, t.kids.length = kl := ⟨_, rfl⟩
  have HE : Hid (t.h = hd ∧ t.kids.length = kl) := ⟨hhd, hkl2⟩
  rw [hhd, hkl2] at HND HEN ⊢
  rw [hkl2] at hkl
  clear hhd hkl2
  obtain ⟨zk, zn, zf, zr, zt, zb⟩ := hd
  unfold ndV at HND HEN ⊢
  simp only at HND HEN ⊢
  have hB0 : Below w.heap.size w (w.alloc (Obj.cells #[Value.string zk, Value.bool zn, Value.string zf, Value.int IntKind.i64 zr, Value.int IntKind.i64 zt, Value.int IntKind.i64 zb, Value.slice ba kl bc] 24)) := (Below.refl _ _).alloc (Nat.le_refl _) _
  have r7 : Row7 w.heap.size 0 ⟨zk, zn, zf, zr, zt, zb⟩ (.slice ba kl bc) (w.alloc (Obj.cells #[Value.string zk, Value.bool zn, Value.string zf, Value.int IntKind.i64 zr, Value.int IntKind.i64 zt, Value.int IntKind.i64 zb, Value.slice ba kl bc] 24)) := by refine ⟨?_, ?_, ?_, ?_, ?_, ?_, ?_⟩ <;> simp
  have hen1 := HEN.out _ hB0
  gi_wp2
  refine ⟨trivial, (callsIn_wide.2 hen1).mono ?_⟩
  rintro e w1 ⟨rfl, hb1⟩
  have hB1 : Below w.heap.size w w1 := below_next hB0 hb1
  have r71 := r7.but (D := fun _ => False) (But.of_next hb1) (by simp) (fun h => h)
  have hP1 : w.heap.size + 1 ≤ w1.heap.size := by have := hb1.size; simpa using this
  clear hen1 r7 hb1 hB0 HEN
  have hA1 : Below w1.heap.size w1 (w1.alloc (Obj.cells #[.slice none 0 0] 22)) := (Below.refl _ _).alloc (Nat.le_refl _) _
  have r72 := r71.but (D := fun _ => False) (But.of_next hA1) (by omega) (fun h => h)
  have b11 : Bx w1.heap.size (.slice none 0 0) 22 (w1.alloc (Obj.cells #[.slice none 0 0] 22)) := bx_new _ _ rfl
  obtain ⟨r0, r1, r2, r3, r4, r5, r6⟩ := r72
  simp only [Nat.zero_add] at r1 r2 r3 r4 r5 r6
  have hnd1 := HND.out (w1.alloc (Obj.cells #[.slice none 0 0] 22))
  clear HND r71
  gi_wp2
  refine ⟨trivial, (callsIn_wide.2 hnd1).mono ?_⟩
  rintro e w2 ⟨rfl, hr7, hsz, hb2⟩
  have hb : Below w.heap.size w w2 := below_next (below_next hB1 hA1) hb2
  have hv0 : VL w2.heap.size w1.heap.size [] w2 := ⟨[], _, b11.next hb2, World.ownsRow_nil _ _ _ _, rfl, by simp⟩
  have hr : Row7 (w1.heap.size + 1) 0 t.h (.slice ba t.kids.length bc) w2 := by
    rw [HE.out.1, HE.out.2]
    simpa using hr7
  have HT2 := HT.out w2 hb
  have HVV : Hid (VL w2.heap.size w1.heap.size [] w2) := hv0
  have hsz2 : w2.heap.size = w1.heap.size + 1 + 1 := by simpa using hsz
  simp only [World.size_alloc]
  clear hnd1 hr7 hb2 r0 r1 r2 r3 r4 r5 r6 hv0 HT HE b11 hB1 hA1 hsz
  obtain ⟨P4, HP4⟩ : ∃ P4, Hid (w1.heap.size + 1 = P4) := ⟨_, rfl⟩
  obtain ⟨P3, HP3⟩ : ∃ P3, Hid (w1.heap.size = P3) := ⟨_, rfl⟩
  obtain ⟨P, HP⟩ : ∃ P, Hid (P = w.heap.size) := ⟨_, rfl⟩
  have ho : P < P3 ∧ P3 < P4 ∧ P4 < w2.heap.size := by have := HP4.out; have := HP3.out; have := HP.out; omega
  rw [HP4.out] at hr ⊢
  rw [HP3.out] at HVV ⊢
  rw [← HP.out] at hb HT2 ⊢
  have HO : Hid (P < P3 ∧ P3 < P4 ∧ P4 < w2.heap.size) := ho
  clear hP1 hsz2 HP3 HP4
  gi_wp2
  refine range_nodesM (q := 9) (by omega) (N := 5000) (A0 := fun k => k < P) P w hb (by omega) (by omega) hc HT2 hr rfl rfl (VL w2.heap.size P3) (DL P3) (fun _ => False)
    (fun pre W W' hv he hs => hv.same he)
    (fun pre W k hv hk => ⟨(hv.old hk).1, by rcases (hv.old hk).2 with h | h <;> omega⟩) HVV.out (fun k hk => ⟨by omega, fun h => by rcases (HVV.out.old h).2 with h | h <;> omega⟩) (fun W W' h => h.elim)
    (fun s x a' W' => ∃ K, PartB s x K W' ∧ a' = { tmps := #[Value.agg #[Value.string zk, Value.bool zn, Value.string zf, Value.int IntKind.i64 zr, Value.int IntKind.i64 zt, Value.int IntKind.i64 zb, Value.slice ba kl bc], .pointer (some ⟨P, 0, none⟩), .slice none 0 0, .pointer (some ⟨P3, 0, none⟩), .pointer (some ⟨K, 0, none⟩), Value.agg #[Value.string zk, Value.bool zn, Value.string zf, Value.int IntKind.i64 zr, Value.int IntKind.i64 zt, Value.int IntKind.i64 zb, Value.slice ba kl bc], .bool true, .bool false, Value.agg #[Value.string zk, Value.bool zn, Value.string zf, Value.int IntKind.i64 zr, Value.int IntKind.i64 zt, Value.int IntKind.i64 zb, Value.slice ba kl bc], .func (.func 44) #[] #[.pointer (some ⟨P4, 0, none⟩)], x.2.1, .int .i64 x.2.2, undef, undef, undef, undef, undef, undef, undef, undef, undef, undef, undef, undef], defers := [] })
    (fun s x a W W' ⟨K, h1, h2⟩ hb' hl => ⟨K, h1.loop hb' hl, h2⟩) ?_ ?_ ?_ (fun W h => h.elim)
  · rintro l ⟨xt, xv, xd⟩ W K ⟨nx, Ax, hx⟩ hK
    obtain ⟨xa, xc, hxv, hxl⟩ := hx.val
    have hok : HdOk xt.h := by
      cases nx with
      | zero => exact hx.elim
      | succ m => obtain ⟨_, _, _, h, _⟩ := hx; exact h
    have hln : xt.kids.length ≤ 140737488351232 := by
      cases nx with
      | zero => exact hx.elim
      | succ m => obtain ⟨_, _, _, _, _, _, h, _⟩ := hx; exact h
    simp only at hxv
    subst hxv
    have HK := fun (p : PartB W.heap.size (xt, ndV xt.h (.slice xa xt.kids.length xc), xd) W.heap.size (W.alloc (Obj.cells #[.string xt.h.kind, .bool xt.h.named, .string xt.h.field, .int .i64 xt.h.frm, .int .i64 xt.h.to, .int .i64 xt.h.bad, .slice xa xt.kids.length xc] 24))) => hK _ _ ⟨W.heap.size, p, rfl⟩ ((Below.refl _ _).alloc (Nat.le_refl _) _)
    have HK2 := HK ⟨Nat.le_refl _, hok, xa, xc, rfl, hln, World.alloc_heap_new _ _⟩
    clear hK HK hx hok hln hxl
    simp only [encA, ndV] at HK2 ⊢
    generalize xt.h = xh at *
    obtain ⟨xk, xn, xf, xr, xt, xb⟩ := xh
    simp only at *
    gi_wp2
    exact HK2
  · rintro l A' pre x a' W s hAs hDs hs2 hv hA hok ⟨K, ⟨hsK, hxok, xa, xc, hxv, hxl, hbk⟩, rfl⟩ hbw hsw
    obtain ⟨i0, hi, hz0, hz1, hz2⟩ := info_parts infoNd
    obtain ⟨ll, u, b1, hown, hll, hoks⟩ := hv.val
    obtain ⟨_, hlen, _, _, hpre⟩ := hok
    have hl5 : ll.length ≤ 5000 := by
      rw [hll]
      refine Nat.le_trans (List.length_filter_le _ _) ?_
      simp; omega
    obtain ⟨ua, uc, rfl, hcap, _⟩ := own_form hown
    have hob : ∀ k, (Value.slice ua ll.length uc).ownBlock = some k → k < s := fun k hk => hDs k (.inr ⟨_, b1.cell, hk⟩)
    have HB1 : Hid (Bx P3 (.slice ua ll.length uc) 22 W) := b1
    have hKW : K < W.heap.size := (Array.getElem?_eq_some_iff.1 hbk).1
    have HFX : Hid (ll = (pre.map (·.1)).filter isLeaf ∧ (∀ t ∈ ll, HdOk t.h) ∧ HdOk x.1.h ∧ s ≤ K ∧ K < W.heap.size ∧ w2.heap.size + 2 ≤ s) := ⟨hll, hoks, hxok, hsK, hKW, hs2⟩
    have HOWN : Hid (W.ownsRow w2.heap.size 24 7 (.slice ua ll.length uc) ll.length (rowC (ll.map fun t => (t, leafV)))) := hown
    have HOB : Hid (∀ k, (Value.slice ua ll.length uc).ownBlock = some k → k < s) := hob
    have p6 : W.cell? ⟨K, 6, none⟩ = some (.slice xa x.1.kids.length xc) := by simp [World.cell?, hbk, cells7]
    have f6 : W.frozen? ⟨K, 6, none⟩ = false := by simp [World.frozen?, hbk]
    rw [hxv]
    by_cases hk0 : x.1.kids.length = 0
    · have hleaf : isLeaf x.1 = true := by unfold isLeaf; rw [List.isEmpty_iff]; exact List.eq_nil_of_length_eq_zero hk0
      have HLF : Hid (isLeaf x.1 = true) := hleaf
      have hbk1 : (W.setCell ⟨K, 6, none⟩ (.slice none 0 0)).heap[K]? = some (.cells (cells7 x.1.h (.slice none 0 0)).toArray 24 (0, 0)) := by
        have := heap_set (o := 6) (.slice none 0 0) hbk
        simpa [cells7] using this
      have HB0 : Hid (But (fun k => s ≤ k) W (W.setCell ⟨K, 6, none⟩ (.slice none 0 0))) := (But.refl _ W).setCell K 6 _ hsK
      rw [hk0] at p6 ⊢
      clear hll hoks hxok hsK hKW hs2 hown hob b1 hbk hv hA hbw hsw ho HVV hc hr HT2 hkl hpre hxv hleaf hxl hk0 hAs hDs
      have HBK : Hid ((W.setCell ⟨K, 6, none⟩ (.slice none 0 0)).heap[K]? = some (.cells (cells7 x.1.h (.slice none 0 0)).toArray 24 (0, 0))) := hbk1
      clear hbk1
      have HXH : Hid (x.1.h = x.1.h) := rfl
      generalize hxh : x.1.h = xh at HBK ⊢
      have HX : Hid (x.1.h = xh) := hxh
      clear hxh HXH
      obtain ⟨xk, xn, xf, xr, xt, xb⟩ := xh
      unfold ndV
      gi_wp2_with fail
      have HB1' : Hid (Bx P3 (.slice ua ll.length uc) 22 (W.setCell ⟨K, 6, none⟩ (.slice none 0 0))) := HB1.out.same (HB0.out.block P3 HB1.out.lt (by have := HFX.out.2.2.2.2.2; have := HO.out; omega))
      have HOWN' : Hid ((W.setCell ⟨K, 6, none⟩ (.slice none 0 0)).ownsRow w2.heap.size 24 7 (.slice ua ll.length uc) ll.length (rowC (ll.map fun t => (t, leafV)))) := ownsRow_but HOWN.out HB0.out (fun j hj e => by have := HOB.out j hj; omega)
      clear p6 f6
      generalize W.setCell ⟨K, 6, none⟩ (.slice none 0 0) = W1 at *
      have y := fun o => (show W1.drew.cell? ⟨K, o, none⟩ = (cells7 ⟨xk, xn, xf, xr, xt, xb⟩ (.slice none 0 0)).toArray[o]? from by show W1.cell? _ = _; simp [World.cell?, HBK.out])
      have hS0 : W1.drew.cell? ⟨P3, 0, none⟩ = some (.slice ua ll.length uc) ∧ W1.drew.cell? ⟨K, 0, none⟩ = some (.string xk) ∧ W1.drew.cell? ⟨K, 1, none⟩ = some (.bool xn) ∧ W1.drew.cell? ⟨K, 2, none⟩ = some (.string xf) ∧ W1.drew.cell? ⟨K, 3, none⟩ = some (.int .i64 xr) ∧ W1.drew.cell? ⟨K, 4, none⟩ = some (.int .i64 xt) ∧ W1.drew.cell? ⟨K, 5, none⟩ = some (.int .i64 xb) ∧ W1.drew.cell? ⟨K, 6, none⟩ = some (.slice none 0 0) := ⟨HB1'.out.cell, y 0, y 1, y 2, y 3, y 4, y 5, y 6⟩
      clear y
      refine wpIn_region_L (fun W => W.cell? ⟨P3, 0, none⟩ = some (.slice ua ll.length uc) ∧ W.cell? ⟨K, 0, none⟩ = some (.string xk) ∧ W.cell? ⟨K, 1, none⟩ = some (.bool xn) ∧ W.cell? ⟨K, 2, none⟩ = some (.string xf) ∧ W.cell? ⟨K, 3, none⟩ = some (.int .i64 xr) ∧ W.cell? ⟨K, 4, none⟩ = some (.int .i64 xt) ∧ W.cell? ⟨K, 5, none⟩ = some (.int .i64 xb) ∧ W.cell? ⟨K, 6, none⟩ = some (.slice none 0 0)) 4 (by kernel_rfl) 8 rfl (by kernel_rfl) (by rintro ⟨_, _, h⟩; rcases h with ⟨h, _⟩ | ⟨h, _⟩ <;> cases h) ?_
      refine wpAnyL_take' (i := 0) (v := ?_) (oi := { dst := some 17, op := Op.load 22 (Operand.tmp 3), type := 22, pos := "node.go:47", after := #[], guard := none }) rfl (by kernel_rfl) (by kernel_rfl) (by kernel_rfl) (by kernel_rfl) rfl (fun _ _ _ h => h) (Or.inl ⟨by rfl, ?_⟩) hS0 ?_
      rotate_left
      · rintro W ⟨s1, y0, y1, y2, y3, y4, y5, y6⟩
        go_simp
        try with_reducible rfl
      simp only [Act.put, List.setIfInBounds_toArray, List.set_cons_zero, List.set_cons_succ]
      refine wpAnyL_take' (i := 1) (v := ?_) (oi := { dst := some 18, op := Op.load 24 (Operand.tmp 4), type := 24, pos := "node.go:47", after := #[], guard := none }) rfl (by kernel_rfl) (by kernel_rfl) (by kernel_rfl) (by kernel_rfl) rfl (fun _ _ _ h => h) (Or.inl ⟨by rfl, ?_⟩) hS0 ?_
      rotate_left
      · rintro W ⟨s1, y0, y1, y2, y3, y4, y5, y6⟩
        go_simp
        try with_reducible rfl
      simp only [Act.put, List.setIfInBounds_toArray, List.set_cons_zero, List.set_cons_succ]
      refine wpAnyL_take' (i := 2) (v := ?_) (oi := { dst := some 19, op := Op.call { callee := Callee.builtin Builtin.len, args := #[Operand.tmp 17], argTypes := #[22] }, type := 3, pos := "node.go:47", after := #[{ on := 0, ground := Ground.data }], guard := none }) rfl (by kernel_rfl) (by kernel_rfl) (by kernel_rfl) (by kernel_rfl) rfl (fun _ _ _ h => h) (Or.inl ⟨by rfl, ?_⟩) hS0 ?_
      rotate_left
      · rintro W ⟨s1, y0, y1, y2, y3, y4, y5, y6⟩
        go_simp
        try with_reducible rfl
      simp only [Act.put, List.setIfInBounds_toArray, List.set_cons_zero, List.set_cons_succ]
      refine wpAnyL_one' (i := 3) (o := { dst := some 20, op := Op.buildSlice 22 1 #[(0, Operand.const (Value.agg #[Value.string { data := #[] }, Value.bool false, Value.string { data := #[] }, Value.int IntKind.i64 0, Value.int IntKind.i64 0, Value.int IntKind.i64 0, Value.slice none 0 0]))], type := 22, pos := "node.go:47", after := #[], guard := none }) (by kernel_rfl) rfl rfl (fun KQ hK => ?_)
      go_simp
      have ba : Below W1.drew.heap.size W1.drew (W1.drew.alloc (Obj.cells #[.string ⟨#[]⟩, .bool false, .string ⟨#[]⟩, .int .i64 0, .int .i64 0, .int .i64 0, .slice none 0 0] 24)) := (Below.refl _ _).alloc (Nat.le_refl _) _
      have hKd : K < W1.drew.heap.size := (Array.getElem?_eq_some_iff.1 HBK.out).1
      have HNW : Hid (∀ (q : Nat) (u : Value), (cells7 noneH leafV)[q]? = some u → (W1.drew.alloc (Obj.cells #[.string ⟨#[]⟩, .bool false, .string ⟨#[]⟩, .int .i64 0, .int .i64 0, .int .i64 0, .slice none 0 0] 24)).cell? ((⟨W1.heap.size, 0, none⟩ : Addr).add q) = some u) := cells_new (cells7 noneH leafV) W1.drew 24
      have HOA : Hid ((W1.drew.alloc (Obj.cells #[.string ⟨#[]⟩, .bool false, .string ⟨#[]⟩, .int .i64 0, .int .i64 0, .int .i64 0, .slice none 0 0] 24)).ownsRow w2.heap.size 24 7 (.slice ua ll.length uc) ll.length (rowC (ll.map fun t => (t, leafV)))) := ownsRow_next (ownsRow_but HOWN'.out (But.refl (fun _ => False) W1).drew (fun _ _ h => h)) ba
      have HBa : Hid (Bx P3 (.slice ua ll.length uc) 22 (W1.drew.alloc (Obj.cells #[.string ⟨#[]⟩, .bool false, .string ⟨#[]⟩, .int .i64 0, .int .i64 0, .int .i64 0, .slice none 0 0] 24))) := (show Bx P3 _ _ W1.drew from HB1'.out).next ba
      have HWa : Hid (But (fun k => s ≤ k) W (W1.drew.alloc (Obj.cells #[.string ⟨#[]⟩, .bool false, .string ⟨#[]⟩, .int .i64 0, .int .i64 0, .int .i64 0, .slice none 0 0] 24))) := HB0.out.drew.trans (But.of_next ba)
      refine hK.out _ _ (fun _ => ⟨(ba.cell (p := ⟨P3, 0, none⟩) HB1'.out.lt).trans hS0.1, (ba.cell (p := ⟨K, 0, none⟩) hKd).trans hS0.2.1, (ba.cell (p := ⟨K, 1, none⟩) hKd).trans hS0.2.2.1, (ba.cell (p := ⟨K, 2, none⟩) hKd).trans hS0.2.2.2.1, (ba.cell (p := ⟨K, 3, none⟩) hKd).trans hS0.2.2.2.2.1, (ba.cell (p := ⟨K, 4, none⟩) hKd).trans hS0.2.2.2.2.2.1, (ba.cell (p := ⟨K, 5, none⟩) hKd).trans hS0.2.2.2.2.2.2.1, (ba.cell (p := ⟨K, 6, none⟩) hKd).trans hS0.2.2.2.2.2.2.2⟩) ?_
      clear hK hS0 ba hKd
      rw [show (W1.alloc (Obj.cells #[.string ⟨#[]⟩, .bool false, .string ⟨#[]⟩, .int .i64 0, .int .i64 0, .int .i64 0, .slice none 0 0] 24)).drew = W1.drew.alloc (Obj.cells #[.string ⟨#[]⟩, .bool false, .string ⟨#[]⟩, .int .i64 0, .int .i64 0, .int .i64 0, .slice none 0 0] 24) from rfl]
      generalize hWa : (W1.drew.alloc (Obj.cells #[.string ⟨#[]⟩, .bool false, .string ⟨#[]⟩, .int .i64 0, .int .i64 0, .int .i64 0, .slice none 0 0] 24)) = Wa at *
      generalize W1.heap.size = ga at *
      clear hWa
      try simp only [Act.put, List.setIfInBounds_toArray, List.set_cons_zero, List.set_cons_succ]
      refine wpAnyL_one' (i := 4) (o := { dst := some 21, op := Op.call { callee := Callee.builtin Builtin.append, args := #[Operand.tmp 17, Operand.tmp 20], argTypes := #[22, 22] }, type := 22, pos := "node.go:47", after := #[{ on := 0, ground := Ground.data }, { on := 3, ground := Ground.data }, { on := 0, ground := Ground.phase }, { on := 1, ground := Ground.phase }, { on := 2, ground := Ground.phase }, { on := 3, ground := Ground.phase }], guard := none }) (by kernel_rfl) rfl rfl (fun KQ hK => ?_)
      rw [if_pos (by rfl)]
      have hbs : w2.heap.size ≤ Wa.heap.size := by have := HWa.out.size; have := HFX.out; omega
      refine wp_append_ownq (.tmp 17) (.tmp 20) 22 rfl w2.heap.size 24 i0 _ 7 88 Try.underlying22 hi hz0 hz1 hz2 rfl (by decide) _ _ _ rfl HOA.out ⟨ga, 0, none⟩ 1 (cells7 noneH leafV) rfl rfl HNW.out (fun u hu => by simp only [cells7, List.mem_cons, List.not_mem_nil, or_false] at hu; rcases hu with rfl | rfl | rfl | rfl | rfl | rfl | rfl <;> rfl) (by unfold maxLen; omega) (by omega) hbs ?_
      intro v' w4 hown' hgr hat
      obtain ⟨g, cap, rfl, hB2, hg4, hcap', hmx⟩ := own_block hown'
      refine hK.out _ _ (fun h => absurd h (by omega)) ?_
      have hrl : (rowC (ll.map fun t => (t, leafV))).length = ll.length * 7 := by rw [rowC_len]; simp
      have hP3 : P3 < w2.heap.size := by have := HO.out; omega
      have hob3 : (Value.slice ua ll.length uc).ownBlock ≠ some P3 := fun e => by have := (World.ownsRow.lt HOA.out P3 e).1; omega
      have b4 : Bx P3 (.slice ua ll.length uc) 22 w4 := HBa.out.same (hgr.block P3 HBa.out.lt (fun e => hob3 e.symm))
      have HEND : Hid (∀ E, (E = (set7 w4 g (ll.length * 7) x.1.h leafV).setCell ⟨P3, 0, none⟩ (.slice (some ⟨g, 0, none⟩) (ll.length + 1) cap) ∨ E = set7 (w4.setCell ⟨P3, 0, none⟩ (.slice (some ⟨g, 0, none⟩) (ll.length + 1) cap)) g (ll.length * 7) x.1.h leafV) → VL w2.heap.size P3 (pre ++ [x]) E ∧ But (fun k => DL P3 W k ∨ s ≤ k) W E ∧ ∀ k, DL P3 E k → DL P3 W k ∨ W.heap.size ≤ k) := fun E hE =>
        VL.put (c := cap) HB1.out HFX.out.1 HFX.out.2.1 hP3 HFX.out.2.2.2.1 HFX.out.2.2.2.2.1 HWa.out HWa.out.size hgr hown' (hat g rfl) hB2 HLF.out HFX.out.2.2.1 (by have := HFX.out.2.2.2.2.2; omega) hob3 hE
      rw [HX.out] at HEND
      have q := fun j u (hj : (cells7 noneH leafV)[j]? = some u) => own_cells hown' hrl rfl j u hj
      have q0 := q 0 _ rfl
      have q1 := q 1 _ rfl
      have q2 := q 2 _ rfl
      have q3 := q 3 _ rfl
      have q4 := q 4 _ rfl
      have q5 := q 5 _ rfl
      have q6 := q 6 _ rfl
      have f0 := fun o => own_frozen hown' rfl o
      have c3 := b4.cell
      have f3 := b4.frozen
      simp only [noneH, Nat.add_zero] at q0 q1 q2 q3 q4 q5 q6
      have hgP : g ≠ P3 := by omega
      have hPg : P3 ≠ g := by omega
      clear hK hown' hgr hat hB2 hg4 hbs HOA HNW HBa HWa b4 q hrl hP3 hob3 HBK HB1' HOWN' HOWN HOB HB1
      try simp only [Act.put, List.setIfInBounds_toArray, List.set_cons_zero, List.set_cons_succ]
      refine wpAnyL_two (i := 5) (j := 7) (oi := { dst := some 22, op := Op.indexAddr 22 (Operand.tmp 21) (Operand.tmp 19), type := 0, pos := "node.go:47", after := #[{ on := 4, ground := Ground.data }, { on := 2, ground := Ground.data }, { on := 0, ground := Ground.phase }, { on := 1, ground := Ground.phase }, { on := 2, ground := Ground.phase }, { on := 3, ground := Ground.phase }, { on := 4, ground := Ground.phase }, { on := 7, ground := Ground.gcOnly Departure.appendInPlace }], guard := none }) (oj := { dst := none, op := Op.store 22 (Operand.tmp 3) (Operand.tmp 21), type := 0, pos := "node.go:47", after := #[{ on := 4, ground := Ground.data }, { on := 4, ground := Ground.chain }, { on := 6, ground := Ground.textOnly Departure.appendInPlace }, { on := 0, ground := Ground.phase }, { on := 1, ground := Ground.phase }, { on := 2, ground := Ground.phase }, { on := 3, ground := Ground.phase }, { on := 4, ground := Ground.phase }, { on := 5, ground := Ground.textOnly Departure.appendInPlace }, { on := 6, ground := Ground.textOnly Departure.appendInPlace }], guard := none }) (by kernel_rfl) rfl rfl rfl rfl (fun KQ hK => ?_) (fun KQ hK => ?_)
      · go_simp
        rw [if_pos (by omega)]
        try go_simp
        refine hK.out _ _ (fun h => absurd h (by omega)) ?_
        clear hK
        try simp only [Act.put, List.setIfInBounds_toArray, List.set_cons_zero, List.set_cons_succ]
        refine wpAnyL_two (i := 6) (j := 7) (oi := { dst := none, op := Op.store 24 (Operand.tmp 22) (Operand.tmp 18), type := 0, pos := "node.go:47", after := #[{ on := 5, ground := Ground.data }, { on := 1, ground := Ground.data }, { on := 4, ground := Ground.chain }, { on := 0, ground := Ground.phase }, { on := 1, ground := Ground.phase }, { on := 2, ground := Ground.phase }, { on := 3, ground := Ground.phase }, { on := 4, ground := Ground.phase }, { on := 7, ground := Ground.gcOnly Departure.appendInPlace }], guard := none }) (oj := { dst := none, op := Op.store 22 (Operand.tmp 3) (Operand.tmp 21), type := 0, pos := "node.go:47", after := #[{ on := 4, ground := Ground.data }, { on := 4, ground := Ground.chain }, { on := 6, ground := Ground.textOnly Departure.appendInPlace }, { on := 0, ground := Ground.phase }, { on := 1, ground := Ground.phase }, { on := 2, ground := Ground.phase }, { on := 3, ground := Ground.phase }, { on := 4, ground := Ground.phase }, { on := 5, ground := Ground.textOnly Departure.appendInPlace }, { on := 6, ground := Ground.textOnly Departure.appendInPlace }], guard := none }) (by kernel_rfl) rfl rfl rfl rfl (fun KQ hK => ?_) (fun KQ hK => ?_)
        · go_simp
          refine hK.out _ _ (fun h => absurd h (by omega)) ?_
          clear hK
          try simp only [Act.put, List.setIfInBounds_toArray, List.set_cons_zero, List.set_cons_succ]
          refine wpAnyL_one' (i := 7) (o := { dst := none, op := Op.store 22 (Operand.tmp 3) (Operand.tmp 21), type := 0, pos := "node.go:47", after := #[{ on := 4, ground := Ground.data }, { on := 4, ground := Ground.chain }, { on := 6, ground := Ground.textOnly Departure.appendInPlace }, { on := 0, ground := Ground.phase }, { on := 1, ground := Ground.phase }, { on := 2, ground := Ground.phase }, { on := 3, ground := Ground.phase }, { on := 4, ground := Ground.phase }, { on := 5, ground := Ground.textOnly Departure.appendInPlace }, { on := 6, ground := Ground.textOnly Departure.appendInPlace }], guard := none }) (by kernel_rfl) rfl rfl (fun KQ hK => ?_)
          go_simp
          refine hK.out _ _ (fun h => absurd h (by omega)) ?_
          clear hK
          try simp only [Act.put, List.setIfInBounds_toArray, List.set_cons_zero, List.set_cons_succ]
          refine wpAnyL_done (by kernel_rfl) ?_ _
          clear q0 q1 q2 q3 q4 q5 q6 f0 c3 f3
          gi_wp2_with fail
          exact HEND.out _ (.inl rfl)
        · go_simp
          refine hK.out _ _ (fun h => absurd h (by omega)) ?_
          clear hK
          try simp only [Act.put, List.setIfInBounds_toArray, List.set_cons_zero, List.set_cons_succ]
          refine wpAnyL_one' (i := 6) (o := { dst := none, op := Op.store 24 (Operand.tmp 22) (Operand.tmp 18), type := 0, pos := "node.go:47", after := #[{ on := 5, ground := Ground.data }, { on := 1, ground := Ground.data }, { on := 4, ground := Ground.chain }, { on := 0, ground := Ground.phase }, { on := 1, ground := Ground.phase }, { on := 2, ground := Ground.phase }, { on := 3, ground := Ground.phase }, { on := 4, ground := Ground.phase }, { on := 7, ground := Ground.gcOnly Departure.appendInPlace }], guard := none }) (by kernel_rfl) rfl rfl (fun KQ hK => ?_)
          go_simp
          refine hK.out _ _ (fun h => absurd h (by omega)) ?_
          clear hK
          try simp only [Act.put, List.setIfInBounds_toArray, List.set_cons_zero, List.set_cons_succ]
          refine wpAnyL_done (by kernel_rfl) ?_ _
          clear q0 q1 q2 q3 q4 q5 q6 f0 c3 f3
          gi_wp2_with fail
          exact HEND.out _ (.inr rfl)
      · go_simp
        refine hK.out _ _ (fun h => absurd h (by omega)) ?_
        clear hK
        try simp only [Act.put, List.setIfInBounds_toArray, List.set_cons_zero, List.set_cons_succ]
        refine wpAnyL_one' (i := 5) (o := { dst := some 22, op := Op.indexAddr 22 (Operand.tmp 21) (Operand.tmp 19), type := 0, pos := "node.go:47", after := #[{ on := 4, ground := Ground.data }, { on := 2, ground := Ground.data }, { on := 0, ground := Ground.phase }, { on := 1, ground := Ground.phase }, { on := 2, ground := Ground.phase }, { on := 3, ground := Ground.phase }, { on := 4, ground := Ground.phase }, { on := 7, ground := Ground.gcOnly Departure.appendInPlace }], guard := none }) (by kernel_rfl) rfl rfl (fun KQ hK => ?_)
        go_simp
        rw [if_pos (by omega)]
        try go_simp
        refine hK.out _ _ (fun h => absurd h (by omega)) ?_
        clear hK
        try simp only [Act.put, List.setIfInBounds_toArray, List.set_cons_zero, List.set_cons_succ]
        refine wpAnyL_one' (i := 6) (o := { dst := none, op := Op.store 24 (Operand.tmp 22) (Operand.tmp 18), type := 0, pos := "node.go:47", after := #[{ on := 5, ground := Ground.data }, { on := 1, ground := Ground.data }, { on := 4, ground := Ground.chain }, { on := 0, ground := Ground.phase }, { on := 1, ground := Ground.phase }, { on := 2, ground := Ground.phase }, { on := 3, ground := Ground.phase }, { on := 4, ground := Ground.phase }, { on := 7, ground := Ground.gcOnly Departure.appendInPlace }], guard := none }) (by kernel_rfl) rfl rfl (fun KQ hK => ?_)
        go_simp
        refine hK.out _ _ (fun h => absurd h (by omega)) ?_
        clear hK
        try simp only [Act.put, List.setIfInBounds_toArray, List.set_cons_zero, List.set_cons_succ]
        refine wpAnyL_done (by kernel_rfl) ?_ _
        clear q0 q1 q2 q3 q4 q5 q6 f0 c3 f3
        gi_wp2_with fail
        exact HEND.out _ (.inr rfl)
    · have HEND : Hid (VL w2.heap.size P3 (pre ++ [x]) W) := ⟨ll, _, HB1.out, HOWN.out, by
        rw [List.map_append, List.filter_append, ← hll]
        have : isLeaf x.1 = false := by
          unfold isLeaf
          cases hq : x.1.kids with
          | nil => rw [hq] at hk0; exact absurd rfl hk0
          | cons a b => rfl
        simp [this], hoks⟩
      have k1 : ¬ (x.1.kids.length : Int) = 0 := by omega
      clear hll hoks hxok hsK hKW hs2 hown hob b1 hbk hv hA hbw hsw ho HVV hc hr HT2 hkl hpre hxv hk0 hAs hDs HB1 HFX HOWN HOB
      generalize x.1.kids.length = xl at *
      generalize x.1.h = xh
      unfold ndV
      gi_wp2_with fail
      exact ⟨HEND.out, But.refl _ _, fun k hk => .inl hk⟩
  · intro xs W hxs hv hbw hsw hd
    obtain ⟨ll, u, b1, hown, hll, hoks⟩ := hv.val
    have HL : Hid (ll = leavesN t) := by
      show _ = _
      rw [hll]
      unfold leavesN
      rw [← hxs, List.map_map]
      rfl
    obtain ⟨ua, uc, rfl, hcap, _⟩ := own_form hown
    have c1 := b1.cell
    have HOWN : Hid ((W.putObj w2.heap.size (.deferred none)).ownsRow P 24 7 (.slice ua ll.length uc) ll.length (rowC (ll.map fun t => (t, leafV))) ∧ (∀ t ∈ ll, HdOk t.h) ∧ Below P w (W.putObj w2.heap.size (.deferred none))) := ⟨own_down (own_end hown hd) (by omega), hoks, below_end hbw (by omega) (by omega)⟩
    clear ho hkl hr HT2 HVV hc hv hbw hsw b1 hown hll hoks hcap hxs
    gi_wp2
    refine leave_one (v := .slice ua ll.length uc) hd (by simp [results, Try.f20, go_sem]) ⟨_, rfl, ?_, ?_, ?_⟩
    · rw [← HP.out, ← HL.out]; exact HOWN.out.1
    · rw [← HL.out]; exact HOWN.out.2.1
    · rw [← HP.out]; exact HOWN.out.2.2
end Go.Proofs.Ythmpnhjlblcgdaa
