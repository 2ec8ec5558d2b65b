/- At. -/
import Derived.Test.YthmpnhjlblcgdaaPIdx
import Derived.Test.YthmpnhjlblcgdaaPMoved
namespace Go.Proofs.Ythmpnhjlblcgdaa
open Go.RowKit

/-- The path of the least node that has the bytes, of one that has them. -/
inductive AtP (f t : Int) : Nd → List Int → Prop
  | stop (x : Nd) : (∀ i (hi : i < x.kids.length), hasB x.kids[i].h f t = false) → AtP f t x []
  | go (x : Nd) (j : Nat) (hj : j < x.kids.length) (p : List Int) : hasB x.kids[j].h f t = true → (∀ i (hi : i < x.kids.length), i < j → hasB x.kids[i].h f t = false) → AtP f t x.kids[j] p → AtP f t x ((j : Int) :: p)
theorem AtP.uniq {f t : Int} {x : Nd} {p : List Int} (h : AtP f t x p) : ∀ {q : List Int}, AtP f t x q → p = q := by
  induction h with
  | stop x h1 =>
    intro q hq
    cases hq with
    | stop _ _ => rfl
    | go _ j hj p h2 _ _ => rw [h1 j hj] at h2; cases h2
  | go x j hj p h1 h2 _ ih =>
    intro q hq
    cases hq with
    | stop _ h3 => rw [h3 j hj] at h1; cases h1
    | go _ j' hj' p' h1' h2' h3' =>
      have e : j = j' := by
        rcases Nat.lt_trichotomy j j' with h | h | h
        · rw [h2' j hj h] at h1; cases h1
        · exact h
        · rw [h2 j' hj' h] at h1'; cases h1'
      subst e
      rw [ih h3']
theorem idxN_cases (l : List Nd) (f t : Int) : (idxN l f t = -1 ∧ ∀ i (hi : i < l.length), hasB l[i].h f t = false) ∨ ∃ j, ∃ hj : j < l.length, idxN l f t = j ∧ hasB l[j].h f t = true ∧ ∀ i (hi : i < l.length), i < j → hasB l[i].h f t = false := by
  unfold idxN
  cases h : l.findIdx? (fun k => hasB k.h f t) with
  | none =>
    refine .inl ⟨rfl, fun i hi => ?_⟩
    exact List.findIdx?_eq_none_iff.1 h _ (List.getElem_mem hi)
  | some j =>
    obtain ⟨hj, h1, h2⟩ := List.findIdx?_eq_some_iff_getElem.1 h
    exact .inr ⟨j, hj, rfl, h1, fun i hi hij => by have := h2 i hij; simpa using this⟩
def encI (x : Int) : Value := .int .i64 x
abbrev OwnI (B : Nat) (l : List Int) (v : Value) (W : World) : Prop := W.ownsRow B 3 1 v l.length (l.map encI)
theorem infoI : (Try.prog.info? 3).map (fun i => (i.zero, i.size, i.bytes)) = some (some (.int .i64 0), 1, 8) := by kernel_rfl
theorem own_shape {W : World} {B n k : Nat} {e : TypeId} {v : Value} {xs : List Value} (h : W.ownsRow B e k v n xs) : ∃ ao cap, v = .slice ao n cap ∧ (ao = none → cap = 0) ∧ n ≤ cap := by
  rcases h.2 with ⟨rfl, hn⟩ | ⟨g, cap, cur, rfl, hB, hg, hle, _⟩
  · exact ⟨none, 0, by rw [hn], fun _ => rfl, by omega⟩
  · exact ⟨_, _, rfl, (fun h => by cases h), hle⟩
theorem own_base {W : World} {B C n k : Nat} {e : TypeId} {v : Value} {xs : List Value} (h : W.ownsRow B e k v n xs) (hC : C ≤ B) : W.ownsRow C e k v n xs := by
  obtain ⟨h1, h2⟩ := h
  refine ⟨h1, ?_⟩
  rcases h2 with h2 | ⟨g, cap, cur, hv, hB, h3⟩
  · exact .inl h2
  · exact .inr ⟨g, cap, cur, hv, Nat.le_trans hC hB, h3⟩
theorem TAt.succ {A : Nat → Prop} {n : Nat} {t : Nd} {ka : Option Addr} {kc : Nat} {W : World} (h : TAt A n t (ndV t.h (.slice ka t.kids.length kc)) W) : ∃ m, ∃ _ : HdOk t.h, ∃ _ : ka = none → kc = 0, ∃ _ : t.kids.length ≤ kc, ∃ _ : True, t.kids.length ≤ 140737488351232 ∧ KidsAt A m t.kids ka W := by
  cases n with
  | zero => exact h.elim
  | succ n =>
    obtain ⟨ba, bc, e, h1, h2, h3, h4, h5⟩ := h
    unfold ndV at e
    injection e with e
    have := congrArg (fun a : Array Value => a[6]?) e
    simp at this
    obtain ⟨rfl, rfl⟩ := this
    exact ⟨n, h1, h2, h3, trivial, h4, h5⟩
/-- The tree's box, as the walk down turns it. -/
structure AtV (A : Nat → Prop) (f t : Int) (t0 : Nd) (w : World) (P P1 P2 : Nat) (dn : List Int) (lk : Int) (x : Nd) (pv : Value) (W : World) : Prop where
  bw : Below w.heap.size w W
  bx : ∃ n xa xc, W.heap[P]? = some (.cells #[.string x.h.kind, .bool x.h.named, .string x.h.field, .int .i64 x.h.frm, .int .i64 x.h.to, .int .i64 x.h.bad, .slice xa x.kids.length xc] 24 (0, 0)) ∧ x.kids.length ≤ 140737488351232 ∧ KidsAt (fun k => k < w.heap.size) n x.kids xa w
  b1 : Bx P1 (.int .i64 f) 3 W
  b2 : Bx P2 (.int .i64 t) 3 W
  own : OwnI (P2 + 1) dn pv W
  lk0 : 0 ≤ lk
  dl : (dn.length : Int) ≤ lk
  lkc : lk + cntN x ≤ cntN t0
  path : ∀ q, AtP f t x q → AtP f t t0 (dn ++ q)

set_option maxRecDepth 100000 in
set_option maxHeartbeats 4000000 in
theorem at_any {A : Nat → Prop} (n : Nat) (t0 : Nd) (v : Value) (f t : Int) (w : World) (h : TAt A n t0 v w) (hc : cntN t0 ≤ 5000) :
    Calls Try.prog 27 #[v, .int .i64 f, .int .i64 t] w fun e w' => (∃ p pv, e = .returned pv ∧ OwnI w.heap.size p pv w' ∧ ((hasB t0.h f t = true ∧ AtP f t t0 p) ∨ (hasB t0.h f t = false ∧ p = []))) ∧ Below w.heap.size w w' := by
  have h1 := h.imp (B := fun k => k < w.heap.size) (fun k hk _ => hk)
  cases n with
  | zero => exact h.elim
  | succ n =>
  clear h
  obtain ⟨ba, bc, rfl, hok, _, _, hlb, hsubs0⟩ := h1
  have HK0 : Hid (KidsAt (fun k => k < w.heap.size) n t0.kids ba w) := hsubs0
  clear hsubs0 hok
  have HT0 : Hid (t0.h = t0.h ∧ t0.kids.length = t0.kids.length) := ⟨rfl, rfl⟩
  obtain ⟨hd, hhd⟩ : ∃ hd, t0.h = hd := ⟨_, rfl⟩
  obtain ⟨kl, hkl⟩ : ∃ kl, t0.kids.length = kl := ⟨_, rfl⟩
  have HE : Hid (t0.h = hd ∧ t0.kids.length = kl) := ⟨hhd, hkl⟩
  rw [hhd, hkl]
  rw [hkl] at hlb
  clear hhd hkl HT0
  obtain ⟨zk, zn, zf, zr, zt, zb⟩ := hd
  have HHB : Hid (hasB ⟨zk, zn, zf, zr, zt, zb⟩ f t = hasB ⟨zk, zn, zf, zr, zt, zb⟩ f t) := rfl
  obtain ⟨W0, hW0⟩ : ∃ W0, W0 = ((w.alloc (Obj.cells #[Value.string zk, Value.bool zn, Value.string zf, Value.int IntKind.i64 zr, Value.int IntKind.i64 zt, Value.int IntKind.i64 zb, Value.slice ba kl bc] 24)).alloc (Obj.cells #[.int .i64 f] 3)).alloc (Obj.cells #[.int .i64 t] 3) := ⟨_, rfl⟩
  have hB0 : Below w.heap.size w W0 := by rw [hW0]; exact (((Below.refl _ _).alloc (Nat.le_refl _) _).alloc (by simp) _).alloc (by simp; omega) _
  have hz : W0.heap.size = w.heap.size + 1 + 1 + 1 := by rw [hW0]; simp
  have b0 : W0.heap[w.heap.size]? = some (.cells #[Value.string zk, Value.bool zn, Value.string zf, Value.int IntKind.i64 zr, Value.int IntKind.i64 zt, Value.int IntKind.i64 zb, Value.slice ba kl bc] 24 (0, 0)) := by
    rw [hW0]; exact (Below.heap_alloc _ _ _ (by simp; omega)).trans ((Below.heap_alloc _ _ _ (by simp)).trans (World.alloc_heap_new w _))
  have b1 : Bx (w.heap.size + 1) (.int .i64 f) 3 W0 := by rw [hW0]; exact (bx_new _ _ (by simp)).alloc _
  have b2 : Bx (w.heap.size + 1 + 1) (.int .i64 t) 3 W0 := by rw [hW0]; exact bx_new _ _ (by simp)
  have hh := holds_any ⟨zk, zn, zf, zr, zt, zb⟩ (.slice ba kl bc) _ _ f t W0 b1.cell b2.cell
  rw [hW0] at hh
  unfold ndV at hh ⊢
  simp only at hh ⊢
  go_enter Try.func27, Try.ntmps27
  go_wp2_with fail
  refine hh.mono ?_
  rw [← hW0]
  rintro e w1 ⟨rfl, hb1⟩
  have hB1 : Below w.heap.size w w1 := below_next hB0 hb1
  have bb0 := (hb1.block w.heap.size (by omega)).trans b0
  have bb1 := b1.next hb1
  have bb2 := b2.next hb1
  have hs1 := hb1.size
  have HZ : Hid (W0.heap.size = w.heap.size + 1 + 1 + 1 ∧ W0.heap.size ≤ w1.heap.size) := ⟨hz, hs1⟩
  clear hh hW0 b0 b1 b2 hz hs1 hb1
  cases hhb : hasB ⟨zk, zn, zf, zr, zt, zb⟩ f t with
  | false =>
    clear HHB
    go_wp2_with fail
    go_ret
    exact ⟨⟨[], _, rfl, World.ownsRow_nil _ _ _ _, .inr ⟨hhb, rfl⟩⟩, hB1⟩
  | true =>
    clear HHB
    have hV0 : AtV A f t t0 w w.heap.size (w.heap.size + 1) (w.heap.size + 1 + 1) [] 0 t0 (.slice none 0 0) w1 :=
      ⟨hB1, ⟨n, ba, bc, by rw [HE.out.1, HE.out.2]; exact bb0, by rw [HE.out.2]; exact hlb, HK0.out⟩, bb1, bb2, World.ownsRow_nil _ _ _ _, by omega, by simp, by omega, fun q hq => by simpa using hq⟩
    have HV0 : Hid (AtV A f t t0 w w.heap.size (w.heap.size + 1) (w.heap.size + 1 + 1) [] 0 t0 (.slice none 0 0) w1) := hV0
    clear bb0 bb1 bb2 hV0 HK0
    obtain ⟨P, HP⟩ : ∃ P, Hid (P = w.heap.size) := ⟨_, rfl⟩
    rw [← HP.out] at HV0 HZ ⊢
    obtain ⟨P1, HP1⟩ : ∃ P1, Hid (P + 1 = P1) := ⟨_, rfl⟩
    rw [HP1.out] at HV0 HZ ⊢
    obtain ⟨P2, HP2⟩ : ∃ P2, Hid (P1 + 1 = P2) := ⟨_, rfl⟩
    rw [HP2.out] at HV0 HZ ⊢
    obtain ⟨i0, hi, hz0, hz1, hz2⟩ := info_parts infoI
    go_wp2_with fail
    go_loopw [8, 9] (fun pv lv wr => ∃ (dn : List Int) (lk : Int) (x : Nd), lv = .int .i64 lk ∧ P2 < wr.heap.size ∧ AtV A f t t0 w P P1 P2 dn lk x pv wr) (fun _ lv _ => 6000 - (intOf lv).toNat)
    case atStart => exact ⟨[], 0, t0, rfl, by have := HZ.out; have := HP2.out; have := HP1.out; omega, HV0.out⟩
    case round =>
      obtain ⟨dn, lk, x, rfl, hPw, hV⟩ := hrel
      obtain ⟨m, xa, xc, hbx, hxl, hKx⟩ := hV.bx
      have hKr : KidsAt (fun k => k < w.heap.size) m x.kids xa wr := hKx.but (D := fun k => w.heap.size ≤ k) (fun k hk h => by omega) (But.of_below hV.bw)
      have hidx := idx_any m x.kids xa xc P1 P2 f t wr hKr hxl hV.b1.cell hV.b2.cell
      have c6 : wr.cell? ⟨P, 6, none⟩ = some (.slice xa x.kids.length xc) := by simp [World.cell?, hbx]
      have HV : Hid (AtV A f t t0 w P P1 P2 dn lk x u8 wr) := hV
      have hlk0 := hV.lk0
      have hlk1 : lk + cntN x ≤ 5000 := by have := hV.lkc; omega
      obtain ⟨ao, cap, hsh, _, hcap⟩ := own_shape hV.own
      have hdl : dn.length ≤ 5000 := by have := hV.dl; have := cntN_pos x; omega
      rcases idxN_cases x.kids f t with ⟨hix, hno⟩ | ⟨j, hj, hix, hyes, hbef⟩
      · rw [hix] at hidx
        have HAT : Hid (AtP f t t0 dn) := by
          show AtP f t t0 dn
          have := hV.path [] (.stop x hno)
          simpa using this
        clear hV hKr hKx hbx hix hno
        subst hsh
        go_wp2_with fail
        refine hidx.mono ?_
        rintro e w3 ⟨rfl, hb3⟩
        clear hidx
        go_wp2_with fail
        go_ret
        have hle : w.heap.size ≤ P2 + 1 := by have := HP.out; have := HP1.out; have := HP2.out; omega
        refine ⟨⟨dn, _, rfl, ?_, (.inl ⟨hhb, HAT.out⟩)⟩, HV.out.bw.trans (hb3.mono HV.out.bw.size)⟩
        exact own_base (ownsRow_next HV.out.own hb3) hle
      · rw [hix] at hidx
        have hcj := cntN_kid hj
        have hct := cntL_take hj
        have hcl := cntL_le x.kids (j + 1)
        have hcl2 := cntL_len (x.kids.take j)
        have hcm := cntN_mk x
        rw [List.length_take, Nat.min_eq_left (Nat.le_of_lt hj)] at hcl2
        have HKJ : Hid (∀ W, Below w.heap.size w W → ∃ b off ka kc, xa = some ⟨b, off, none⟩ ∧ b < w.heap.size ∧ Row7 b (off + j * 7) x.kids[j].h (.slice ka x.kids[j].kids.length kc) W ∧ TAt (fun k => k < w.heap.size) m x.kids[j] (ndV x.kids[j].h (.slice ka x.kids[j].kids.length kc)) w) := fun W hb => by
          obtain ⟨b, off, ka, kc, e0, e1, e2, e3, e4⟩ := hKx j x.kids[j] (by simp [hj])
          exact ⟨b, off, ka, kc, e0, e1, e3.but (D := fun k => w.heap.size ≤ k) (But.of_below hb) e2 (by omega), e4⟩
        have HPATH : Hid (∀ q, AtP f t x.kids[j] q → AtP f t t0 ((dn ++ [(j : Int)]) ++ q)) := fun q hq => by
          have := hV.path _ (.go x j hj q hyes hbef hq)
          simpa using this
        have hcp0 := cntN_pos x.kids[j]
        generalize hyj : x.kids[j] = y at *
        clear hyj
        obtain ⟨ji, hji⟩ : ∃ ji : Int, (j : Int) = ji := ⟨_, rfl⟩
        have HJI : Hid ((j : Int) = ji) := hji
        have hlkn : lk + (ji + 1) + cntN y ≤ 5000 := by omega
        have HLKC : Hid (lk + (ji + 1) + cntN y ≤ cntN t0) := by show _ ≤ _; have := hV.lkc; omega
        have hji0 : 0 ≤ ji := by omega
        have hjl : ji < x.kids.length := by omega
        have w1' : IntKind.i64.wrap (ji + 1) = ji + 1 := IntWalk.i64_in _ (by omega)
        have w2' : IntKind.i64.wrap (lk + (ji + 1)) = lk + (ji + 1) := IntWalk.i64_in _ (by omega)
        have g1 : ¬ ji < 0 := by omega
        have g2 : ¬ (1048576 : Int) < lk + (ji + 1) := by omega
        have hjt : ji.toNat = j := by omega
        have HTN : Hid (ji.toNat = j) := hjt
        rw [hji] at hidx
        have hPl : P < wr.heap.size := (Array.getElem?_eq_some_iff.1 hbx).1
        have HBX : Hid (wr.heap[P]? = some (.cells #[.string x.h.kind, .bool x.h.named, .string x.h.field, .int .i64 x.h.frm, .int .i64 x.h.to, .int .i64 x.h.bad, .slice xa x.kids.length xc] 24 (0, 0))) := hbx
        clear hV hKr hKx hbx hix hyes hbef hct hcl hcl2 hcm hcj hji hjt
        subst hsh
        go_wp2_with fail
        refine hidx.mono ?_
        rintro e w3 ⟨rfl, hb3⟩
        have hown3 := ownsRow_next HV.out.own hb3
        have hPw3 : P2 + 1 ≤ w3.heap.size := Nat.le_trans hPw hb3.size
        clear hidx c6
        go_wp2_with (at_builtin; refine wpList_append_ownq rfl _ _ 35 rfl (P2 + 1) 3 i0 _ 1 8 Try.underlying35 hi hz0 hz1 hz2 rfl (by decide) _ _ _ rfl (ownsRow_next hown3 ((Below.refl _ _).alloc (Nat.le_refl _) _)) ⟨w3.heap.size, 0, none⟩ 1 [.int .i64 ji] rfl rfl (fun q u hq => ?_) (fun u hu => ?_) (by unfold maxLen; omega) (by omega) (by simp; omega) ?_)
        · exact cells_new [.int .i64 ji] w3 3 q u hq
        · simp only [List.mem_singleton] at hu; subst hu; rfl
        · intro v' w4 ho hg hk
          have hle : w.heap.size ≤ P ∧ P < P2 + 1 ∧ P1 < P2 + 1 := by have := HP.out; have := HP1.out; have := HP2.out; omega
          have hBz : Below w3.heap.size w3 (w3.alloc (Obj.cells #[.int .i64 ji] 3)) := (Below.refl _ _).alloc (Nat.le_refl _) _
          have hGo : But (fun k => P2 + 1 ≤ k) (w3.alloc (Obj.cells #[.int .i64 ji] 3)) w4 := (but_grown hg).mono (fun k _ h' => (World.ownsRow.lt hown3 k h').1)
          have hG3 : But (fun k => P2 + 1 ≤ k) wr w4 := ((But.of_next hb3).trans (But.of_next hBz)).trans hGo
          have hB4 : Below w.heap.size w w4 := HV.out.bw.trans (hG3.below (by have := HV.out.bw.size; omega) (fun k _ h' => by omega))
          have bx4 : w4.heap[P]? = some (.cells #[.string x.h.kind, .bool x.h.named, .string x.h.field, .int .i64 x.h.frm, .int .i64 x.h.to, .int .i64 x.h.bad, .slice xa x.kids.length xc] 24 (0, 0)) := (hG3.block P hPl (by omega)).trans HBX.out
          have d1 : Bx P1 (.int .i64 f) 3 w4 := HV.out.b1.same (hG3.block P1 HV.out.b1.lt (by omega))
          have d2 : Bx P2 (.int .i64 t) 3 w4 := HV.out.b2.same (hG3.block P2 HV.out.b2.lt (by omega))
          obtain ⟨b, off, ka, kc, rfl, hbl, hr7, hTj⟩ := HKJ.out w4 hB4
          have c6 : w4.cell? ⟨P, 6, none⟩ = some (.slice (some ⟨b, off, none⟩) x.kids.length xc) := by simp [World.cell?, bx4]
          have f0 : ∀ o, w4.frozen? ⟨P, o, none⟩ = false := fun o => by simp [World.frozen?, bx4]
          have v0 : w4.cell? ⟨P, 0, none⟩ = some (.string x.h.kind) := by simp [World.cell?, bx4]
          have v1 : w4.cell? ⟨P, 1, none⟩ = some (.bool x.h.named) := by simp [World.cell?, bx4]
          have v2 : w4.cell? ⟨P, 2, none⟩ = some (.string x.h.field) := by simp [World.cell?, bx4]
          have v3 : w4.cell? ⟨P, 3, none⟩ = some (.int .i64 x.h.frm) := by simp [World.cell?, bx4]
          have v4 : w4.cell? ⟨P, 4, none⟩ = some (.int .i64 x.h.to) := by simp [World.cell?, bx4]
          have v5 : w4.cell? ⟨P, 5, none⟩ = some (.int .i64 x.h.bad) := by simp [World.cell?, bx4]
          rw [← HTN.out] at hr7
          obtain ⟨e0, e1, e2, e3, e4, e5, e6⟩ := hr7
          have HTJ : Hid (TAt (fun k => k < w.heap.size) m y (ndV y.h (.slice ka y.kids.length kc)) w) := hTj
          have HOW : Hid (OwnI (P2 + 1) (dn ++ [ji]) v' w4) := by
            show World.ownsRow _ _ _ _ _ _ _
            simpa [encI] using ho
          have HD : Hid (Bx P1 (.int .i64 f) 3 w4 ∧ Bx P2 (.int .i64 t) 3 w4 ∧ Below w.heap.size w w4 ∧ P2 + 1 ≤ w4.heap.size ∧ w4.heap[P]? = some (.cells #[.string x.h.kind, .bool x.h.named, .string x.h.field, .int .i64 x.h.frm, .int .i64 x.h.to, .int .i64 x.h.bad, .slice (some ⟨b, off, none⟩) x.kids.length xc] 24 (0, 0))) := ⟨d1, d2, hB4, by have := hG3.size; omega, bx4⟩
          have HLE : Hid (w.heap.size ≤ P ∧ P < P2 + 1 ∧ P1 < P2 + 1 ∧ P ≠ P1 ∧ P ≠ P2) := ⟨hle.1, hle.2.1, hle.2.2, by have := HP1.out; omega, by have := HP1.out; have := HP2.out; omega⟩
          have HDL : Hid ((dn.length : Int) ≤ lk) := HV.out.dl
          clear ho hg hk hown3 hTj HV HBX HKJ hB4 bx4 d1 d2 hG3 hGo hBz hle
          generalize hkh : y.h = kh at *
          generalize hkk : y.kids.length = kkl at *
          have HKH : Hid (y.h = kh ∧ y.kids.length = kkl) := ⟨hkh, hkk⟩
          clear hkh hkk
          obtain ⟨uk, un, uf, ur, ut, ub⟩ := kh
          simp only at *
          go_wp2_with fail
          obtain ⟨d1, d2, dB, dP, dh⟩ := HD.out
          obtain ⟨l1, l2, l3, l4, l5⟩ := HLE.out
          have hh := heap_set (o := 6) (.slice ka kkl kc) (heap_set (o := 5) (.int .i64 ub) (heap_set (o := 4) (.int .i64 ut) (heap_set (o := 3) (.int .i64 ur) (heap_set (o := 2) (.string uf) (heap_set (o := 1) (.bool un) (heap_set (o := 0) (.string uk) dh))))))
          have hBt : But (fun k => k = P) w4 (((((((w4.setCell ⟨P, 0, none⟩ (.string uk)).setCell ⟨P, 1, none⟩ (.bool un)).setCell ⟨P, 2, none⟩ (.string uf)).setCell ⟨P, 3, none⟩ (.int .i64 ur)).setCell ⟨P, 4, none⟩ (.int .i64 ut)).setCell ⟨P, 5, none⟩ (.int .i64 ub)).setCell ⟨P, 6, none⟩ (.slice ka kkl kc)) :=
            (((((((But.refl (fun k => k = P) w4).setCell _ 0 _ rfl).setCell _ 1 _ rfl).setCell _ 2 _ rfl).setCell _ 3 _ rfl).setCell _ 4 _ rfl).setCell _ 5 _ rfl).setCell _ 6 _ rfl
          obtain ⟨q1, q2, q3, q4, q5, q6, q7⟩ := (TAt.succ (t := y) (ka := ka) (kc := kc) (by have h := HTJ.out; rw [← HKH.out.1, ← HKH.out.2] at h; exact h))
          have hlkz := HLKC.out
          refine ⟨⟨dn ++ [ji], lk + (ji + 1), y, rfl, by have := hBt.size; omega, dB.trans (hBt.below (by have := dB.size; omega) (fun k _ e => by omega)), ⟨q1, ka, kc, by rw [HKH.out.1, HKH.out.2]; exact hh, q6, q7⟩, d1.same (hBt.block P1 d1.lt (by omega)), d2.same (hBt.block P2 d2.lt (by omega)), ownsRow_but HOW.out hBt (fun k hk e => by have := (World.ownsRow.lt HOW.out k hk).1; omega), by omega, by have := HDL.out; simp; omega, hlkz, by rw [← HJI.out]; exact HPATH.out⟩, ?_⟩
          simp [intOf]
          omega
end Go.Proofs.Ythmpnhjlblcgdaa
