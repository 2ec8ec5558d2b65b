/- Find. -/
import Derived.Test.YthmpnhjlblcgdaaPAt
import Derived.Test.YthmpnhjlblcgdaaPSmall
namespace Go.Proofs.Ythmpnhjlblcgdaa
open Go.RowKit

/-- A row of numbers, as it lies. -/
def RowI (l : List Int) (ao : Option Addr) (W : World) : Prop := ∀ (i : Nat) (x : Int), l[i]? = some x → ∃ b off, ao = some ⟨b, off, none⟩ ∧ b < W.heap.size ∧ W.cell? ⟨b, off + i, none⟩ = some (.int .i64 x)
theorem RowI.next {l : List Int} {ao : Option Addr} {W W' : World} (h : RowI l ao W) (hb : Below W.heap.size W W') : RowI l ao W' := fun i x hx => by
  obtain ⟨b, off, h0, h1, h2⟩ := h i x hx
  exact ⟨b, off, h0, Nat.lt_of_lt_of_le h1 hb.size, (hb.cell (p := ⟨b, off + i, none⟩) h1).trans h2⟩
theorem RowI.of_own {B : Nat} {l : List Int} {v : Value} {W : World} (h : OwnI B l v W) : ∃ ao cap, v = .slice ao l.length cap ∧ RowI l ao W := by
  rcases h.2 with ⟨rfl, hn⟩ | ⟨g, cap, cur, rfl, hB, hg, hle, hmx, hcs, htk⟩
  · have : l = [] := List.eq_nil_of_length_eq_zero hn
    subst this
    exact ⟨none, 0, rfl, fun i x hx => by simp at hx⟩
  · refine ⟨_, _, rfl, fun i x hx => ⟨g, 0, rfl, (Array.getElem?_eq_some_iff.1 hg).1, ?_⟩⟩
    have hi : i < l.length := (List.getElem?_eq_some_iff.1 hx).1
    have e1 : (cur.toList.take (l.length * 1))[i]? = some (.int .i64 x) := by rw [htk, List.getElem?_map, hx]; rfl
    rw [List.getElem?_take, if_pos (by omega)] at e1
    rw [Nat.zero_add]
    simp [World.cell?, hg]
    simpa using e1
def findN : Nd → List Int → Option Nd
  | t, [] => some t
  | t, i :: p => if h : 0 ≤ i ∧ i.toNat < t.kids.length then findN t.kids[i.toNat] p else none
theorem findN_yes {t : Nd} {i : Int} {p : List Int} (h : 0 ≤ i) (hi : i.toNat < t.kids.length) : findN t (i :: p) = findN t.kids[i.toNat] p := by rw [findN, dif_pos ⟨h, hi⟩]
theorem findN_no {t : Nd} {i : Int} {p : List Int} (h : ¬ (0 ≤ i ∧ i.toNat < t.kids.length)) : findN t (i :: p) = none := by rw [findN, dif_neg h]
theorem TAt.move0 {A : Nat → Prop} : ∀ {n : Nat} {t : Nd} {v : Value} {W : World}, TAt A n t v W → moveN t 0 = t
  | 0, _, _, _, h => h.elim
  | n + 1, t, v, W, h => by
    obtain ⟨ba, bc, _, h1, _, _, _, h5⟩ := h
    rw [moveN_mk]
    have hk : t.kids.map (moveN · 0) = t.kids := by
      conv => rhs; rw [← List.map_id t.kids]
      refine List.map_congr_left fun k hk => ?_
      obtain ⟨i, hi, rfl⟩ := List.getElem_of_mem hk
      obtain ⟨b, off, ka, kc, _, _, _, _, e4⟩ := h5 i t.kids[i] (by simp [hi])
      exact e4.move0
    rw [hk]
    have hh : moveH t.h 0 = t.h := by
      have f1 := h1.frm
      have f2 := h1.to
      unfold i64B at f1 f2
      have e1 : wrap64 (t.h.frm + 0) = t.h.frm := by unfold wrap64; omega
      have e2 : wrap64 (t.h.to + 0) = t.h.to := by unfold wrap64; omega
      unfold moveH
      rw [e1, e2]
    rw [hh]
    exact Nd.eta t
def zeroH : Hd := ⟨⟨#[]⟩, false, ⟨#[]⟩, 0, 0, 0⟩
def zeroN : Nd := .mk zeroH []
theorem zero_at (A : Nat → Prop) (W : World) : TAt A 1 zeroN (ndV zeroH (.slice none 0 0)) W :=
  ⟨none, 0, rfl, ⟨by unfold i64B; decide, by unfold i64B; decide, by unfold i64B; decide, by decide, by decide⟩, fun _ => rfl, Nat.le_refl _, Nat.zero_le _, fun i t ht => by simp [zeroN, Nd.kids] at ht⟩
/-- The tree's box, as the walk along a path turns it. -/
structure FnV (w : World) (P : Nat) (x : Nd) (W : World) : Prop where
  bw : Below w.heap.size w W
  bx : ∃ n xa xc, W.heap[P]? = some (.cells #[.string x.h.kind, .bool x.h.named, .string x.h.field, .int .i64 x.h.frm, .int .i64 x.h.to, .int .i64 x.h.bad, .slice xa x.kids.length xc] 24 (0, 0)) ∧ TAt (fun k => k < w.heap.size) n x (ndV x.h (.slice xa x.kids.length xc)) w
  rs : W.heap[P + 1]? = some (.cells #[.string ⟨#[]⟩, .bool false, .string ⟨#[]⟩, .int .i64 0, .int .i64 0, .int .i64 0, .slice none 0 0] 24 (0, 0))
theorem results_cell_tmp {fn : Func} {p q : Tmp} {ty : TypeId} (h : fn.results = #[.cell p ty, .tmp q]) (tmps : Array Value) (P : Program) (w : World) {a : Addr} {x y : Value} (ha : tmps[p]?.getD undef = .pointer (some a)) (hb : tmps[q]?.getD undef = y) (hx : (loadVar ty a).run P w = .ok x w) :
    (results fn tmps).run P w = .ok (.tuple #[x, y]) w := by
  simp only [results, h]
  simp [ha, hb, hx, asAddr]
theorem load_node {W : World} {g : Nat} {cs : Array Value} {a0 a1 a2 a3 a4 a5 a6 : Value} (hcs : cs = #[a0, a1, a2, a3, a4, a5, a6]) (h : W.heap[g]? = some (.cells cs 24 (0, 0))) : (loadVar 24 ⟨g, 0, none⟩).run Try.prog W = .ok (.agg #[a0, a1, a2, a3, a4, a5, a6]) W := by
  subst hcs
  have c0 : W.cell? ⟨g, 0, none⟩ = some a0 := by simp [World.cell?, h]
  have c1 : W.cell? ⟨g, 1, none⟩ = some a1 := by simp [World.cell?, h]
  have c2 : W.cell? ⟨g, 2, none⟩ = some a2 := by simp [World.cell?, h]
  have c3 : W.cell? ⟨g, 3, none⟩ = some a3 := by simp [World.cell?, h]
  have c4 : W.cell? ⟨g, 4, none⟩ = some a4 := by simp [World.cell?, h]
  have c5 : W.cell? ⟨g, 5, none⟩ = some a5 := by simp [World.cell?, h]
  have c6 : W.cell? ⟨g, 6, none⟩ = some a6 := by simp [World.cell?, h]
  unfold loadVar
  go_simp

set_option maxRecDepth 100000 in
set_option maxHeartbeats 4000000 in
theorem find_any {A : Nat → Prop} (n : Nat) (t0 : Nd) (v : Value) (p : List Int) (pa : Option Addr) (pc : Nat) (w : World) (h : TAt A n t0 v w) (hc : cntN t0 ≤ 5000) (hp : RowI p pa w) (hpl : p.length ≤ 140737488351232) :
    Calls Try.prog 24 #[v, .slice pa p.length pc] w fun e w' => (∃ m v', e = .returned (.tuple #[v', .bool (findN t0 p).isSome]) ∧ TAt (fun k => w.heap.size ≤ k) m ((findN t0 p).getD zeroN) v' w') ∧ Below w.heap.size w w' := by
  have h1 := h.imp (B := fun k => k < w.heap.size) (fun k hk _ => hk)
  clear h
  obtain ⟨ba, bc, rfl, _⟩ := h1.val
  have HE : Hid (TAt (fun k => k < w.heap.size) n t0 (ndV t0.h (.slice ba t0.kids.length bc)) w) := h1
  clear h1
  obtain ⟨hd, hhd⟩ : ∃ hd, t0.h = hd := ⟨_, rfl⟩
  obtain ⟨kl, hkl⟩ : ∃ kl, t0.kids.length = kl := ⟨_, rfl⟩
  have HH : Hid (t0.h = hd ∧ t0.kids.length = kl) := ⟨hhd, hkl⟩
  rw [hhd, hkl]
  clear hhd hkl
  obtain ⟨zk, zn, zf, zr, zt, zb⟩ := hd
  obtain ⟨W0, hW0⟩ : ∃ W0, W0 = (w.alloc (Obj.cells #[Value.string zk, Value.bool zn, Value.string zf, Value.int IntKind.i64 zr, Value.int IntKind.i64 zt, Value.int IntKind.i64 zb, Value.slice ba kl bc] 24)).alloc (Obj.cells #[.string ⟨#[]⟩, .bool false, .string ⟨#[]⟩, .int .i64 0, .int .i64 0, .int .i64 0, .slice none 0 0] 24) := ⟨_, rfl⟩
  have hB0 : Below w.heap.size w W0 := by rw [hW0]; exact ((Below.refl _ _).alloc (Nat.le_refl _) _).alloc (by simp) _
  have hz : W0.heap.size = w.heap.size + 1 + 1 := by rw [hW0]; simp
  have b0 : W0.heap[w.heap.size]? = some (.cells #[Value.string zk, Value.bool zn, Value.string zf, Value.int IntKind.i64 zr, Value.int IntKind.i64 zt, Value.int IntKind.i64 zb, Value.slice ba kl bc] 24 (0, 0)) := by rw [hW0]; exact (Below.heap_alloc _ _ _ (by simp)).trans (World.alloc_heap_new w _)
  have b1 : W0.heap[w.heap.size + 1]? = some (.cells #[.string ⟨#[]⟩, .bool false, .string ⟨#[]⟩, .int .i64 0, .int .i64 0, .int .i64 0, .slice none 0 0] 24 (0, 0)) := by
    have := World.alloc_heap_new (w.alloc (Obj.cells #[Value.string zk, Value.bool zn, Value.string zf, Value.int IntKind.i64 zr, Value.int IntKind.i64 zt, Value.int IntKind.i64 zb, Value.slice ba kl bc] 24)) (Obj.cells #[.string ⟨#[]⟩, .bool false, .string ⟨#[]⟩, .int .i64 0, .int .i64 0, .int .i64 0, .slice none 0 0] 24)
    rw [World.size_alloc] at this
    rw [hW0]; exact this
  have HV0 : Hid (FnV w w.heap.size t0 W0) := ⟨hB0, ⟨n, ba, bc, by rw [HH.out.1, HH.out.2]; exact b0, HE.out⟩, b1⟩
  unfold ndV
  simp only
  go_enter Try.func24, Try.ntmps24
  go_wp2_with fail
  rw [← hW0]
  have HZ : Hid (W0.heap.size = w.heap.size + 1 + 1) := hz
  clear hW0 hz b0 b1
  obtain ⟨P, HP⟩ : ∃ P, Hid (P = w.heap.size) := ⟨_, rfl⟩
  rw [← HP.out] at HV0 HZ ⊢
  have HPP : Hid (RowI p pa w) := hp
  have HC : Hid (cntN t0 ≤ 5000) := hc
  clear hp hc HE HH
  go_loopw [10] (fun c wr => ∃ (j : Nat) (x : Nd), c = .int .i64 j ∧ j ≤ p.length ∧ P + 1 < wr.heap.size ∧ Hid (findN t0 p = findN x (p.drop j) ∧ cntN x ≤ 5000) ∧ FnV w P x wr) (fun c _ => p.length - (intOf c).toNat)
  case atStart => exact ⟨0, t0, rfl, Nat.zero_le _, by have := HZ.out; omega, ⟨by simp, HC.out⟩, HV0.out⟩
  case round =>
    obtain ⟨j, x, rfl, hj, hPw, HF, hV⟩ := hrel
    obtain ⟨m, xa, xc, hbx, hT⟩ := hV.bx
    obtain ⟨m2, q1, q2, q3, _, hxl, hKx⟩ := TAt.succ hT
    have HV : Hid (FnV w P x wr) := hV
    have rs := hV.rs
    have hwP : w.heap.size ≤ P := by have := HP.out; omega
    have c6 : wr.cell? ⟨P, 6, none⟩ = some (.slice xa x.kids.length xc) := by simp [World.cell?, hbx]
    have c0 : wr.cell? ⟨P, 0, none⟩ = some (.string x.h.kind) := by simp [World.cell?, hbx]
    have c1 : wr.cell? ⟨P, 1, none⟩ = some (.bool x.h.named) := by simp [World.cell?, hbx]
    have c2 : wr.cell? ⟨P, 2, none⟩ = some (.string x.h.field) := by simp [World.cell?, hbx]
    have c3 : wr.cell? ⟨P, 3, none⟩ = some (.int .i64 x.h.frm) := by simp [World.cell?, hbx]
    have c4 : wr.cell? ⟨P, 4, none⟩ = some (.int .i64 x.h.to) := by simp [World.cell?, hbx]
    have c5 : wr.cell? ⟨P, 5, none⟩ = some (.int .i64 x.h.bad) := by simp [World.cell?, hbx]
    have f0 : ∀ o, wr.frozen? ⟨P, o, none⟩ = false := fun o => by simp [World.frozen?, hbx]
    have f1 : ∀ o, wr.frozen? ⟨P + 1, o, none⟩ = false := fun o => by simp [World.frozen?, rs]
    have s0 : wr.cell? ⟨P + 1, 0, none⟩ = some (.string ⟨#[]⟩) := by simp [World.cell?, rs]
    have s1 : wr.cell? ⟨P + 1, 1, none⟩ = some (.bool false) := by simp [World.cell?, rs]
    have s2 : wr.cell? ⟨P + 1, 2, none⟩ = some (.string ⟨#[]⟩) := by simp [World.cell?, rs]
    have s3 : wr.cell? ⟨P + 1, 3, none⟩ = some (.int .i64 0) := by simp [World.cell?, rs]
    have s4 : wr.cell? ⟨P + 1, 4, none⟩ = some (.int .i64 0) := by simp [World.cell?, rs]
    have s5 : wr.cell? ⟨P + 1, 5, none⟩ = some (.int .i64 0) := by simp [World.cell?, rs]
    have s6 : wr.cell? ⟨P + 1, 6, none⟩ = some (.slice none 0 0) := by simp [World.cell?, rs]
    by_cases hlt : j < p.length
    · have k1 : (j : Int) < p.length := by omega
      obtain ⟨b2, off2, rfl, hb2, pcell0⟩ := HPP.out j p[j] (by simp [hlt])
      have pcell := (hV.bw.cell (p := ⟨b2, off2 + j, none⟩) hb2).trans pcell0
      have hpd : p.drop j = p[j] :: p.drop (j + 1) := List.drop_eq_getElem_cons hlt
      obtain ⟨hF, hcx⟩ := HF.out
      rw [hpd] at hF
      generalize p[j] = pj at *
      by_cases hin : 0 ≤ pj ∧ pj.toNat < x.kids.length
      · obtain ⟨hi0, hi1⟩ := hin
        have g1 : ¬ pj < 0 := by omega
        have g2 : ¬ ((x.kids.length : Int) ≤ pj) := by omega
        have g3 : pj < (x.kids.length : Int) := by omega
        rw [findN_yes hi0 hi1] at hF
        have hcj := cntN_kid hi1
        obtain ⟨b, off, ka, kc, rfl, hbl, hb', hr7, hTj⟩ := hKx pj.toNat x.kids[pj.toNat] (by simp [hi1])
        have hr72 := hr7.but (D := fun k => w.heap.size ≤ k) (But.of_below hV.bw) hb' (by omega)
        obtain ⟨e0, e1, e2, e3, e4, e5, e6⟩ := hr72
        generalize x.kids[pj.toNat] = y at *
        have HTJ : Hid (TAt (fun k => k < w.heap.size) m2 y (ndV y.h (.slice ka y.kids.length kc)) w) := hTj
        have HF2 : Hid (findN t0 p = findN y (p.drop (j + 1)) ∧ cntN y ≤ 5000) := ⟨hF, by omega⟩
        have HD : Hid (wr.heap[P]? = some (.cells #[.string x.h.kind, .bool x.h.named, .string x.h.field, .int .i64 x.h.frm, .int .i64 x.h.to, .int .i64 x.h.bad, .slice (some ⟨b, off, none⟩) x.kids.length xc] 24 (0, 0))) := hbx
        have HRS : Hid _ := rs
        generalize hkh : y.h = kh at *
        generalize hkk : y.kids.length = kkl at *
        have HKH : Hid (y.h = kh ∧ y.kids.length = kkl) := ⟨hkh, hkk⟩
        clear hkh hkk hTj hr7 hF hpd hcx hcj HF hV hT hKx q1 q2 q3 hbx rs s0 s1 s2 s3 s4 s5 s6 f1
        obtain ⟨uk, un, uf, ur, ut, ub⟩ := kh
        simp only at *
        go_wp2_with fail
        have hh := heap_set (o := 6) (.slice ka kkl kc) (heap_set (o := 5) (.int .i64 ub) (heap_set (o := 4) (.int .i64 ut) (heap_set (o := 3) (.int .i64 ur) (heap_set (o := 2) (.string uf) (heap_set (o := 1) (.bool un) (heap_set (o := 0) (.string uk) HD.out))))))
        have hBt : But (fun k => k = P) wr (((((((wr.setCell ⟨P, 0, none⟩ (.string uk)).setCell ⟨P, 1, none⟩ (.bool un)).setCell ⟨P, 2, none⟩ (.string uf)).setCell ⟨P, 3, none⟩ (.int .i64 ur)).setCell ⟨P, 4, none⟩ (.int .i64 ut)).setCell ⟨P, 5, none⟩ (.int .i64 ub)).setCell ⟨P, 6, none⟩ (.slice ka kkl kc)) :=
          (((((((But.refl (fun k => k = P) wr).setCell _ 0 _ rfl).setCell _ 1 _ rfl).setCell _ 2 _ rfl).setCell _ 3 _ rfl).setCell _ 4 _ rfl).setCell _ 5 _ rfl).setCell _ 6 _ rfl
        refine ⟨⟨j + 1, y, by go_num, by omega, by have := hBt.size; omega, HF2, HV.out.bw.trans (hBt.below (by have := HV.out.bw.size; omega) (fun k _ e => by omega)), ⟨m2, ka, kc, by rw [HKH.out.1, HKH.out.2]; exact hh, by rw [HKH.out.1, HKH.out.2]; exact HTJ.out⟩, (hBt.block (P + 1) (by omega) (by omega)).trans HRS.out⟩, by simp [intOf]; omega⟩
      · rw [findN_no hin] at hF
        have HFN : Hid (findN t0 p = none) := hF
        have HRS : Hid (wr.heap[P + 1]? = some (.cells #[.string ⟨#[]⟩, .bool false, .string ⟨#[]⟩, .int .i64 0, .int .i64 0, .int .i64 0, .slice none 0 0] 24 (0, 0))) := rs
        have HIN : Hid (¬ (0 ≤ pj ∧ pj.toNat < x.kids.length)) := hin
        clear hF hpd HF hV hT hKx q1 q2 q3 hbx rs hin
        have HEND : Hid (∀ Wf, Wf = ((((((wr.setCell ⟨P + 1, 0, none⟩ (.string ⟨#[]⟩)).setCell ⟨P + 1, 1, none⟩ (.bool false)).setCell ⟨P + 1, 2, none⟩ (.string ⟨#[]⟩)).setCell ⟨P + 1, 3, none⟩ (.int .i64 0)).setCell ⟨P + 1, 4, none⟩ (.int .i64 0)).setCell ⟨P + 1, 5, none⟩ (.int .i64 0)).setCell ⟨P + 1, 6, none⟩ (.slice none 0 0) → Wf.heap[P + 1]? = some (.cells #[.string ⟨#[]⟩, .bool false, .string ⟨#[]⟩, .int .i64 0, .int .i64 0, .int .i64 0, .slice none 0 0] 24 (0, 0)) ∧ Below w.heap.size w Wf) := fun Wf e => by
          subst e
          have hBt : But (fun k => k = P + 1) wr (((((((wr.setCell ⟨P + 1, 0, none⟩ (.string ⟨#[]⟩)).setCell ⟨P + 1, 1, none⟩ (.bool false)).setCell ⟨P + 1, 2, none⟩ (.string ⟨#[]⟩)).setCell ⟨P + 1, 3, none⟩ (.int .i64 0)).setCell ⟨P + 1, 4, none⟩ (.int .i64 0)).setCell ⟨P + 1, 5, none⟩ (.int .i64 0)).setCell ⟨P + 1, 6, none⟩ (.slice none 0 0)) :=
            (((((((But.refl (fun k => k = P + 1) wr).setCell _ 0 _ rfl).setCell _ 1 _ rfl).setCell _ 2 _ rfl).setCell _ 3 _ rfl).setCell _ 4 _ rfl).setCell _ 5 _ rfl).setCell _ 6 _ rfl
          exact ⟨heap_set (o := 6) (.slice none 0 0) (heap_set (o := 5) (.int .i64 0) (heap_set (o := 4) (.int .i64 0) (heap_set (o := 3) (.int .i64 0) (heap_set (o := 2) (.string ⟨#[]⟩) (heap_set (o := 1) (.bool false) (heap_set (o := 0) (.string ⟨#[]⟩) HRS.out)))))), HV.out.bw.trans (hBt.below (by have := HV.out.bw.size; omega) (fun k _ e => by omega))⟩
        have HRT : Hid (∀ Wf, Below w.heap.size w Wf → (∃ m v', Ending.returned (.tuple #[.agg #[.string ⟨#[]⟩, .bool false, .string ⟨#[]⟩, .int .i64 0, .int .i64 0, .int .i64 0, .slice none 0 0], .bool false]) = Ending.returned (.tuple #[v', .bool (findN t0 p).isSome]) ∧ TAt (fun k => w.heap.size ≤ k) m ((findN t0 p).getD zeroN) v' Wf) ∧ Below w.heap.size w Wf) := fun Wf hb => by
          rw [HFN.out]
          exact ⟨⟨1, _, rfl, zero_at _ _⟩, hb⟩
        by_cases hp0 : pj < 0
        · clear HIN
          go_wp2_with fail
          obtain ⟨hh, hbw⟩ := HEND.out _ rfl
          exact bodyPost_ret (v := .tuple #[.agg #[.string ⟨#[]⟩, .bool false, .string ⟨#[]⟩, .int .i64 0, .int .i64 0, .int .i64 0, .slice none 0 0], .bool false]) (results_cell_tmp rfl _ _ _ (a := ⟨P + 1, 0, none⟩) rfl rfl (load_node (cs := #[.string ⟨#[]⟩, .bool false, .string ⟨#[]⟩, .int .i64 0, .int .i64 0, .int .i64 0, .slice none 0 0]) rfl hh)) rfl (HRT.out _ hbw)
        · have g2 : (x.kids.length : Int) ≤ pj := by have := HIN.out; omega
          clear HIN
          go_wp2_with fail
          obtain ⟨hh, hbw⟩ := HEND.out _ rfl
          exact bodyPost_ret (v := .tuple #[.agg #[.string ⟨#[]⟩, .bool false, .string ⟨#[]⟩, .int .i64 0, .int .i64 0, .int .i64 0, .slice none 0 0], .bool false]) (results_cell_tmp rfl _ _ _ (a := ⟨P + 1, 0, none⟩) rfl rfl (load_node (cs := #[.string ⟨#[]⟩, .bool false, .string ⟨#[]⟩, .int .i64 0, .int .i64 0, .int .i64 0, .slice none 0 0]) rfl hh)) rfl (HRT.out _ hbw)
    · have k1 : ¬ (j : Int) < p.length := by omega
      obtain ⟨hF, hcx⟩ := HF.out
      rw [List.drop_of_length_le (by omega), findN] at hF
      have HFN : Hid (findN t0 p = some x) := hF
      have hTr : TAt (fun k => k < w.heap.size) m x (ndV x.h (.slice xa x.kids.length xc)) wr := hT.but (D := fun k => w.heap.size ≤ k) (fun k hk h => by omega) (But.of_below hV.bw)
      have hen := ends_any m x _ wr hTr hcx
      have HMV : Hid (∀ W, Below wr.heap.size wr W → Calls Try.prog 40 #[ndV x.h (.slice xa x.kids.length xc), .int .i64 0] W fun e w' => ∃ m v', e = .returned v' ∧ TAt (fun k => W.heap.size ≤ k) m x v' w' ∧ Below W.heap.size W w') := fun W hb => by
        have := moved_any m x _ 0 W (hTr.next hb) (by omega)
        rw [hTr.move0] at this
        exact this
      have HRS : Hid (wr.heap[P + 1]? = some (.cells #[.string ⟨#[]⟩, .bool false, .string ⟨#[]⟩, .int .i64 0, .int .i64 0, .int .i64 0, .slice none 0 0] 24 (0, 0))) := rs
      have hPl : P < wr.heap.size := by omega
      have HR7 : Hid (Row7 P 0 x.h (.slice xa x.kids.length xc) wr) := ⟨c0, c1, c2, c3, c4, c5, c6⟩
      have HXH : Hid (x.h = x.h) := rfl
      clear hF hcx HF hV hT hKx q1 q2 q3 hbx rs hTr s0 s1 s2 s3 s4 s5 s6 f0 f1
      generalize x.h = xh at *
      generalize x.kids.length = xl at *
      obtain ⟨xk, xn, xf, xr, xt, xb⟩ := xh
      unfold ndV at *
      simp only at *
      go_wp2_with fail
      refine hen.mono ?_
      rintro e w3 ⟨rfl, hb3⟩
      have hmv := HMV.out w3 hb3
      obtain ⟨r0, r1, r2, r3, r4, r5, r6⟩ := HR7.out.but (D := fun _ => False) (But.of_next hb3) hPl (fun h => h)
      simp only [Nat.zero_add] at r1 r2 r3 r4 r5 r6
      clear hen HMV c0 c1 c2 c3 c4 c5 c6
      go_wp2_with fail
      refine hmv.mono ?_
      rintro e w4 ⟨m4, v4, rfl, hT4, hb4⟩
      obtain ⟨ya, yc, rfl, _⟩ := hT4.val
      have HT4 : Hid (TAt (fun k => w3.heap.size ≤ k) m4 x (ndV x.h (.slice ya x.kids.length yc)) w4) := hT4
      have hb34 : Below wr.heap.size wr w4 := hb3.trans (hb4.mono hb3.size)
      have rs4 := (hb34.block (P + 1) hPw).trans HRS.out
      have f1 : ∀ o, w4.frozen? ⟨P + 1, o, none⟩ = false := fun o => by simp [World.frozen?, rs4]
      have s0 : w4.cell? ⟨P + 1, 0, none⟩ = some (.string ⟨#[]⟩) := by simp [World.cell?, rs4]
      have s1 : w4.cell? ⟨P + 1, 1, none⟩ = some (.bool false) := by simp [World.cell?, rs4]
      have s2 : w4.cell? ⟨P + 1, 2, none⟩ = some (.string ⟨#[]⟩) := by simp [World.cell?, rs4]
      have s3 : w4.cell? ⟨P + 1, 3, none⟩ = some (.int .i64 0) := by simp [World.cell?, rs4]
      have s4 : w4.cell? ⟨P + 1, 4, none⟩ = some (.int .i64 0) := by simp [World.cell?, rs4]
      have s5 : w4.cell? ⟨P + 1, 5, none⟩ = some (.int .i64 0) := by simp [World.cell?, rs4]
      have s6 : w4.cell? ⟨P + 1, 6, none⟩ = some (.slice none 0 0) := by simp [World.cell?, rs4]
      have HRS4 : Hid (w4.heap[P + 1]? = some (.cells #[.string ⟨#[]⟩, .bool false, .string ⟨#[]⟩, .int .i64 0, .int .i64 0, .int .i64 0, .slice none 0 0] 24 (0, 0))) := rs4
      clear hmv hT4 r0 r1 r2 r3 r4 r5 r6 rs4
      generalize hyh : x.h = yh at *
      generalize hyl : x.kids.length = yl at *
      have HYH : Hid (x.h = yh ∧ x.kids.length = yl) := ⟨hyh, hyl⟩
      clear hyh hyl
      obtain ⟨yk, yn, yf, yr, yt, yb⟩ := yh
      unfold ndV at *
      simp only at *
      go_wp2_with fail
      have hh := heap_set (o := 6) (.slice ya yl yc) (heap_set (o := 5) (.int .i64 yb) (heap_set (o := 4) (.int .i64 yt) (heap_set (o := 3) (.int .i64 yr) (heap_set (o := 2) (.string yf) (heap_set (o := 1) (.bool yn) (heap_set (o := 0) (.string yk) HRS4.out))))))
      have hBt : But (fun k => k = P + 1) w4 (((((((w4.setCell ⟨P + 1, 0, none⟩ (.string yk)).setCell ⟨P + 1, 1, none⟩ (.bool yn)).setCell ⟨P + 1, 2, none⟩ (.string yf)).setCell ⟨P + 1, 3, none⟩ (.int .i64 yr)).setCell ⟨P + 1, 4, none⟩ (.int .i64 yt)).setCell ⟨P + 1, 5, none⟩ (.int .i64 yb)).setCell ⟨P + 1, 6, none⟩ (.slice ya yl yc)) :=
        (((((((But.refl (fun k => k = P + 1) w4).setCell _ 0 _ rfl).setCell _ 1 _ rfl).setCell _ 2 _ rfl).setCell _ 3 _ rfl).setCell _ 4 _ rfl).setCell _ 5 _ rfl).setCell _ 6 _ rfl
      have hs3 := hb3.size
      have hbs := HV.out.bw.size
      refine bodyPost_ret (results_cell_tmp rfl _ _ _ (a := ⟨P + 1, 0, none⟩) rfl rfl (load_node rfl hh)) rfl ⟨⟨m4, .agg #[.string yk, .bool yn, .string yf, .int .i64 yr, .int .i64 yt, .int .i64 yb, .slice ya yl yc], by rw [HFN.out]; rfl, ?_⟩, (HV.out.bw.trans (hb34.mono hbs)).trans (hBt.below (by have := hb34.size; omega) (fun k _ e => by omega))⟩
      rw [HFN.out]
      exact (HT4.out.but (D := fun k => k = P + 1) (fun k hk e => by omega) hBt).imp (fun k _ hk => by omega)
end Go.Proofs.Ythmpnhjlblcgdaa
