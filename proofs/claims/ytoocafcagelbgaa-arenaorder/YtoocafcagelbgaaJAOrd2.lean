/- Texts joined: AOrd2, AOrd3, AOrd4, AOrd5. -/
import Derived.Test.YtoocafcagelbgaaAOrd1
import Derived.Test.YtoocafcagelbgaaPAdd
import Derived.Test.YtoocafcagelbgaaPDrop
/- Add and Drop of small arenas, as their callers take them. -/
namespace Go.Proofs.Ytoocafcagelbgaa
open Go.RowKit

structure Okay (a : Ar) (N : Nat) : Prop where
  fit : fitAB a 1048576 = true
  kl : ∀ s ∈ a.slots, s.kids.length ≤ 1000000
  len : a.slots.length ≤ N
theorem okay_new : Okay newA 0 := ⟨fit_new _, by simp [newA], by simp [newA]⟩
theorem st_kl {S : St} (h : ∀ s ∈ S.sl, s.ks.length ≤ 1000000) : ∀ s ∈ S.ar.slots, s.kids.length ≤ 1000000 := fun s hs => by
  obtain ⟨q, hq, rfl⟩ := List.mem_map.1 hs
  have := h q hq
  simpa [SN.sl, intL] using this
theorem st_len (S : St) : S.ar.slots.length = S.sl.length := by simp [St.ar]
/-- What Add leaves of an arena, for one who goes on. -/
structure Added (a : Ar) (t : Nd) (N : Nat) (S2 : St) (p : Nat) : Prop where
  lay : layN t (toSt a) 0 = (S2, some p)
  ok : Okay (addS S2 p).ar (N + cntN t)
  rt : ∀ T, RT (addS S2 p).ar T ↔ RT a T ∨ T = relT t 0
  roots : (addS S2 p).ar.roots = a.roots ++ [(p : Int)]
  old : ∀ j : Nat, (j : Int) ∈ a.roots → treeA (addS S2 p).ar j = treeA a j
  new : treeA (addS S2 p).ar p = relT t 0
theorem add_ok {A : Nat → Prop} (a : Ar) (v : Value) (t : Nd) (vn : Value) (n N : Nat) (w : World) (hv : ArV a v w) (ha : Okay a N) (hr : a.roots.length < 4096) (ht : TAt A n t vn w) (hc : cntN t ≤ 5000) (hN : N + cntN t ≤ 4096) :
    Calls Try.prog 24 #[v, vn] w fun e w' => (∃ S2 p bv, e = .returned (.tuple #[bv, .int .i64 (a.roots.length : Int), .int .i64 0]) ∧ (∀ W, But (fun k => k < w.heap.size) w' W → ArV (addS S2 p).ar bv W) ∧ Added a t N S2 p) ∧ Below w.heap.size w w' := by
  refine (add_any a v t vn n w hv ha.kl ha.fit (ht.imp (fun k hk _ => hk)) hc).mono ?_
  rintro e w' ⟨hb, h | h | h⟩
  · omega
  · obtain ⟨_, h1, _⟩ := h
    have hl : (toSt a).sl.length = a.slots.length := by rw [← slots_st ha.fit]; simp
    obtain ⟨S', p, h2, _⟩ := lay_ok t (toSt a) 0 (by have := ha.len; omega)
    rw [h2] at h1
    cases h1
  · obtain ⟨_, S2, p, bv, h1, h2, h3, h4, h5, h9⟩ := h
    have hl : (toSt a).sl.length = a.slots.length := by rw [← slots_st ha.fit]; simp
    obtain ⟨S', p', h6, h7⟩ := lay_ok t (toSt a) 0 (by have := ha.len; omega)
    rw [h1] at h6
    obtain ⟨rfl, _⟩ := Prod.mk.inj h6
    have hf := add_fit ha.fit (by omega) h1 hr h4
    obtain ⟨r1, r2, r3, r4⟩ := add_rt ha.fit (by omega) h1 hf
    exact ⟨⟨S2, p, bv, h2, h9, h1, ⟨hf, st_kl h4.kl, by
      rw [st_len]
      show (bump S2.sl p).length ≤ _
      rw [bump_len]
      have := ha.len
      omega⟩, r1, r2, r3, r4⟩, hb⟩
/-- What Drop leaves. -/
structure Dropped (a b : Ar) (j : Nat) : Prop where
  fit : fitAB b 1048576 = true
  kl : ∀ s ∈ b.slots, s.kids.length ≤ 1000000
  roots : b.roots = a.roots.set j (-1)
  old : ∀ q : Nat, (q : Int) ∈ b.roots → treeA b q = treeA a q
theorem drop_ok (a : Ar) (v : Value) (j p : Nat) (w : World) (hv : ArV a v w) (hf : fitAB a 1048576 = true) (hkl : ∀ s ∈ a.slots, s.kids.length ≤ 1000000) (hj : a.roots[j]? = some (p : Int)) :
    Calls Try.prog 26 #[v, .int .i64 (j : Int)] w fun e w' => (∃ b bv, e = .returned (.tuple #[bv, .int .i64 0]) ∧ ArV b bv w' ∧ Dropped a b j) ∧ Below w.heap.size w w' := by
  obtain ⟨d, hd, h2⟩ := drop_rt hf
  refine (drop_any a v (j : Int) w d hv hkl hf hd).mono ?_
  rintro e w' ⟨hb, ⟨h1, _⟩ | ⟨j', p', bv, h1, h3, h4, h5, h6⟩⟩
  · exfalso
    have hlt : j < a.roots.length := (List.getElem?_eq_some_iff.1 hj).1
    unfold keepsB at h1
    have e1 : a.roots[j]? = some (p : Int) := hj
    simp [hj] at h1
  · obtain rfl : j = j' := by omega
    rw [hj] at h3
    obtain rfl : p = p' := by have := Option.some.inj h3; omega
    obtain ⟨q1, q2, q3⟩ := h2 j p hj
    exact ⟨⟨_, bv, h4, h5, q1, st_kl h6.kl, q2, fun q hq => q3 q (by rw [← q2]; exact hq)⟩, hb⟩
theorem drop_gone (a : Ar) (v : Value) (h : Int) (w : World) (hv : ArV a v w) (hf : fitAB a 1048576 = true) (hkl : ∀ s ∈ a.slots, s.kids.length ≤ 1000000) (hk : keepsB a.roots h = false) :
    Calls Try.prog 26 #[v, .int .i64 h] w fun e w' => (∃ bv, e = .returned (.tuple #[bv, .int .i64 19]) ∧ ArV a bv w') ∧ Below w.heap.size w w' := by
  obtain ⟨d, hd, h2⟩ := drop_rt hf
  refine (drop_any a v h w d hv hkl hf hd).mono ?_
  rintro e w' ⟨hb, ⟨_, bv, h3, h4⟩ | ⟨j', p', bv, h1, h3, h4, h5, h6⟩⟩
  · exact ⟨⟨bv, h3, h4⟩, hb⟩
  · exfalso
    have hlt : j' < a.roots.length := (List.getElem?_eq_some_iff.1 h3).1
    subst h1
    unfold keepsB at hk
    simp [h3] at hk
end Go.Proofs.Ytoocafcagelbgaa
/- The examples of chapter 20: trees, what lives, how often one is pointed to. -/
namespace Go.Proofs.Ytoocafcagelbgaa
open Go.RowKit

def hAE : Hd := ⟨⟨#[97]⟩, false, ⟨#[]⟩, 0, 2, 0⟩
def b1T : Nd := .mk ⟨⟨#[98]⟩, false, ⟨#[]⟩, 0, 1, 0⟩ []
def b2T : Nd := .mk ⟨⟨#[98]⟩, false, ⟨#[]⟩, 1, 2, 0⟩ []
def b0T : Nd := .mk ⟨⟨#[98]⟩, false, ⟨#[]⟩, 0, 0, 0⟩ []
def oneT : Nd := .mk hAE [b1T, b2T]
def twoT : Nd := .mk hAE [b0T, b0T]
theorem cnt_one : cntN oneT = 3 := by simp [oneT, b1T, b2T, cntN, cntL]
theorem cnt_two : cntN twoT = 3 := by simp [twoT, b0T, cntN, cntL]
theorem rel_one : relT oneT 0 = oneT := by simp [oneT, b1T, b2T, hAE, relT, relL, relH, wrap64]
theorem rel_two : relT twoT 0 = twoT := by simp [twoT, b0T, hAE, relT, relL, relH, wrap64]
theorem subs_one : subsN oneT = [oneT, b1T, b2T] := by simp [oneT, b1T, b2T, subsN, subsL]
theorem subs_two : subsN twoT = [twoT, b0T, b0T] := by simp [twoT, b0T, subsN, subsL]
theorem live_one {N p : Nat} {S2 : St} (h : Added newA oneT N S2 p) : liveN (addS S2 p).ar.slots = 3 := by
  refine live_count h.ok.fit [oneT, b1T, b2T] (by simp [oneT, b1T, b2T]) (fun T => ?_)
  constructor
  · rintro ⟨R, h1, h2⟩
    rcases (h.rt R).1 h1 with h3 | rfl
    · exact absurd h3 (rt_new R)
    · rw [rel_one, subs_one] at h2; exact h2
  · intro hT
    exact ⟨oneT, (h.rt oneT).2 (.inr rel_one.symm), by rw [subs_one]; exact hT⟩
theorem live_two {N p : Nat} {S2 : St} (h : Added newA twoT N S2 p) : liveN (addS S2 p).ar.slots = 2 := by
  refine live_count h.ok.fit [twoT, b0T] (by simp [twoT, b0T]) (fun T => ?_)
  constructor
  · rintro ⟨R, h1, h2⟩
    rcases (h.rt R).1 h1 with h3 | rfl
    · exact absurd h3 (rt_new R)
    · rw [rel_two, subs_two] at h2
      simp at h2 ⊢
      exact h2
  · intro hT
    exact ⟨twoT, (h.rt twoT).2 (.inr rel_two.symm), by rw [subs_two]; simp at hT ⊢; exact hT⟩
theorem live_none {a : Ar} (h : fitAB a 1048576 = true) (hr : ∀ T, ¬ RT a T) : liveN a.slots = 0 :=
  live_count h [] List.nodup_nil (fun T => ⟨fun ⟨R, h1, _⟩ => absurd h1 (hr R), fun h => by cases h⟩)
theorem put_first (S : St) (h : Hd) (ks : List Nat) (hF : S.F (keyH h (intL ks)) = none) (hfl : S.fl = []) (hl : S.sl.length ≠ 4096) :
    putS S h ks = ({ S with sl := bumps ((S.sl ++ [zeroN 0]).set S.sl.length ⟨h, ks, 0, -1⟩) ks, F := updF S.F (keyH h (intL ks)) (some S.sl.length), cnt := S.cnt + 1 }, some S.sl.length) := by
  unfold putS takeS
  rw [hF]
  simp only [hfl, if_neg hl]
theorem put_there (S : St) (h : Hd) (ks : List Nat) (p : Nat) (hF : S.F (keyH h (intL ks)) = some p) : putS S h ks = (S, some p) := by
  unfold putS
  rw [hF]
theorem lay_leaf (h : Hd) (S : St) (b : Int) : layN (.mk h []) S b = putS S (relH h b) [] := by
  rw [layN_mk]
  rfl
theorem refs_two {p : Nat} {S2 : St} (h : layN twoT (toSt newA) 0 = (S2, some p)) : ∃ s, (addS S2 p).ar.slots[0]? = some s ∧ s.refs = 2 := by
  obtain ⟨S0, hS0⟩ : ∃ S0, toSt newA = S0 := ⟨_, rfl⟩
  have e1 : S0.sl = [] := by rw [← hS0]; rfl
  have e2 : S0.fl = [] := by rw [← hS0]; rfl
  have e3 : ∀ k, S0.F k = none := fun k => by rw [← hS0]; rfl
  rw [hS0] at h
  rw [layN_mk] at h
  have hk : twoT.kids = [b0T, b0T] := rfl
  have hh : twoT.h = hAE := rfl
  rw [hk, hh] at h
  obtain ⟨hb, hhb⟩ : ∃ hb, relH ⟨⟨#[98]⟩, false, ⟨#[]⟩, 0, 0, 0⟩ hAE.frm = hb := ⟨_, rfl⟩
  have hne : relH hAE 0 ≠ hb := by
    rw [← hhb]
    simp [relH, hAE]
  have p1 : layN b0T S0 hAE.frm = _ := (lay_leaf _ S0 hAE.frm).trans (put_first S0 _ [] (e3 _) e2 (by rw [e1]; decide))
  rw [hhb] at p1
  rw [e1] at p1
  simp only [List.nil_append, List.length_nil] at p1
  obtain ⟨S1, hS1⟩ : ∃ S1 : St, S1 = { S0 with sl := bumps ([zeroN 0].set 0 ⟨hb, [], 0, -1⟩) [], F := updF S0.F (keyH hb (intL [])) (some 0), cnt := S0.cnt + 1 } := ⟨_, rfl⟩
  have p1' : layN b0T S0 hAE.frm = (S1, some 0) := by rw [hS1]; exact p1
  have f1 : S1.sl = [⟨hb, [], 0, -1⟩] := by rw [hS1]; rfl
  have f2 : S1.fl = [] := by rw [hS1]; exact e2
  have f3 : S1.F (keyH hb (intL [])) = some 0 := by rw [hS1]; exact updF_same _ _ _
  have f4 : S1.F (keyH (relH hAE 0) (intL [0, 0])) = none := by
    rw [hS1]
    show updF S0.F (keyH hb (intL [])) (some 0) _ = none
    rw [updF_other _ _ (fun e => hne (keyH_inj (by intro k hk; simp at hk; omega) (by intro k hk; cases hk) e).1)]
    exact e3 _
  have p2 : layN b0T S1 hAE.frm = (S1, some 0) := (lay_leaf _ S1 hAE.frm).trans (by rw [hhb]; exact put_there S1 hb [] 0 f3)
  have p3 : layL [b0T, b0T] S0 hAE.frm = (S1, some [0, 0]) := by
    simp only [layL]
    rw [p1']
    simp only
    rw [p2]
  rw [p3] at h
  simp only at h
  rw [put_first S1 _ _ f4 f2 (by rw [f1]; simp), f1] at h
  simp only [List.length_cons, List.length_nil] at h
  obtain ⟨h1, h2⟩ := Prod.mk.inj h
  obtain rfl : p = 1 := by have := Option.some.inj h2; omega
  have hs : S2.sl = bumps (([⟨hb, [], 0, -1⟩] ++ [zeroN 0] : List SN).set 1 ⟨relH hAE 0, [0, 0], 0, -1⟩) [0, 0] := by rw [← h1]
  refine ⟨(SN.sl ⟨hb, [], 2, -1⟩), ?_, rfl⟩
  show (List.map SN.sl (bump S2.sl 1))[0]? = _
  rw [List.getElem?_map, bump_get, if_neg (by decide), hs, bumps_get]
  rfl
end Go.Proofs.Ytoocafcagelbgaa
/- Add and Drop, their arenas in parts. -/
namespace Go.Proofs.Ytoocafcagelbgaa
open Go.RowKit

theorem arV_parts {a : Ar} {v : Value} {W : World} (h : ArV a v W) : ∃ sa sl sc ra rl rc fr, v = .agg #[.slice sa sl sc, .int .i64 fr, .slice ra rl rc] := by
  obtain ⟨sv, rv, rfl, ⟨sa, sc, rfl, _⟩, ⟨ra, rc, rfl, _⟩, _⟩ := h
  exact ⟨_, _, _, _, _, _, _, rfl⟩
theorem add_parts {A : Nat → Prop} (a : Ar) (v : Value) (t : Nd) (vn : Value) (n N : Nat) (w : World) (hv : ArV a v w) (ha : Okay a N) (hr : a.roots.length < 4096) (ht : TAt A n t vn w) (hc : cntN t ≤ 5000) (hN : N + cntN t ≤ 4096) :
    Calls Try.prog 24 #[v, vn] w fun e w' => (∃ (S2 : St) (p : Nat) (sa : Option Addr) (sl sc : Nat) (ra : Option Addr) (rl rc : Nat) (fr : Int), e = .returned (.tuple #[.agg #[.slice sa sl sc, .int .i64 fr, .slice ra rl rc], .int .i64 (a.roots.length : Int), .int .i64 0]) ∧ (∀ W, But (fun k => k < w.heap.size) w' W → ArV (addS S2 p).ar (.agg #[.slice sa sl sc, .int .i64 fr, .slice ra rl rc]) W) ∧ Added a t N S2 p) ∧ Below w.heap.size w w' := by
  refine (add_ok a v t vn n N w hv ha hr ht hc hN).mono ?_
  rintro e w' ⟨⟨S2, p, bv, h1, h2, h3⟩, hb⟩
  obtain ⟨sa, sl, sc, ra, rl, rc, fr, rfl⟩ := arV_parts (h2 w' (But.refl _ _))
  exact ⟨⟨S2, p, sa, sl, sc, ra, rl, rc, fr, h1, h2, h3⟩, hb⟩
theorem addNew_any {A : Nat → Prop} (v : Value) (t : Nd) (vn : Value) (n : Nat) (w : World) (hv : ArV newA v w) (ht : TAt A n t vn w) (hc : cntN t ≤ 4000) :
    Calls Try.prog 24 #[v, vn] w fun e w' => (∃ (S2 : St) (p : Nat) (sa : Option Addr) (sl sc : Nat) (ra : Option Addr) (rl rc : Nat) (fr : Int), e = .returned (.tuple #[.agg #[.slice sa sl sc, .int .i64 fr, .slice ra rl rc], .int .i64 0, .int .i64 0]) ∧ (∀ W, But (fun k => k < w.heap.size) w' W → ArV (addS S2 p).ar (.agg #[.slice sa sl sc, .int .i64 fr, .slice ra rl rc]) W) ∧ Added newA t 0 S2 p) ∧ Below w.heap.size w w' :=
  add_parts newA v t vn n 0 w hv okay_new (by decide) ht (by omega) (by omega)
theorem drop_parts (a : Ar) (v : Value) (j p : Nat) (w : World) (hv : ArV a v w) (hf : fitAB a 1048576 = true) (hkl : ∀ s ∈ a.slots, s.kids.length ≤ 1000000) (hj : a.roots[j]? = some (p : Int)) :
    Calls Try.prog 26 #[v, .int .i64 (j : Int)] w fun e w' => (∃ (b : Ar) (sa : Option Addr) (sl sc : Nat) (ra : Option Addr) (rl rc : Nat) (fr : Int), e = .returned (.tuple #[.agg #[.slice sa sl sc, .int .i64 fr, .slice ra rl rc], .int .i64 0]) ∧ ArV b (.agg #[.slice sa sl sc, .int .i64 fr, .slice ra rl rc]) w' ∧ Dropped a b j) ∧ Below w.heap.size w w' := by
  refine (drop_ok a v j p w hv hf hkl hj).mono ?_
  rintro e w' ⟨⟨b, bv, h1, h2, h3⟩, hb⟩
  obtain ⟨sa, sl, sc, ra, rl, rc, fr, rfl⟩ := arV_parts h2
  exact ⟨⟨b, sa, sl, sc, ra, rl, rc, fr, h1, h2, h3⟩, hb⟩
theorem dropGone_parts (a : Ar) (v : Value) (h : Int) (w : World) (hv : ArV a v w) (hf : fitAB a 1048576 = true) (hkl : ∀ s ∈ a.slots, s.kids.length ≤ 1000000) (hk : keepsB a.roots h = false) :
    Calls Try.prog 26 #[v, .int .i64 h] w fun e w' => (∃ (sa : Option Addr) (sl sc : Nat) (ra : Option Addr) (rl rc : Nat) (fr : Int), e = .returned (.tuple #[.agg #[.slice sa sl sc, .int .i64 fr, .slice ra rl rc], .int .i64 19])) ∧ Below w.heap.size w w' := by
  refine (drop_gone a v h w hv hf hkl hk).mono ?_
  rintro e w' ⟨⟨bv, h1, h2⟩, hb⟩
  obtain ⟨sa, sl, sc, ra, rl, rc, fr, rfl⟩ := arV_parts h2
  exact ⟨⟨sa, sl, sc, ra, rl, rc, fr, h1⟩, hb⟩
/-- An arena in its box. -/
structure BoxA (B q : Nat) (a : Ar) (bv : Value) (x y z : Value) (W : World) : Prop where
  lo : B ≤ q
  bx : W.heap[q]? = some (Obj.cells #[x, y, z] 25)
  v : bv = .agg #[x, y, z]
  ar : ArV a bv W
theorem BoxA.next {B q : Nat} {a : Ar} {bv x y z : Value} {W W' : World} (h : BoxA B q a bv x y z W) (hb : Below W.heap.size W W') : BoxA B q a bv x y z W' :=
  ⟨h.lo, (hb.block _ (blk_lt h.bx)).trans h.bx, h.v, h.ar.next hb⟩
theorem BoxA.cells {B q : Nat} {a : Ar} {bv x y z : Value} {W : World} (h : BoxA B q a bv x y z W) : W.cell? ⟨q, 0, none⟩ = some x ∧ W.cell? ⟨q, 1, none⟩ = some y ∧ W.cell? ⟨q, 2, none⟩ = some z ∧ ∀ o, W.frozen? ⟨q, o, none⟩ = false :=
  ⟨by rw [Lib.cell_of_heap h.bx]; rfl, by rw [Lib.cell_of_heap h.bx]; rfl, by rw [Lib.cell_of_heap h.bx]; rfl, fun o => Lib.frozen_of_heap h.bx _⟩
/-- An arena laid into a box: the box comes ahead of what is laid. -/
theorem box_old {q X : Nat} {a : Ar} {x y z c0 c1 c2 : Value} {w0 wA : World} (hB : Below w0.heap.size w0 wA) (hq0 : w0.heap.size ≤ q) (hqX : q < X) (hq : wA.heap[q]? = some (Obj.cells #[c0, c1, c2] 25)) (hlow : ∀ W, But (fun k => k < X) wA W → ArV a (.agg #[x, y, z]) W) :
    BoxA w0.heap.size q a (.agg #[x, y, z]) x y z (((wA.setCell ⟨q, 0, none⟩ x).setCell ⟨q, 1, none⟩ y).setCell ⟨q, 2, none⟩ z) ∧ Below w0.heap.size w0 (((wA.setCell ⟨q, 0, none⟩ x).setCell ⟨q, 1, none⟩ y).setCell ⟨q, 2, none⟩ z) := by
  have q1 := blk_set (o := 0) hq x
  have q2 := blk_set (o := 1) q1 y
  have q3 := blk_set (o := 2) q2 z
  have B3 : But (fun k => k = q) wA (((wA.setCell ⟨q, 0, none⟩ x).setCell ⟨q, 1, none⟩ y).setCell ⟨q, 2, none⟩ z) := (((But.refl (fun k => k = q) wA).setCell ⟨q, 0, none⟩ x (.inr rfl)).setCell ⟨q, 1, none⟩ y (.inr rfl)).setCell ⟨q, 2, none⟩ z (.inr rfl)
  exact ⟨⟨hq0, by simpa using q3, rfl, hlow _ (B3.mono (fun k _ e => by omega))⟩, hB.trans (B3.below hB.size (fun k e => by omega))⟩
/-- And: the box comes behind it. -/
theorem box_new {q X : Nat} {a : Ar} {x y z c0 c1 c2 : Value} {w0 wA wB : World} (hB : Below w0.heap.size w0 wA) (hAB : Below wA.heap.size wA wB) (hqA : wA.heap.size ≤ q) (hq : wB.heap[q]? = some (Obj.cells #[c0, c1, c2] 25)) (hlow : ∀ W, But (fun k => k < X) wA W → ArV a (.agg #[x, y, z]) W) :
    BoxA w0.heap.size q a (.agg #[x, y, z]) x y z (((wB.setCell ⟨q, 0, none⟩ x).setCell ⟨q, 1, none⟩ y).setCell ⟨q, 2, none⟩ z) ∧ Below w0.heap.size w0 (((wB.setCell ⟨q, 0, none⟩ x).setCell ⟨q, 1, none⟩ y).setCell ⟨q, 2, none⟩ z) := by
  have q1 := blk_set (o := 0) hq x
  have q2 := blk_set (o := 1) q1 y
  have q3 := blk_set (o := 2) q2 z
  have B3 : But (fun k => k = q) wB (((wB.setCell ⟨q, 0, none⟩ x).setCell ⟨q, 1, none⟩ y).setCell ⟨q, 2, none⟩ z) := (((But.refl (fun k => k = q) wB).setCell ⟨q, 0, none⟩ x (.inr rfl)).setCell ⟨q, 1, none⟩ y (.inr rfl)).setCell ⟨q, 2, none⟩ z (.inr rfl)
  have hs := hB.size
  have hall : Below wA.heap.size wA (((wB.setCell ⟨q, 0, none⟩ x).setCell ⟨q, 1, none⟩ y).setCell ⟨q, 2, none⟩ z) := hAB.trans (B3.below hAB.size (fun k e => by omega))
  exact ⟨⟨by omega, by simpa using q3, rfl, hlow _ (But.of_next hall)⟩, below_next hB hall⟩
end Go.Proofs.Ytoocafcagelbgaa
/- How many live, whatever the order; and behind one that came and went. -/
namespace Go.Proofs.Ytoocafcagelbgaa
open Go.RowKit

theorem live_order {m n : Nd} {S1 S2 S3 S4 : St} {p1 p2 p3 p4 N1 N2 N3 N4 : Nat} (h1 : Added newA m N1 S1 p1) (h2 : Added (addS S1 p1).ar n N2 S2 p2) (h3 : Added newA n N3 S3 p3) (h4 : Added (addS S3 p3).ar m N4 S4 p4) :
    liveN (addS S2 p2).ar.slots = liveN (addS S4 p4).ar.slots := by
  have e : ∀ T, RT (addS S2 p2).ar T ↔ RT (addS S4 p4).ar T := fun T => by
    rw [h2.rt, h1.rt, h4.rt, h3.rt]
    constructor
    · rintro ((h | h) | h)
      · exact .inl (.inl h)
      · exact .inr h
      · exact .inl (.inr h)
    · rintro ((h | h) | h)
      · exact .inl (.inl h)
      · exact .inr h
      · exact .inl (.inr h)
  have a1 := live_rt h2.ok.fit h4.ok.fit (fun T => (e T).1)
  have a2 := live_rt h4.ok.fit h2.ok.fit (fun T => (e T).2)
  omega
theorem live_back {a d : Ar} {x : Nd} {S : St} {p N j : Nat} (ha : fitAB a 1048576 = true) (h1 : Added a x N S p) (hj : j = a.roots.length) (h2 : Dropped (addS S p).ar d j) :
    liveN d.slots = liveN a.slots := by
  have hr : d.roots = a.roots ++ [-1] := by
    rw [h2.roots, h1.roots, hj, List.set_append_right _ _ (Nat.le_refl _)]
    simp
  have e : ∀ T, RT d T ↔ RT a T := fun T => by
    constructor
    · rintro ⟨k, h3, h4⟩
      have h5 := h2.old k h3
      rw [hr] at h3
      rcases List.mem_append.1 h3 with h3 | h3
      · exact ⟨k, h3, by rw [← h4, h5]; exact (h1.old k h3).symm⟩
      · rw [List.mem_singleton] at h3
        omega
    · rintro ⟨k, h3, h4⟩
      have h6 : (k : Int) ∈ d.roots := by rw [hr]; exact List.mem_append_left _ h3
      exact ⟨k, h6, by rw [← h4, h2.old k h6]; exact h1.old k h3⟩
  have a1 := live_rt h2.fit ha (fun T => (e T).1)
  have a2 := live_rt ha h2.fit (fun T => (e T).2)
  omega
theorem roots_two {m n : Nd} {S1 S2 : St} {p1 p2 N1 N2 : Nat} (h1 : Added newA m N1 S1 p1) (h2 : Added (addS S1 p1).ar n N2 S2 p2) : (addS S1 p1).ar.roots.length = 1 ∧ (addS S2 p2).ar.roots.length = 2 := by
  rw [h2.roots, h1.roots]
  simp [newA]
theorem root_last {a : Ar} {x : Nd} {S : St} {p N : Nat} (h : Added a x N S p) : (addS S p).ar.roots[a.roots.length]? = some (p : Int) := by
  rw [h.roots]
  simp
end Go.Proofs.Ytoocafcagelbgaa
