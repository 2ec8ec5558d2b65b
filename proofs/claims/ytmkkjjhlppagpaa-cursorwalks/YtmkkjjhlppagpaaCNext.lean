/- Next. -/
import Derived.Test.YtmkkjjhlppagpaaCField
namespace Go.Proofs.Ytmkkjjhlppagpaa
open Go.RowKit

/-- Beside the path, or beside the nearest node above it that has one behind it. -/
def upRr (t : Nd) : List Int → Option (List Int)
  | [] => none
  | i :: r => (asideN t (r.reverse ++ [i]) 1).or (upRr t r)
def upR (t : Nd) (p : List Int) : Option (List Int) := upRr t p.reverse
theorem upR_nil (t : Nd) : upR t [] = none := rfl
theorem upR_snoc (t : Nd) (q : List Int) (i : Int) : upR t (q ++ [i]) = (asideN t (q ++ [i]) 1).or (upR t q) := by
  unfold upR
  rw [List.reverse_append]
  simp [upRr]
def nextN (t : Nd) (p : List Int) : Option (List Int) := match findN t p with
  | none => none
  | some x => if hasI x 0 then some (p ++ [0]) else upR t p
/-- What the program keeps on its way down: the deepest place that has a kid behind it. -/
def Turn (t : Nd) (p : List Int) (j : Nat) (tu : Int) : Prop := (tu = -1 ∧ upR t (p.take j) = none) ∨ ∃ (i : Nat) (x : Int), tu = i ∧ i < j ∧ j ≤ p.length ∧ p[i]? = some x ∧ 0 ≤ x ∧ x ≤ 140737488351232 ∧ upR t (p.take j) = some (p.take i ++ [x + 1])
theorem Turn.yes {t x : Nd} {p : List Int} {j : Nat} {c : Int} (hj : j < p.length) (hx : findN t (p.take j) = some x) (hc : p[j]? = some c) (h1 : hasI x c = true) (h2 : hasI x (c + 1) = true) (hb : c ≤ 140737488351232) : Turn t p (j + 1) j := by
  refine .inr ⟨j, c, rfl, by omega, by omega, hc, (hasI_iff.1 h1).1, hb, ?_⟩
  have hg : p[j] = c := by rw [List.getElem?_eq_getElem hj] at hc; exact Option.some.inj hc
  rw [List.take_succ_eq_append_getElem hj, upR_snoc, asideN_snoc, hx, hg]
  simp [h1, h2]
theorem Turn.no {t x : Nd} {p : List Int} {j : Nat} {c tu : Int} (h : Turn t p j tu) (hj : j < p.length) (hx : findN t (p.take j) = some x) (hc : p[j]? = some c) (h2 : hasI x (c + 1) = false) : Turn t p (j + 1) tu := by
  have hg : p[j] = c := by rw [List.getElem?_eq_getElem hj] at hc; exact Option.some.inj hc
  have he : upR t (p.take (j + 1)) = upR t (p.take j) := by
    rw [List.take_succ_eq_append_getElem hj, upR_snoc, asideN_snoc, hx, hg]
    simp [h2]
  rcases h with ⟨h1, h3⟩ | ⟨i, y, h1, h3, h4, h5, h6, h7, h8⟩
  · exact .inl ⟨h1, by rw [he, h3]⟩
  · exact .inr ⟨i, y, h1, by omega, by omega, h5, h6, h7, by rw [he, h8]⟩
/-- The tree's box, as the walk down a path turns it. -/
structure FnW (w : World) (P : Nat) (x : Nd) (W : World) : Prop where
  bw : Below w.heap.size w W
  bx : ∃ n xa xc, W.heap[P]? = some (.cells #[.string x.h.kind, .bool x.h.named, .string x.h.field, .int .i64 x.h.frm, .int .i64 x.h.to, .int .i64 x.h.bad, .slice xa x.kids.length xc] 24 (0, 0)) ∧ TAt (fun k => k < w.heap.size) n x (ndV x.h (.slice xa x.kids.length xc)) w

set_option maxRecDepth 100000 in
set_option maxHeartbeats 8000000 in
theorem next_any {A : Nat → Prop} (n : Nat) (t : Nd) (v : Value) (p : List Int) (pv : Value) (w : World) (h : TAt A n t v w) (hc : cntN t ≤ 5000) (hp : SlP p pv w) (hpl : p.length ≤ 140737488351232) :
    Calls Try.prog 19 #[v, pv] w fun e w' => GivesP w.heap.size (nextN t p) e w' ∧ Below w.heap.size w w' := by
  have h1 := h.imp (B := fun k => k < w.heap.size) (fun k hk _ => hk)
  clear h
  have HP : Hid (∀ W, Below w.heap.size w W → SlP p pv W) := fun W hb => hp.next hb
  obtain ⟨ba, bc, rfl, _⟩ := h1.val
  obtain ⟨pa, pc, rfl, hrow, hpn, hpc, hpm⟩ := hp
  obtain ⟨W0, hW0⟩ : ∃ W0, W0 = w.alloc (Obj.cells #[.string t.h.kind, .bool t.h.named, .string t.h.field, .int .i64 t.h.frm, .int .i64 t.h.to, .int .i64 t.h.bad, .slice ba t.kids.length bc] 24) := ⟨_, rfl⟩
  have hB0 : Below w.heap.size w W0 := by rw [hW0]; exact (Below.refl _ _).alloc (Nat.le_refl _) _
  have b0 : W0.heap[w.heap.size]? = some (.cells #[.string t.h.kind, .bool t.h.named, .string t.h.field, .int .i64 t.h.frm, .int .i64 t.h.to, .int .i64 t.h.bad, .slice ba t.kids.length bc] 24 (0, 0)) := by rw [hW0]; exact World.alloc_heap_new w _
  have HV0 : Hid (FnW w w.heap.size t W0) := ⟨hB0, n, ba, bc, b0, h1⟩
  obtain ⟨D, hD⟩ : ∃ D, nextN t p = D := ⟨_, rfl⟩
  have HD : Hid (nextN t p = D) := hD
  have HL : Hid (∀ x q, findN t q = some x → q.length ≤ 5000) := fun x q hx => by have := findN_len q t x hx; omega
  have HC : Hid (cntN t ≤ 5000) := hc
  have HPP : Hid (RowI p pa w) := hrow
  rw [hD]
  clear hD hc hrow h1 b0
  unfold ndV
  go_enter Try.func19, Try.ntmps19
  go_wp2_with fail
  rw [← hW0]
  clear hW0
  obtain ⟨P, HPE⟩ : ∃ P, Hid (P = w.heap.size) := ⟨_, rfl⟩
  rw [← HPE.out] at HV0 ⊢
  go_loopw [6, 11] (fun tv c wr => ∃ (j : Nat) (x : Nd) (tu : Int), tv = .int .i64 tu ∧ c = .int .i64 j ∧ j ≤ p.length ∧ Hid (findN t (p.take j) = some x ∧ findN t p = findN x (p.drop j) ∧ cntN x ≤ 5000) ∧ Hid (Turn t p j tu) ∧ FnW w P x wr) (fun _ c _ => p.length - (intOf c).toNat)
  case atStart => exact ⟨0, t, -1, rfl, rfl, Nat.zero_le _, ⟨by simp [findN], by simp, HC.out⟩, .inl ⟨rfl, by simp [upR_nil]⟩, HV0.out⟩
  case round =>
    obtain ⟨j, x, tu, rfl, rfl, hj, HF, HTU, hV⟩ := hrel
    obtain ⟨m, xa, xc, hbx, hT⟩ := hV.bx
    obtain ⟨m2, q1, q2, q3, _, hxl, hKx⟩ := TAt.succ hT
    have HV : Hid (FnW w P x wr) := hV
    have HBX : Hid (wr.heap[P]? = some (.cells #[.string x.h.kind, .bool x.h.named, .string x.h.field, .int .i64 x.h.frm, .int .i64 x.h.to, .int .i64 x.h.bad, .slice xa x.kids.length xc] 24 (0, 0))) := hbx
    have HPW : Hid (P < wr.heap.size) := (Array.getElem?_eq_some_iff.1 hbx).1
    by_cases hlt : j < p.length
    · have k1 : (j : Int) < p.length := by omega
      obtain ⟨b2, off2, rfl, hb2, pcell0⟩ := HPP.out j p[j] (by simp [hlt])
      have pcell := (hV.bw.cell (p := ⟨b2, off2 + j, none⟩) hb2).trans pcell0
      have hpd : p.drop j = p[j] :: p.drop (j + 1) := List.drop_eq_getElem_cons hlt
      have hpj : p[j]? = some p[j] := by simp [hlt]
      have htk : p.take (j + 1) = p.take j ++ [p[j]] := List.take_succ_eq_append_getElem hlt
      obtain ⟨hF0, hF, hcx⟩ := HF.out
      rw [hpd] at hF
      generalize p[j] = pj at *
      have hhas := has_any x.h xa x.kids.length xc pj wr (by omega)
      by_cases hin : 0 ≤ pj ∧ pj.toNat < x.kids.length
      · obtain ⟨hi0, hi1⟩ := hin
        have g3 : pj < (x.kids.length : Int) := by omega
        have HHI : Hid (hasI x pj = true) := hasI_iff.2 ⟨hi0, hi1⟩
        rw [decide_eq_true (show 0 ≤ pj ∧ pj < (x.kids.length : Int) from ⟨hi0, g3⟩)] at hhas
        rw [findN_yes hi0 hi1] at hF
        have hcj := cntN_kid hi1
        obtain ⟨b, off, ka, kc, rfl, hbl, hb', hr7, hTj⟩ := hKx pj.toNat x.kids[pj.toNat] (by simp [hi1])
        have hF3 : findN t (p.take (j + 1)) = some x.kids[pj.toNat] := by rw [htk, findN_snoc, hF0]; simp only; rw [dif_pos ⟨hi0, hi1⟩]
        generalize x.kids[pj.toNat] = y at *
        have HR7 : Hid (∀ W, Below w.heap.size w W → Row7 b (off + pj.toNat * 7) y.h (.slice ka y.kids.length kc) W) := fun W hW => hr7.but (D := fun k => w.heap.size ≤ k) (But.of_below hW) hb' (by omega)
        have HTJ : Hid (TAt (fun k => k < w.heap.size) m2 y (ndV y.h (.slice ka y.kids.length kc)) w) := hTj
        have HF2 : Hid (findN t (p.take (j + 1)) = some y ∧ findN t p = findN y (p.drop (j + 1)) ∧ cntN y ≤ 5000) := ⟨hF3, hF, by omega⟩
        generalize hkh : y.h = kh at *
        generalize hkk : y.kids.length = kkl at *
        have HKH : Hid (y.h = kh ∧ y.kids.length = kkl) := ⟨hkh, hkk⟩
        have HTY : Hid (hasI x (pj + 1) = true → Turn t p (j + 1) j) := fun h2 => Turn.yes hlt hF0 hpj HHI.out h2 (by omega)
        have HTN : Hid (hasI x (pj + 1) = false → Turn t p (j + 1) tu) := fun h2 => HTU.out.no hlt hF0 hpj h2
        have HXI : Hid (hasI x (pj + 1) = decide (0 ≤ pj + 1 ∧ pj + 1 < (x.kids.length : Int))) := rfl
        obtain ⟨pj1, hpj1⟩ : ∃ pj1, pj + 1 = pj1 := ⟨_, rfl⟩
        have hw1 : IntKind.i64.wrap (pj + 1) = pj1 := by rw [IntWalk.i64_in _ (by omega)]; exact hpj1
        rw [hpj1] at HTY HTN HXI
        have HJ1 : Hid (pj + 1 = pj1) := hpj1
        generalize hxh : x.h = xh at *
        generalize x.kids.length = xl at *
        clear hpj1 hkh hkk hTj hr7 hF hpd hcx hcj HF hV hT hKx q1 q2 q3 hbx hxh hpj htk hF0 hF3 HTU
        obtain ⟨uk, un, uf, ur, ut, ub⟩ := kh
        obtain ⟨vk, vn, vf, vr, vt, vb⟩ := xh
        unfold ndV at hhas
        simp only at *
        have hwb := HBX.out
        have v0 : wr.cell? ⟨P, 0, none⟩ = some (.string vk) := by simp [World.cell?, hwb]
        have v1 : wr.cell? ⟨P, 1, none⟩ = some (.bool vn) := by simp [World.cell?, hwb]
        have v2 : wr.cell? ⟨P, 2, none⟩ = some (.string vf) := by simp [World.cell?, hwb]
        have v3 : wr.cell? ⟨P, 3, none⟩ = some (.int .i64 vr) := by simp [World.cell?, hwb]
        have v4 : wr.cell? ⟨P, 4, none⟩ = some (.int .i64 vt) := by simp [World.cell?, hwb]
        have v5 : wr.cell? ⟨P, 5, none⟩ = some (.int .i64 vb) := by simp [World.cell?, hwb]
        have v6 : wr.cell? ⟨P, 6, none⟩ = some (.slice (some ⟨b, off, none⟩) xl xc) := by simp [World.cell?, hwb]
        clear hwb
        go_wp2_with fail
        refine hhas.mono ?_
        rintro e wc ⟨rfl, hbc⟩
        have HBC : Hid (Below w.heap.size w wc) := below_next HV.out.bw hbc
        have hc0 := (hbc.block P HPW.out).trans HBX.out
        have HPC : Hid (P < wc.heap.size) := Nat.lt_of_lt_of_le HPW.out hbc.size
        clear v0 v1 v2 v3 v4 v5 v6 hhas hbc pcell
        have v0 : wc.cell? ⟨P, 0, none⟩ = some (.string vk) := by simp [World.cell?, hc0]
        have v1 : wc.cell? ⟨P, 1, none⟩ = some (.bool vn) := by simp [World.cell?, hc0]
        have v2 : wc.cell? ⟨P, 2, none⟩ = some (.string vf) := by simp [World.cell?, hc0]
        have v3 : wc.cell? ⟨P, 3, none⟩ = some (.int .i64 vr) := by simp [World.cell?, hc0]
        have v4 : wc.cell? ⟨P, 4, none⟩ = some (.int .i64 vt) := by simp [World.cell?, hc0]
        have v5 : wc.cell? ⟨P, 5, none⟩ = some (.int .i64 vb) := by simp [World.cell?, hc0]
        have v6 : wc.cell? ⟨P, 6, none⟩ = some (.slice (some ⟨b, off, none⟩) xl xc) := by simp [World.cell?, hc0]
        have hhas2 := has_any ⟨vk, vn, vf, vr, vt, vb⟩ (some ⟨b, off, none⟩) xl xc pj1 wc (by omega)
        unfold ndV at hhas2
        simp only at hhas2
        rw [← HXI.out] at hhas2
        have HC0 : Hid _ := hc0
        clear hc0 HBX
        cases hX : hasI x pj1 with
        | true =>
          rw [hX] at hhas2
          have HTT : Hid (Turn t p (j + 1) j) := HTY.out hX
          clear HTY HTN HXI hX
          go_wp2_with fail
          refine hhas2.mono ?_
          rintro e wd ⟨rfl, hbd⟩
          have HBD : Hid (Below w.heap.size w wd) := below_next HBC.out hbd
          have hd0 := (hbd.block P HPC.out).trans HC0.out
          have HPD : Hid (P < wd.heap.size) := Nat.lt_of_lt_of_le HPC.out hbd.size
          clear v0 v1 v2 v3 v4 v5 v6 hhas2 hbd
          have v0 : wd.cell? ⟨P, 0, none⟩ = some (.string vk) := by simp [World.cell?, hd0]
          have v1 : wd.cell? ⟨P, 1, none⟩ = some (.bool vn) := by simp [World.cell?, hd0]
          have v2 : wd.cell? ⟨P, 2, none⟩ = some (.string vf) := by simp [World.cell?, hd0]
          have v3 : wd.cell? ⟨P, 3, none⟩ = some (.int .i64 vr) := by simp [World.cell?, hd0]
          have v4 : wd.cell? ⟨P, 4, none⟩ = some (.int .i64 vt) := by simp [World.cell?, hd0]
          have v5 : wd.cell? ⟨P, 5, none⟩ = some (.int .i64 vb) := by simp [World.cell?, hd0]
          have v6 : wd.cell? ⟨P, 6, none⟩ = some (.slice (some ⟨b, off, none⟩) xl xc) := by simp [World.cell?, hd0]
          have fd : ∀ o, wd.frozen? ⟨P, o, none⟩ = false := fun o => by simp [World.frozen?, hd0]
          have HDD : Hid _ := hd0
          obtain ⟨e0, e1, e2, e3, e4, e5, e6⟩ := HR7.out wd HBD.out
          clear hd0 HR7
          simp only at e0 e1 e2 e3 e4 e5 e6
          go_wp2_with fail
          have hh := heap_set (o := 6) (.slice ka kkl kc) (heap_set (o := 5) (.int .i64 ub) (heap_set (o := 4) (.int .i64 ut) (heap_set (o := 3) (.int .i64 ur) (heap_set (o := 2) (.string uf) (heap_set (o := 1) (.bool un) (heap_set (o := 0) (.string uk) HDD.out))))))
          have hBt : But (fun k => k = P) wd (((((((wd.setCell ⟨P, 0, none⟩ (.string uk)).setCell ⟨P, 1, none⟩ (.bool un)).setCell ⟨P, 2, none⟩ (.string uf)).setCell ⟨P, 3, none⟩ (.int .i64 ur)).setCell ⟨P, 4, none⟩ (.int .i64 ut)).setCell ⟨P, 5, none⟩ (.int .i64 ub)).setCell ⟨P, 6, none⟩ (.slice ka kkl kc)) :=
            (((((((But.refl (fun k => k = P) wd).setCell _ 0 _ rfl).setCell _ 1 _ rfl).setCell _ 2 _ rfl).setCell _ 3 _ rfl).setCell _ 4 _ rfl).setCell _ 5 _ rfl).setCell _ 6 _ rfl
          have hPP := HPE.out
          refine ⟨⟨j + 1, y, (j : Int), rfl, by go_num, by omega, HF2, HTT.out, HBD.out.trans (hBt.below (by have := HBD.out.size; omega) (fun k _ e => by omega)), ⟨m2, ka, kc, by rw [HKH.out.1, HKH.out.2]; exact hh, by rw [HKH.out.1, HKH.out.2]; exact HTJ.out⟩⟩, by simp [intOf]; omega⟩
        | false =>
          rw [hX] at hhas2
          have HTT : Hid (Turn t p (j + 1) tu) := HTN.out hX
          clear HTY HTN HXI hX
          go_wp2_with fail
          refine hhas2.mono ?_
          rintro e wd ⟨rfl, hbd⟩
          have HBD : Hid (Below w.heap.size w wd) := below_next HBC.out hbd
          have hd0 := (hbd.block P HPC.out).trans HC0.out
          have HPD : Hid (P < wd.heap.size) := Nat.lt_of_lt_of_le HPC.out hbd.size
          clear v0 v1 v2 v3 v4 v5 v6 hhas2 hbd
          have v0 : wd.cell? ⟨P, 0, none⟩ = some (.string vk) := by simp [World.cell?, hd0]
          have v1 : wd.cell? ⟨P, 1, none⟩ = some (.bool vn) := by simp [World.cell?, hd0]
          have v2 : wd.cell? ⟨P, 2, none⟩ = some (.string vf) := by simp [World.cell?, hd0]
          have v3 : wd.cell? ⟨P, 3, none⟩ = some (.int .i64 vr) := by simp [World.cell?, hd0]
          have v4 : wd.cell? ⟨P, 4, none⟩ = some (.int .i64 vt) := by simp [World.cell?, hd0]
          have v5 : wd.cell? ⟨P, 5, none⟩ = some (.int .i64 vb) := by simp [World.cell?, hd0]
          have v6 : wd.cell? ⟨P, 6, none⟩ = some (.slice (some ⟨b, off, none⟩) xl xc) := by simp [World.cell?, hd0]
          have fd : ∀ o, wd.frozen? ⟨P, o, none⟩ = false := fun o => by simp [World.frozen?, hd0]
          have HDD : Hid _ := hd0
          obtain ⟨e0, e1, e2, e3, e4, e5, e6⟩ := HR7.out wd HBD.out
          clear hd0 HR7
          simp only at e0 e1 e2 e3 e4 e5 e6
          go_wp2_with fail
          have hh := heap_set (o := 6) (.slice ka kkl kc) (heap_set (o := 5) (.int .i64 ub) (heap_set (o := 4) (.int .i64 ut) (heap_set (o := 3) (.int .i64 ur) (heap_set (o := 2) (.string uf) (heap_set (o := 1) (.bool un) (heap_set (o := 0) (.string uk) HDD.out))))))
          have hBt : But (fun k => k = P) wd (((((((wd.setCell ⟨P, 0, none⟩ (.string uk)).setCell ⟨P, 1, none⟩ (.bool un)).setCell ⟨P, 2, none⟩ (.string uf)).setCell ⟨P, 3, none⟩ (.int .i64 ur)).setCell ⟨P, 4, none⟩ (.int .i64 ut)).setCell ⟨P, 5, none⟩ (.int .i64 ub)).setCell ⟨P, 6, none⟩ (.slice ka kkl kc)) :=
            (((((((But.refl (fun k => k = P) wd).setCell _ 0 _ rfl).setCell _ 1 _ rfl).setCell _ 2 _ rfl).setCell _ 3 _ rfl).setCell _ 4 _ rfl).setCell _ 5 _ rfl).setCell _ 6 _ rfl
          have hPP := HPE.out
          refine ⟨⟨j + 1, y, tu, rfl, by go_num, by omega, HF2, HTT.out, HBD.out.trans (hBt.below (by have := HBD.out.size; omega) (fun k _ e => by omega)), ⟨m2, ka, kc, by rw [HKH.out.1, HKH.out.2]; exact hh, by rw [HKH.out.1, HKH.out.2]; exact HTJ.out⟩⟩, by simp [intOf]; omega⟩
      · rw [findN_no hin] at hF
        have hn : decide (0 ≤ pj ∧ pj < (x.kids.length : Int)) = false := decide_eq_false (fun h => hin ⟨h.1, by omega⟩)
        rw [hn] at hhas
        have HE : Hid (D = none) := by
          show D = none
          have := HD.out
          unfold nextN at this
          rw [hF] at this
          exact this.symm
        generalize x.kids.length = xl at *
        generalize x.h = xh at *
        clear hF hF0 hpd HF hV hT hKx q1 q2 q3 hbx hin hn htk hpj HTU
        obtain ⟨vk, vn, vf, vr, vt, vb⟩ := xh
        unfold ndV at hhas
        simp only at *
        have hwb := HBX.out
        have v0 : wr.cell? ⟨P, 0, none⟩ = some (.string vk) := by simp [World.cell?, hwb]
        have v1 : wr.cell? ⟨P, 1, none⟩ = some (.bool vn) := by simp [World.cell?, hwb]
        have v2 : wr.cell? ⟨P, 2, none⟩ = some (.string vf) := by simp [World.cell?, hwb]
        have v3 : wr.cell? ⟨P, 3, none⟩ = some (.int .i64 vr) := by simp [World.cell?, hwb]
        have v4 : wr.cell? ⟨P, 4, none⟩ = some (.int .i64 vt) := by simp [World.cell?, hwb]
        have v5 : wr.cell? ⟨P, 5, none⟩ = some (.int .i64 vb) := by simp [World.cell?, hwb]
        have v6 : wr.cell? ⟨P, 6, none⟩ = some (.slice xa xl xc) := by simp [World.cell?, hwb]
        clear hwb
        go_wp2_with fail
        refine hhas.mono ?_
        rintro e wc ⟨rfl, hbc⟩
        have HBC : Hid (Below w.heap.size w wc) := below_next HV.out.bw hbc
        clear v0 v1 v2 v3 v4 v5 v6 hhas hbc pcell
        go_wp2_with fail
        refine bodyPost_ret (v := .tuple #[.slice none 0 0, .bool false]) (by simp [results, Try.f19, go_sem]) rfl ?_
        rw [HE.out]
        exact ⟨GivesP.none, HBC.out⟩
    · have k1 : ¬ (j : Int) < p.length := by omega
      obtain ⟨hF0, hF, hcx⟩ := HF.out
      rw [List.take_of_length_le (by omega)] at hF0
      have HTP : Hid ((tu = -1 ∧ upR t p = none) ∨ ∃ (i : Nat) (x : Int), tu = i ∧ i < p.length ∧ p[i]? = some x ∧ 0 ≤ x ∧ x ≤ 140737488351232 ∧ upR t p = some (p.take i ++ [x + 1])) := by
        rcases HTU.out with ⟨h1, h2⟩ | ⟨i, y, h1, h2, h3, h4, h5, h6, h7⟩
        · rw [List.take_of_length_le (by omega)] at h2; exact .inl ⟨h1, h2⟩
        · rw [List.take_of_length_le (by omega)] at h7; exact .inr ⟨i, y, h1, by omega, h4, h5, h6, h7⟩
      have HDX : Hid (D = if hasI x 0 then some (p ++ [0]) else upR t p) := by
        show D = _
        rw [← HD.out]
        unfold nextN
        rw [hF0]
      have hpl5 := HL.out x p hF0
      have hhas := has_any x.h xa x.kids.length xc 0 wr (by omega)
      have HX0 : Hid (hasI x 0 = decide ((0 : Int) ≤ 0 ∧ (0 : Int) < (x.kids.length : Int))) := rfl
      rw [← HX0.out] at hhas
      generalize hasI x 0 = hx0 at *
      generalize x.kids.length = xl at *
      generalize x.h = xh at *
      clear HF hF0 hF hcx hV hT hKx q1 q2 q3 hbx HTU HX0 HD
      obtain ⟨vk, vn, vf, vr, vt, vb⟩ := xh
      unfold ndV at hhas
      simp only at *
      have hwb := HBX.out
      have v0 : wr.cell? ⟨P, 0, none⟩ = some (.string vk) := by simp [World.cell?, hwb]
      have v1 : wr.cell? ⟨P, 1, none⟩ = some (.bool vn) := by simp [World.cell?, hwb]
      have v2 : wr.cell? ⟨P, 2, none⟩ = some (.string vf) := by simp [World.cell?, hwb]
      have v3 : wr.cell? ⟨P, 3, none⟩ = some (.int .i64 vr) := by simp [World.cell?, hwb]
      have v4 : wr.cell? ⟨P, 4, none⟩ = some (.int .i64 vt) := by simp [World.cell?, hwb]
      have v5 : wr.cell? ⟨P, 5, none⟩ = some (.int .i64 vb) := by simp [World.cell?, hwb]
      have v6 : wr.cell? ⟨P, 6, none⟩ = some (.slice xa xl xc) := by simp [World.cell?, hwb]
      clear hwb
      cases hx0 with
      | true =>
        have HE : Hid (D = some (p ++ [0])) := HDX.out
        clear HDX HTP
        go_wp2_with fail
        refine hhas.mono ?_
        rintro e wc ⟨rfl, hbc⟩
        have HB5 : Hid (Below w.heap.size w (wc.alloc (Obj.cells #[.int .i64 0] 3))) := below_next (below_next HV.out.bw hbc) ((Below.refl _ _).alloc (Nat.le_refl _) _)
        have ht := told_any p [0] _ _ _ (HP.out _ HB5.out) (SlP.one (W := wc) 0) (by omega) (by simp)
        clear v0 v1 v2 v3 v4 v5 v6 hhas hbc
        go_wp2_with fail
        refine ht.mono ?_
        rintro e w3 ⟨⟨v, rfl, hv⟩, hb3⟩
        have HR : Hid (OwnI w.heap.size (p ++ [0]) v w3 ∧ Below w.heap.size w w3) := ⟨own_base hv HB5.out.size, below_next HB5.out hb3⟩
        clear ht hv hb3 HB5
        go_wp2_with fail
        refine bodyPost_ret (v := .tuple #[v, .bool true]) (by simp [results, Try.f19, go_sem]) rfl ?_
        rw [HE.out]
        exact ⟨GivesP.some HR.out.1, HR.out.2⟩
      | false =>
        have HE0 : Hid (D = upR t p) := HDX.out
        clear HDX
        rcases HTP.out with ⟨rfl, h2⟩ | ⟨ti, pt, rfl, hti, hpt, hpt0, hpt1, hup⟩
        · have HE : Hid (D = none) := HE0.out.trans h2
          clear HTP HE0 h2
          go_wp2_with fail
          refine hhas.mono ?_
          rintro e wc ⟨rfl, hbc⟩
          have HBC : Hid (Below w.heap.size w wc) := below_next HV.out.bw hbc
          clear v0 v1 v2 v3 v4 v5 v6 hhas hbc
          go_wp2_with fail
          refine bodyPost_ret (v := .tuple #[.slice none 0 0, .bool false]) (by simp [results, Try.f19, go_sem]) rfl ?_
          rw [HE.out]
          exact ⟨GivesP.none, HBC.out⟩
        · have HE : Hid (D = some (p.take ti ++ [pt + 1])) := HE0.out.trans hup
          obtain ⟨b, off, rfl, hbl, pcell0⟩ := HPP.out ti pt hpt
          clear HTP HE0 hup
          have k2 : ¬ (ti : Int) < 0 := by omega
          go_wp2_with fail
          refine hhas.mono ?_
          rintro e wc ⟨rfl, hbc⟩
          have HBC : Hid (Below w.heap.size w wc) := below_next HV.out.bw hbc
          have pc1 := (HBC.out.cell (p := ⟨b, off + ti, none⟩) hbl).trans pcell0
          obtain ⟨ps, hps⟩ : ∃ ps, pt + 1 = ps := ⟨_, rfl⟩
          have hwp : IntKind.i64.wrap (pt + 1) = ps := by rw [IntWalk.i64_in _ (by omega)]; exact hps
          rw [hps] at HE
          clear v0 v1 v2 v3 v4 v5 v6 hhas hbc pcell0 hpt
          have k3 : ¬ (pc : Int) < (ti : Int) := by omega
          have k4 : (ti : Int) < (p.length : Int) := by omega
          clear hps
          go_wp2_with fail
          have hS1 : wc.drew.cell? ⟨b, off + ti, none⟩ = some (.int .i64 pt) := pc1
          have hB4 : Below wc.drew.heap.size wc.drew (wc.drew.alloc (Obj.cells #[.int .i64 ps] 3)) := (Below.refl _ _).alloc (Nat.le_refl _) _
          have hS2 := (hB4.cell (p := ⟨b, off + ti, none⟩) (World.block_lt_of_cell? _ _ hS1)).trans hS1
          have HB5 : Hid (Below w.heap.size w (wc.drew.alloc (Obj.cells #[.int .i64 ps] 3))) := below_next (HBC.out.drew) hB4
          have hcut : SlP (p.take ti) (.slice (some ⟨b, off, none⟩) ti pc) (wc.drew.alloc (Obj.cells #[.int .i64 ps] 3)) := by
            obtain ⟨qa, qc, qe, r1, r2, r3, r4⟩ := HP.out _ HB5.out
            injection qe with e1 e2 e3
            subst e1 e3
            exact ⟨_, pc, by rw [List.length_take, Nat.min_eq_left (by omega)], r1.take ti, r2, by rw [List.length_take]; omega, r4⟩
          have ht := told_any (p.take ti) [ps] _ _ _ hcut (SlP.one (W := wc.drew) ps) (by rw [List.length_take]; omega) (by simp)
          clear hB4 hcut pc1 hbl
          refine wp_region_L (fun W => W.cell? ⟨b, off + ti, none⟩ = some (.int .i64 pt)) 12 (by kernel_rfl) 12 rfl ?_
          refine wpAnyL_take' (i := 0) (v := ?_) (oi := { dst := some 38, op := Op.move (Operand.tmp 1), type := 25, pos := "cursor.go:57", after := #[], guard := none }) rfl (by kernel_rfl) (by kernel_rfl) (by kernel_rfl) (by kernel_rfl) rfl (fun _ _ _ h => h) (Or.inl ⟨by rfl, ?_⟩) hS1 ?_
          rotate_left
          · intro W hSW
            go_simp
            try with_reducible rfl
          simp only [Act.put, List.setIfInBounds_toArray, List.set_cons_zero, List.set_cons_succ]
          refine wpAnyL_take' (i := 1) (v := ?_) (oi := { dst := some 39, op := Op.move (Operand.tmp 6), type := 3, pos := "cursor.go:57", after := #[], guard := none }) rfl (by kernel_rfl) (by kernel_rfl) (by kernel_rfl) (by kernel_rfl) rfl (fun _ _ _ h => h) (Or.inl ⟨by rfl, ?_⟩) hS1 ?_
          rotate_left
          · intro W hSW
            go_simp
            try with_reducible rfl
          simp only [Act.put, List.setIfInBounds_toArray, List.set_cons_zero, List.set_cons_succ]
          refine wpAnyL_take' (i := 2) (v := ?_) (oi := { dst := some 40, op := Op.slice 25 (Operand.tmp 38) none (some (Operand.tmp 39)) none, type := 25, pos := "cursor.go:57", after := #[{ on := 0, ground := Ground.data }, { on := 1, ground := Ground.data }], guard := none }) rfl (by kernel_rfl) (by kernel_rfl) (by kernel_rfl) (by kernel_rfl) rfl (fun _ _ _ h => h) (Or.inl ⟨by rfl, ?_⟩) hS1 ?_
          rotate_left
          · intro W hSW
            go_simp
            try with_reducible rfl
          simp only [Act.put, List.setIfInBounds_toArray, List.set_cons_zero, List.set_cons_succ]
          refine wpAnyL_take' (i := 3) (v := ?_) (oi := { dst := some 41, op := Op.move (Operand.tmp 1), type := 25, pos := "cursor.go:57", after := #[], guard := none }) rfl (by kernel_rfl) (by kernel_rfl) (by kernel_rfl) (by kernel_rfl) rfl (fun _ _ _ h => h) (Or.inl ⟨by rfl, ?_⟩) hS1 ?_
          rotate_left
          · intro W hSW
            go_simp
            try with_reducible rfl
          simp only [Act.put, List.setIfInBounds_toArray, List.set_cons_zero, List.set_cons_succ]
          refine wpAnyL_take' (i := 4) (v := ?_) (oi := { dst := some 42, op := Op.move (Operand.tmp 6), type := 3, pos := "cursor.go:57", after := #[], guard := none }) rfl (by kernel_rfl) (by kernel_rfl) (by kernel_rfl) (by kernel_rfl) rfl (fun _ _ _ h => h) (Or.inl ⟨by rfl, ?_⟩) hS1 ?_
          rotate_left
          · intro W hSW
            go_simp
            try with_reducible rfl
          simp only [Act.put, List.setIfInBounds_toArray, List.set_cons_zero, List.set_cons_succ]
          refine wpAnyL_take' (i := 5) (v := ?_) (oi := { dst := some 43, op := Op.indexAddr 25 (Operand.tmp 41) (Operand.tmp 42), type := 0, pos := "cursor.go:57", after := #[{ on := 3, ground := Ground.data }, { on := 4, ground := Ground.data }], guard := none }) rfl (by kernel_rfl) (by kernel_rfl) (by kernel_rfl) (by kernel_rfl) rfl (fun _ _ _ h => h) (Or.inl ⟨by rfl, ?_⟩) hS1 ?_
          rotate_left
          · intro W hSW
            go_simp
            try with_reducible rfl
          simp only [Act.put, List.setIfInBounds_toArray, List.set_cons_zero, List.set_cons_succ]
          refine wpAnyL_take' (i := 6) (v := ?_) (oi := { dst := some 44, op := Op.load 3 (Operand.tmp 43), type := 3, pos := "cursor.go:57", after := #[{ on := 5, ground := Ground.data }], guard := none }) rfl (by kernel_rfl) (by kernel_rfl) (by kernel_rfl) (by kernel_rfl) rfl (fun _ _ _ h => h) (Or.inl ⟨by rfl, ?_⟩) hS1 ?_
          rotate_left
          · intro W hSW
            go_simp
            try with_reducible rfl
          simp only [Act.put, List.setIfInBounds_toArray, List.set_cons_zero, List.set_cons_succ]
          refine wpAnyL_take' (i := 7) (v := ?_) (oi := { dst := some 45, op := Op.binOp BinOp.add 3 (Operand.tmp 44) (Operand.const (Value.int IntKind.i64 1)) 3, type := 3, pos := "cursor.go:57", after := #[{ on := 6, ground := Ground.data }], guard := none }) rfl (by kernel_rfl) (by kernel_rfl) (by kernel_rfl) (by kernel_rfl) rfl (fun _ _ _ h => h) (Or.inl ⟨by rfl, ?_⟩) hS1 ?_
          rotate_left
          · intro W hSW
            go_simp
            try with_reducible rfl
          simp only [Act.put, List.setIfInBounds_toArray, List.set_cons_zero, List.set_cons_succ]
          refine wpAnyL_one' (i := 8) (o := { dst := some 46, op := Op.buildSlice 25 1 #[(0, Operand.tmp 45)], type := 25, pos := "cursor.go:57", after := #[{ on := 7, ground := Ground.data }], guard := none }) (by kernel_rfl) rfl rfl (fun K hK => ?_)
          go_simp
          refine hK.out _ _ (fun _ => hS2) ?_
          clear hK
          refine wpAnyL_one' (i := 9) (o := { dst := some 47, op := Op.call { callee := Callee.value (Operand.func 31), args := #[Operand.tmp 40, Operand.tmp 46], argTypes := #[25, 25] }, type := 25, pos := "cursor.go:57", after := #[{ on := 2, ground := Ground.data }, { on := 8, ground := Ground.data }], guard := none }) (by kernel_rfl) rfl rfl (fun K hK => ?_)
          go_simp
          refine (ht).mono ?_
          rintro e w4 ⟨⟨v, rfl, hv⟩, hb4⟩
          refine hK.out _ _ (fun _ => ((hb4.cell (p := ⟨b, off + ti, none⟩) (World.block_lt_of_cell? _ _ hS2)).trans hS2)) ?_
          clear hK
          refine wpAnyL_take' (i := 10) (v := ?_) (oi := { dst := some 4, op := Op.assign (Operand.tmp 47), type := 25, pos := "cursor.go:57", after := #[{ on := 9, ground := Ground.data }, { on := 9, ground := Ground.chain }, { on := 0, ground := Ground.phase }, { on := 1, ground := Ground.phase }, { on := 2, ground := Ground.phase }, { on := 3, ground := Ground.phase }, { on := 4, ground := Ground.phase }, { on := 5, ground := Ground.phase }, { on := 6, ground := Ground.phase }, { on := 7, ground := Ground.phase }, { on := 8, ground := Ground.phase }, { on := 9, ground := Ground.phase }], guard := none }) rfl (by kernel_rfl) (by kernel_rfl) (by kernel_rfl) (by kernel_rfl) rfl (fun _ _ _ h => h) (Or.inl ⟨by rfl, ?_⟩) ((hb4.cell (p := ⟨b, off + ti, none⟩) (World.block_lt_of_cell? _ _ hS2)).trans hS2) ?_
          rotate_left
          · intro W hSW
            go_simp
            try with_reducible rfl
          simp only [Act.put, List.setIfInBounds_toArray, List.set_cons_zero, List.set_cons_succ]
          refine wpAnyL_take' (i := 11) (v := ?_) (oi := { dst := some 5, op := Op.assign (Operand.const (Value.bool true)), type := 4, pos := "cursor.go:57", after := #[{ on := 10, ground := Ground.chain }, { on := 0, ground := Ground.phase }, { on := 1, ground := Ground.phase }, { on := 2, ground := Ground.phase }, { on := 3, ground := Ground.phase }, { on := 4, ground := Ground.phase }, { on := 5, ground := Ground.phase }, { on := 6, ground := Ground.phase }, { on := 7, ground := Ground.phase }, { on := 8, ground := Ground.phase }, { on := 9, ground := Ground.phase }, { on := 10, ground := Ground.phase }], guard := none }) rfl (by kernel_rfl) (by kernel_rfl) (by kernel_rfl) (by kernel_rfl) rfl (fun _ _ _ h => h) (Or.inl ⟨by rfl, ?_⟩) ((hb4.cell (p := ⟨b, off + ti, none⟩) (World.block_lt_of_cell? _ _ hS2)).trans hS2) ?_
          rotate_left
          · intro W hSW
            go_simp
            try with_reducible rfl
          simp only [Act.put, List.setIfInBounds_toArray, List.set_cons_zero, List.set_cons_succ]
          refine wpAnyL_done (by kernel_rfl) ?_ _
          have HR : Hid (OwnI w.heap.size (p.take ti ++ [ps]) v w4 ∧ Below w.heap.size w w4) := ⟨own_base hv HB5.out.size, below_next HB5.out hb4⟩
          clear ht hv hb4 HB5
          go_wp2_with fail
          refine bodyPost_ret (v := .tuple #[v, .bool true]) (by simp [results, Try.f19, go_sem]) rfl ?_
          rw [HE.out]
          exact ⟨GivesP.some HR.out.1, HR.out.2⟩
end Go.Proofs.Ytmkkjjhlppagpaa
