/- The document's Find. -/
import Derived.Test.YtmkkjjhlppagpaaCBase
namespace Go.Proofs.Ytmkkjjhlppagpaa
open Go.RowKit

set_option maxRecDepth 100000 in
set_option maxHeartbeats 4000000 in
theorem rfind_any {A : Nat → Prop} (n : Nat) (t0 : Nd) (v : Value) (p : List Int) (pa : Option Addr) (pc : Nat) (w : World) (h : TAt A n t0 v w) (hc : cntN t0 ≤ 5000) (hp : RowI p pa w) (hpl : p.length ≤ 140737488351232) :
    Calls Try.prog 28 #[v, .slice pa p.length pc] w fun e w' => (∃ m v', e = .returned (.tuple #[v', .bool (findN t0 p).isSome]) ∧ TAt (fun _ => True) m ((findN t0 p).getD zeroN) v' w') ∧ Below w.heap.size w w' := by
  have h1 := h.imp (B := fun k => k < w.heap.size) (fun k hk _ => hk)
  clear h
  obtain ⟨ba, bc, rfl, _⟩ := h1.val
  have HE : Hid (TAt (fun k => k < w.heap.size) n t0 (ndV t0.h (.slice ba t0.kids.length bc)) w) := h1
  clear h1
  obtain ⟨hd, hhd⟩ : ∃ hd, t0.h = hd := ⟨_, rfl⟩
  obtain ⟨kl, hkl⟩ : ∃ kl, t0.kids.length = kl := ⟨_, rfl⟩
  have HH : Hid (t0.h = hd ∧ t0.kids.length = kl) := ⟨hhd, hkl⟩
  rw [hhd, hkl]
  clear hhd hkl
  obtain ⟨zk, zn, zf, zr, zt, zb⟩ := hd
  obtain ⟨W0, hW0⟩ : ∃ W0, W0 = (w.alloc (Obj.cells #[Value.string zk, Value.bool zn, Value.string zf, Value.int IntKind.i64 zr, Value.int IntKind.i64 zt, Value.int IntKind.i64 zb, Value.slice ba kl bc] 24)).alloc (Obj.cells #[.string ⟨#[]⟩, .bool false, .string ⟨#[]⟩, .int .i64 0, .int .i64 0, .int .i64 0, .slice none 0 0] 24) := ⟨_, rfl⟩
  have hB0 : Below w.heap.size w W0 := by rw [hW0]; exact ((Below.refl _ _).alloc (Nat.le_refl _) _).alloc (by simp) _
  have hz : W0.heap.size = w.heap.size + 1 + 1 := by rw [hW0]; simp
  have b0 : W0.heap[w.heap.size]? = some (.cells #[Value.string zk, Value.bool zn, Value.string zf, Value.int IntKind.i64 zr, Value.int IntKind.i64 zt, Value.int IntKind.i64 zb, Value.slice ba kl bc] 24 (0, 0)) := by rw [hW0]; exact (Below.heap_alloc _ _ _ (by simp)).trans (World.alloc_heap_new w _)
  have b1 : W0.heap[w.heap.size + 1]? = some (.cells #[.string ⟨#[]⟩, .bool false, .string ⟨#[]⟩, .int .i64 0, .int .i64 0, .int .i64 0, .slice none 0 0] 24 (0, 0)) := by
    have := World.alloc_heap_new (w.alloc (Obj.cells #[Value.string zk, Value.bool zn, Value.string zf, Value.int IntKind.i64 zr, Value.int IntKind.i64 zt, Value.int IntKind.i64 zb, Value.slice ba kl bc] 24)) (Obj.cells #[.string ⟨#[]⟩, .bool false, .string ⟨#[]⟩, .int .i64 0, .int .i64 0, .int .i64 0, .slice none 0 0] 24)
    rw [World.size_alloc] at this
    rw [hW0]; exact this
  have HV0 : Hid (FnV w w.heap.size t0 W0) := ⟨hB0, ⟨n, ba, bc, by rw [HH.out.1, HH.out.2]; exact b0, HE.out⟩, b1⟩
  unfold ndV
  simp only
  go_enter Try.func28, Try.ntmps28
  go_wp2_with fail
  rw [← hW0]
  have HZ : Hid (W0.heap.size = w.heap.size + 1 + 1) := hz
  clear hW0 hz b0 b1
  obtain ⟨P, HP⟩ : ∃ P, Hid (P = w.heap.size) := ⟨_, rfl⟩
  rw [← HP.out] at HV0 HZ ⊢
  have HPP : Hid (RowI p pa w) := hp
  have HC : Hid (cntN t0 ≤ 5000) := hc
  clear hp hc HE HH
  go_loopw [6] (fun c wr => ∃ (j : Nat) (x : Nd), c = .int .i64 j ∧ j ≤ p.length ∧ P + 1 < wr.heap.size ∧ Hid (findN t0 p = findN x (p.drop j) ∧ cntN x ≤ 5000) ∧ FnV w P x wr) (fun c _ => p.length - (intOf c).toNat)
  case atStart => exact ⟨0, t0, rfl, Nat.zero_le _, by have := HZ.out; omega, ⟨by simp, HC.out⟩, HV0.out⟩
  case round =>
    obtain ⟨j, x, rfl, hj, hPw, HF, hV⟩ := hrel
    obtain ⟨m, xa, xc, hbx, hT⟩ := hV.bx
    obtain ⟨m2, q1, q2, q3, _, hxl, hKx⟩ := TAt.succ hT
    have HV : Hid (FnV w P x wr) := hV
    have rs := hV.rs
    have hwP : w.heap.size ≤ P := by have := HP.out; omega
    have c6 : wr.cell? ⟨P, 6, none⟩ = some (.slice xa x.kids.length xc) := by simp [World.cell?, hbx]
    have c0 : wr.cell? ⟨P, 0, none⟩ = some (.string x.h.kind) := by simp [World.cell?, hbx]
    have c1 : wr.cell? ⟨P, 1, none⟩ = some (.bool x.h.named) := by simp [World.cell?, hbx]
    have c2 : wr.cell? ⟨P, 2, none⟩ = some (.string x.h.field) := by simp [World.cell?, hbx]
    have c3 : wr.cell? ⟨P, 3, none⟩ = some (.int .i64 x.h.frm) := by simp [World.cell?, hbx]
    have c4 : wr.cell? ⟨P, 4, none⟩ = some (.int .i64 x.h.to) := by simp [World.cell?, hbx]
    have c5 : wr.cell? ⟨P, 5, none⟩ = some (.int .i64 x.h.bad) := by simp [World.cell?, hbx]
    have f0 : ∀ o, wr.frozen? ⟨P, o, none⟩ = false := fun o => by simp [World.frozen?, hbx]
    have f1 : ∀ o, wr.frozen? ⟨P + 1, o, none⟩ = false := fun o => by simp [World.frozen?, rs]
    have s0 : wr.cell? ⟨P + 1, 0, none⟩ = some (.string ⟨#[]⟩) := by simp [World.cell?, rs]
    have s1 : wr.cell? ⟨P + 1, 1, none⟩ = some (.bool false) := by simp [World.cell?, rs]
    have s2 : wr.cell? ⟨P + 1, 2, none⟩ = some (.string ⟨#[]⟩) := by simp [World.cell?, rs]
    have s3 : wr.cell? ⟨P + 1, 3, none⟩ = some (.int .i64 0) := by simp [World.cell?, rs]
    have s4 : wr.cell? ⟨P + 1, 4, none⟩ = some (.int .i64 0) := by simp [World.cell?, rs]
    have s5 : wr.cell? ⟨P + 1, 5, none⟩ = some (.int .i64 0) := by simp [World.cell?, rs]
    have s6 : wr.cell? ⟨P + 1, 6, none⟩ = some (.slice none 0 0) := by simp [World.cell?, rs]
    by_cases hlt : j < p.length
    · have k1 : (j : Int) < p.length := by omega
      obtain ⟨b2, off2, rfl, hb2, pcell0⟩ := HPP.out j p[j] (by simp [hlt])
      have pcell := (hV.bw.cell (p := ⟨b2, off2 + j, none⟩) hb2).trans pcell0
      have hpd : p.drop j = p[j] :: p.drop (j + 1) := List.drop_eq_getElem_cons hlt
      obtain ⟨hF, hcx⟩ := HF.out
      rw [hpd] at hF
      generalize p[j] = pj at *
      by_cases hin : 0 ≤ pj ∧ pj.toNat < x.kids.length
      · obtain ⟨hi0, hi1⟩ := hin
        have g1 : ¬ pj < 0 := by omega
        have g2 : ¬ ((x.kids.length : Int) ≤ pj) := by omega
        have g3 : pj < (x.kids.length : Int) := by omega
        rw [findN_yes hi0 hi1] at hF
        have hcj := cntN_kid hi1
        obtain ⟨b, off, ka, kc, rfl, hbl, hb', hr7, hTj⟩ := hKx pj.toNat x.kids[pj.toNat] (by simp [hi1])
        have hr72 := hr7.but (D := fun k => w.heap.size ≤ k) (But.of_below hV.bw) hb' (by omega)
        obtain ⟨e0, e1, e2, e3, e4, e5, e6⟩ := hr72
        generalize x.kids[pj.toNat] = y at *
        have HTJ : Hid (TAt (fun k => k < w.heap.size) m2 y (ndV y.h (.slice ka y.kids.length kc)) w) := hTj
        have HF2 : Hid (findN t0 p = findN y (p.drop (j + 1)) ∧ cntN y ≤ 5000) := ⟨hF, by omega⟩
        have HD : Hid (wr.heap[P]? = some (.cells #[.string x.h.kind, .bool x.h.named, .string x.h.field, .int .i64 x.h.frm, .int .i64 x.h.to, .int .i64 x.h.bad, .slice (some ⟨b, off, none⟩) x.kids.length xc] 24 (0, 0))) := hbx
        have HRS : Hid _ := rs
        generalize hkh : y.h = kh at *
        generalize hkk : y.kids.length = kkl at *
        have HKH : Hid (y.h = kh ∧ y.kids.length = kkl) := ⟨hkh, hkk⟩
        clear hkh hkk hTj hr7 hF hpd hcx hcj HF hV hT hKx q1 q2 q3 hbx rs s0 s1 s2 s3 s4 s5 s6 f1
        obtain ⟨uk, un, uf, ur, ut, ub⟩ := kh
        simp only at *
        go_wp2_with fail
        go_quiet (fail)
        go_wp2_with fail
        refine wp_region_L (fun W => (W.cell? ⟨P, 6, none⟩ = some (.slice (some ⟨b, off, none⟩) x.kids.length xc)) ∧ W.cell? ⟨b2, off2 + j, none⟩ = some (.int .i64 pj) ∧ W.cell? ⟨b, off + pj.toNat * 7, none⟩ = some (.string uk) ∧ W.cell? ⟨b, off + pj.toNat * 7 + 1, none⟩ = some (.bool un) ∧ W.cell? ⟨b, off + pj.toNat * 7 + 2, none⟩ = some (.string uf) ∧ W.cell? ⟨b, off + pj.toNat * 7 + 3, none⟩ = some (.int .i64 ur) ∧ W.cell? ⟨b, off + pj.toNat * 7 + 4, none⟩ = some (.int .i64 ut) ∧ W.cell? ⟨b, off + pj.toNat * 7 + 5, none⟩ = some (.int .i64 ub) ∧ W.cell? ⟨b, off + pj.toNat * 7 + 6, none⟩ = some (.slice ka kkl kc)) 8 (by kernel_rfl) 9 rfl ?_
        have hwd : (wr.drewN nq).drew.heap = wr.heap := rfl
        have hBd : Below w.heap.size w (wr.drewN nq).drew := (below_drewN HV.out.bw nq).drew
        generalize (wr.drewN nq).drew = wd at *
        have HS6 : ((wd.cell? ⟨P, 6, none⟩ = some (.slice (some ⟨b, off, none⟩) x.kids.length xc)) ∧ wd.cell? ⟨b2, off2 + j, none⟩ = some (.int .i64 pj) ∧ wd.cell? ⟨b, off + pj.toNat * 7, none⟩ = some (.string uk) ∧ wd.cell? ⟨b, off + pj.toNat * 7 + 1, none⟩ = some (.bool un) ∧ wd.cell? ⟨b, off + pj.toNat * 7 + 2, none⟩ = some (.string uf) ∧ wd.cell? ⟨b, off + pj.toNat * 7 + 3, none⟩ = some (.int .i64 ur) ∧ wd.cell? ⟨b, off + pj.toNat * 7 + 4, none⟩ = some (.int .i64 ut) ∧ wd.cell? ⟨b, off + pj.toNat * 7 + 5, none⟩ = some (.int .i64 ub) ∧ wd.cell? ⟨b, off + pj.toNat * 7 + 6, none⟩ = some (.slice ka kkl kc)) := by
          have hcd : ∀ a, wd.cell? a = wr.cell? a := fun a => by unfold World.cell?; rw [hwd]
          simp only [hcd]
          exact ⟨c6, pcell, e0, e1, e2, e3, e4, e5, e6⟩
        have hfd : ∀ o, wd.frozen? ⟨P, o, none⟩ = false := fun o => by
          have : wd.frozen? ⟨P, o, none⟩ = wr.frozen? ⟨P, o, none⟩ := by unfold World.frozen?; rw [hwd]
          rw [this]; exact f0 o
        have hcd : ∀ o, wd.cell? ⟨P, o, none⟩ = wr.cell? ⟨P, o, none⟩ := fun o => by unfold World.cell?; rw [hwd]
        have v0 := (hcd 0).trans c0
        have v1 := (hcd 1).trans c1
        have v2 := (hcd 2).trans c2
        have v3 := (hcd 3).trans c3
        have v4 := (hcd 4).trans c4
        have v5 := (hcd 5).trans c5
        have v6 := (hcd 6).trans c6
        have HDD : Hid (wd.heap[P]? = some (.cells #[.string x.h.kind, .bool x.h.named, .string x.h.field, .int .i64 x.h.frm, .int .i64 x.h.to, .int .i64 x.h.bad, .slice (some ⟨b, off, none⟩) x.kids.length xc] 24 (0, 0))) := by show _ = _; rw [hwd]; exact HD.out
        have HRD : Hid (wd.heap[P + 1]? = some (.cells #[.string ⟨#[]⟩, .bool false, .string ⟨#[]⟩, .int .i64 0, .int .i64 0, .int .i64 0, .slice none 0 0] 24 (0, 0))) := by show _ = _; rw [hwd]; exact HRS.out
        have HSZ : Hid (wd.heap.size = wr.heap.size) := by show _ = _; rw [hwd]
        clear hcd c0 c1 c2 c3 c4 c5 c6 f0 e0 e1 e2 e3 e4 e5 e6 pcell
        refine wpAnyL_take' (i := 0) (v := ?_) (oi := { dst := some 29, op := Op.fieldAddr 24 (Operand.tmp 2) 6, type := 0, pos := "ref.go:146", after := #[], guard := none }) rfl (by kernel_rfl) (by kernel_rfl) (by kernel_rfl) (by kernel_rfl) rfl (fun _ _ _ h => h) (Or.inl ⟨by rfl, ?_⟩) HS6 ?_
        rotate_left
        · intro W hSW
          go_simp
          try with_reducible rfl
        simp only [Act.put, List.setIfInBounds_toArray, List.set_cons_zero, List.set_cons_succ]
        refine wpAnyL_take' (i := 1) (v := ?_) (oi := { dst := some 30, op := Op.load 22 (Operand.tmp 29), type := 22, pos := "ref.go:146", after := #[{ on := 0, ground := Ground.data }], guard := none }) rfl (by kernel_rfl) (by kernel_rfl) (by kernel_rfl) (by kernel_rfl) rfl (fun _ _ _ h => h) (Or.inl ⟨by rfl, ?_⟩) HS6 ?_
        rotate_left
        · intro W hSW
          go_simp
          try with_reducible rfl
        simp only [Act.put, List.setIfInBounds_toArray, List.set_cons_zero, List.set_cons_succ]
        refine wpAnyL_take' (i := 2) (v := ?_) (oi := { dst := some 31, op := Op.move (Operand.tmp 1), type := 25, pos := "ref.go:146", after := #[], guard := none }) rfl (by kernel_rfl) (by kernel_rfl) (by kernel_rfl) (by kernel_rfl) rfl (fun _ _ _ h => h) (Or.inl ⟨by rfl, ?_⟩) HS6 ?_
        rotate_left
        · intro W hSW
          go_simp
          try with_reducible rfl
        simp only [Act.put, List.setIfInBounds_toArray, List.set_cons_zero, List.set_cons_succ]
        refine wpAnyL_take' (i := 3) (v := ?_) (oi := { dst := some 32, op := Op.move (Operand.tmp 6), type := 3, pos := "ref.go:146", after := #[], guard := none }) rfl (by kernel_rfl) (by kernel_rfl) (by kernel_rfl) (by kernel_rfl) rfl (fun _ _ _ h => h) (Or.inl ⟨by rfl, ?_⟩) HS6 ?_
        rotate_left
        · intro W hSW
          go_simp
          try with_reducible rfl
        simp only [Act.put, List.setIfInBounds_toArray, List.set_cons_zero, List.set_cons_succ]
        refine wpAnyL_take' (i := 4) (v := ?_) (oi := { dst := some 33, op := Op.indexAddr 25 (Operand.tmp 31) (Operand.tmp 32), type := 0, pos := "ref.go:146", after := #[{ on := 2, ground := Ground.data }, { on := 3, ground := Ground.data }], guard := none }) rfl (by kernel_rfl) (by kernel_rfl) (by kernel_rfl) (by kernel_rfl) rfl (fun _ _ _ h => h) (Or.inl ⟨by rfl, ?_⟩) HS6 ?_
        rotate_left
        · intro W hSW
          go_simp
          try with_reducible rfl
        simp only [Act.put, List.setIfInBounds_toArray, List.set_cons_zero, List.set_cons_succ]
        refine wpAnyL_take' (i := 5) (v := ?_) (oi := { dst := some 34, op := Op.load 3 (Operand.tmp 33), type := 3, pos := "ref.go:146", after := #[{ on := 4, ground := Ground.data }], guard := none }) rfl (by kernel_rfl) (by kernel_rfl) (by kernel_rfl) (by kernel_rfl) rfl (fun _ _ _ h => h) (Or.inl ⟨by rfl, ?_⟩) HS6 ?_
        rotate_left
        · intro W hSW
          go_simp
          try with_reducible rfl
        simp only [Act.put, List.setIfInBounds_toArray, List.set_cons_zero, List.set_cons_succ]
        refine wpAnyL_take' (i := 6) (v := ?_) (oi := { dst := some 35, op := Op.indexAddr 22 (Operand.tmp 30) (Operand.tmp 34), type := 0, pos := "ref.go:146", after := #[{ on := 1, ground := Ground.data }, { on := 5, ground := Ground.data }], guard := none }) rfl (by kernel_rfl) (by kernel_rfl) (by kernel_rfl) (by kernel_rfl) rfl (fun _ _ _ h => h) (Or.inl ⟨by rfl, ?_⟩) HS6 ?_
        rotate_left
        · intro W hSW
          go_simp
          try with_reducible rfl
        simp only [Act.put, List.setIfInBounds_toArray, List.set_cons_zero, List.set_cons_succ]
        refine wpAnyL_take' (i := 7) (v := ?_) (oi := { dst := some 36, op := Op.load 24 (Operand.tmp 35), type := 24, pos := "ref.go:146", after := #[{ on := 6, ground := Ground.data }], guard := none }) rfl (by kernel_rfl) (by kernel_rfl) (by kernel_rfl) (by kernel_rfl) rfl (fun _ _ _ h => h) (Or.inl ⟨by rfl, ?_⟩) HS6 ?_
        rotate_left
        · intro W hSW
          go_simp
          try with_reducible rfl
        simp only [Act.put, List.setIfInBounds_toArray, List.set_cons_zero, List.set_cons_succ]
        refine wpAnyL_one' (i := 8) (o := { dst := none, op := Op.store 24 (Operand.tmp 2) (Operand.tmp 36), type := 0, pos := "ref.go:146", after := #[{ on := 7, ground := Ground.data }, { on := 0, ground := Ground.phase }, { on := 1, ground := Ground.phase }, { on := 2, ground := Ground.phase }, { on := 3, ground := Ground.phase }, { on := 4, ground := Ground.phase }, { on := 5, ground := Ground.phase }, { on := 6, ground := Ground.phase }, { on := 7, ground := Ground.phase }], guard := none }) (by kernel_rfl) rfl rfl (fun K hK => ?_)
        go_simp
        have hh := heap_set (o := 6) (.slice ka kkl kc) (heap_set (o := 5) (.int .i64 ub) (heap_set (o := 4) (.int .i64 ut) (heap_set (o := 3) (.int .i64 ur) (heap_set (o := 2) (.string uf) (heap_set (o := 1) (.bool un) (heap_set (o := 0) (.string uk) HDD.out))))))
        have hBt : But (fun k => k = P) wd (((((((wd.setCell ⟨P, 0, none⟩ (.string uk)).setCell ⟨P, 1, none⟩ (.bool un)).setCell ⟨P, 2, none⟩ (.string uf)).setCell ⟨P, 3, none⟩ (.int .i64 ur)).setCell ⟨P, 4, none⟩ (.int .i64 ut)).setCell ⟨P, 5, none⟩ (.int .i64 ub)).setCell ⟨P, 6, none⟩ (.slice ka kkl kc)) :=
          (((((((But.refl (fun k => k = P) wd).setCell _ 0 _ rfl).setCell _ 1 _ rfl).setCell _ 2 _ rfl).setCell _ 3 _ rfl).setCell _ 4 _ rfl).setCell _ 5 _ rfl).setCell _ 6 _ rfl
        refine hK.out _ _ (fun h => absurd h (by decide)) ?_
        clear hK
        refine wpAnyL_done (by kernel_rfl) ?_ _
        go_wp2_with fail
        have hsz := HSZ.out
        refine ⟨⟨j + 1, y, by go_num, by omega, by have := hBt.size; omega, HF2, hBd.trans (hBt.below (by have := hBd.size; omega) (fun k _ e => by omega)), ⟨m2, ka, kc, by rw [HKH.out.1, HKH.out.2]; exact hh, by rw [HKH.out.1, HKH.out.2]; exact HTJ.out⟩, (hBt.block (P + 1) (by omega) (by omega)).trans HRD.out⟩, by simp [intOf]; omega⟩
      · rw [findN_no hin] at hF
        have HFN : Hid (findN t0 p = none) := hF
        have HRS : Hid (wr.heap[P + 1]? = some (.cells #[.string ⟨#[]⟩, .bool false, .string ⟨#[]⟩, .int .i64 0, .int .i64 0, .int .i64 0, .slice none 0 0] 24 (0, 0))) := rs
        have HIN : Hid (¬ (0 ≤ pj ∧ pj.toNat < x.kids.length)) := hin
        clear hF hpd HF hV hT hKx q1 q2 q3 hbx rs hin
        have HEND : Hid (∀ (q : Nat) Wf, Wf = (((((((wr.drewN q).setCell ⟨P + 1, 0, none⟩ (.string ⟨#[]⟩)).setCell ⟨P + 1, 1, none⟩ (.bool false)).setCell ⟨P + 1, 2, none⟩ (.string ⟨#[]⟩)).setCell ⟨P + 1, 3, none⟩ (.int .i64 0)).setCell ⟨P + 1, 4, none⟩ (.int .i64 0)).setCell ⟨P + 1, 5, none⟩ (.int .i64 0)).setCell ⟨P + 1, 6, none⟩ (.slice none 0 0) → Wf.heap[P + 1]? = some (.cells #[.string ⟨#[]⟩, .bool false, .string ⟨#[]⟩, .int .i64 0, .int .i64 0, .int .i64 0, .slice none 0 0] 24 (0, 0)) ∧ Below w.heap.size w Wf) := fun q Wf e => by
          subst e
          have hBt : But (fun k => k = P + 1) (wr.drewN q) ((((((((wr.drewN q).setCell ⟨P + 1, 0, none⟩ (.string ⟨#[]⟩)).setCell ⟨P + 1, 1, none⟩ (.bool false)).setCell ⟨P + 1, 2, none⟩ (.string ⟨#[]⟩)).setCell ⟨P + 1, 3, none⟩ (.int .i64 0)).setCell ⟨P + 1, 4, none⟩ (.int .i64 0)).setCell ⟨P + 1, 5, none⟩ (.int .i64 0)).setCell ⟨P + 1, 6, none⟩ (.slice none 0 0)) :=
            (((((((But.refl (fun k => k = P + 1) (wr.drewN q)).setCell _ 0 _ rfl).setCell _ 1 _ rfl).setCell _ 2 _ rfl).setCell _ 3 _ rfl).setCell _ 4 _ rfl).setCell _ 5 _ rfl).setCell _ 6 _ rfl
          exact ⟨heap_set (o := 6) (.slice none 0 0) (heap_set (o := 5) (.int .i64 0) (heap_set (o := 4) (.int .i64 0) (heap_set (o := 3) (.int .i64 0) (heap_set (o := 2) (.string ⟨#[]⟩) (heap_set (o := 1) (.bool false) (heap_set (o := 0) (.string ⟨#[]⟩) HRS.out)))))), (below_drewN HV.out.bw q).trans (hBt.below (by have := (below_drewN HV.out.bw q).size; omega) (fun k _ e => by omega))⟩
        have HRT : Hid (∀ Wf, Below w.heap.size w Wf → (∃ m v', Ending.returned (.tuple #[.agg #[.string ⟨#[]⟩, .bool false, .string ⟨#[]⟩, .int .i64 0, .int .i64 0, .int .i64 0, .slice none 0 0], .bool false]) = Ending.returned (.tuple #[v', .bool (findN t0 p).isSome]) ∧ TAt (fun _ => True) m ((findN t0 p).getD zeroN) v' Wf) ∧ Below w.heap.size w Wf) := fun Wf hb => by
          rw [HFN.out]
          exact ⟨⟨1, _, rfl, zero_at _ _⟩, hb⟩
        by_cases hp0 : pj < 0
        · clear HIN
          go_wp2_with fail
          go_quiet (fail)
          go_wp2_with fail
          obtain ⟨hh, hbw⟩ := HEND.out nq _ rfl
          exact bodyPost_ret (v := .tuple #[.agg #[.string ⟨#[]⟩, .bool false, .string ⟨#[]⟩, .int .i64 0, .int .i64 0, .int .i64 0, .slice none 0 0], .bool false]) (results_cell_tmp rfl _ _ _ (a := ⟨P + 1, 0, none⟩) rfl rfl (load_node (cs := #[.string ⟨#[]⟩, .bool false, .string ⟨#[]⟩, .int .i64 0, .int .i64 0, .int .i64 0, .slice none 0 0]) rfl hh)) rfl (HRT.out _ hbw)
        · have g2 : (x.kids.length : Int) ≤ pj := by have := HIN.out; omega
          clear HIN
          go_wp2_with fail
          go_quiet (fail)
          go_wp2_with fail
          obtain ⟨hh, hbw⟩ := HEND.out nq _ rfl
          exact bodyPost_ret (v := .tuple #[.agg #[.string ⟨#[]⟩, .bool false, .string ⟨#[]⟩, .int .i64 0, .int .i64 0, .int .i64 0, .slice none 0 0], .bool false]) (results_cell_tmp rfl _ _ _ (a := ⟨P + 1, 0, none⟩) rfl rfl (load_node (cs := #[.string ⟨#[]⟩, .bool false, .string ⟨#[]⟩, .int .i64 0, .int .i64 0, .int .i64 0, .slice none 0 0]) rfl hh)) rfl (HRT.out _ hbw)
    · have k1 : ¬ (j : Int) < p.length := by omega
      obtain ⟨hF, hcx⟩ := HF.out
      rw [List.drop_of_length_le (by omega), findN] at hF
      have HFN : Hid (findN t0 p = some x) := hF
      have hTr : TAt (fun k => k < w.heap.size) m x (ndV x.h (.slice xa x.kids.length xc)) wr := hT.but (D := fun k => w.heap.size ≤ k) (fun k hk h => by omega) (But.of_below hV.bw)
      have HTR : Hid (TAt (fun _ => True) m x (ndV x.h (.slice xa x.kids.length xc)) wr) := hTr.imp (fun _ _ _ => trivial)
      have HRS : Hid (wr.heap[P + 1]? = some (.cells #[.string ⟨#[]⟩, .bool false, .string ⟨#[]⟩, .int .i64 0, .int .i64 0, .int .i64 0, .slice none 0 0] 24 (0, 0))) := rs
      have HTW : Hid (TAt (fun k => k < w.heap.size) m x (ndV x.h (.slice xa x.kids.length xc)) wr) := hTr
      clear hF hcx HF hV hT hKx q1 q2 q3 hbx rs hTr f0
      generalize x.h = xh at *
      generalize x.kids.length = xl at *
      obtain ⟨yk, yn, yf, yr, yt, yb⟩ := xh
      unfold ndV at *
      simp only at *
      go_wp2_with fail
      have hh : (((((((wr.setCell ⟨P + 1, 0, none⟩ (.string yk)).setCell ⟨P + 1, 1, none⟩ (.bool yn)).setCell ⟨P + 1, 2, none⟩ (.string yf)).setCell ⟨P + 1, 3, none⟩ (.int .i64 yr)).setCell ⟨P + 1, 4, none⟩ (.int .i64 yt)).setCell ⟨P + 1, 5, none⟩ (.int .i64 yb)).setCell ⟨P + 1, 6, none⟩ (.slice xa xl xc)).heap[P + 1]? = some (.cells #[.string yk, .bool yn, .string yf, .int .i64 yr, .int .i64 yt, .int .i64 yb, .slice xa xl xc] 24 (0, 0)) := heap_set (o := 6) (.slice xa xl xc) (heap_set (o := 5) (.int .i64 yb) (heap_set (o := 4) (.int .i64 yt) (heap_set (o := 3) (.int .i64 yr) (heap_set (o := 2) (.string yf) (heap_set (o := 1) (.bool yn) (heap_set (o := 0) (.string yk) HRS.out))))))
      have hBt : But (fun k => k = P + 1) wr (((((((wr.setCell ⟨P + 1, 0, none⟩ (.string yk)).setCell ⟨P + 1, 1, none⟩ (.bool yn)).setCell ⟨P + 1, 2, none⟩ (.string yf)).setCell ⟨P + 1, 3, none⟩ (.int .i64 yr)).setCell ⟨P + 1, 4, none⟩ (.int .i64 yt)).setCell ⟨P + 1, 5, none⟩ (.int .i64 yb)).setCell ⟨P + 1, 6, none⟩ (.slice xa xl xc)) :=
        (((((((But.refl (fun k => k = P + 1) wr).setCell _ 0 _ rfl).setCell _ 1 _ rfl).setCell _ 2 _ rfl).setCell _ 3 _ rfl).setCell _ 4 _ rfl).setCell _ 5 _ rfl).setCell _ 6 _ rfl
      have hbs := HV.out.bw.size
      refine bodyPost_ret (v := .tuple #[.agg #[.string yk, .bool yn, .string yf, .int .i64 yr, .int .i64 yt, .int .i64 yb, .slice xa xl xc], .bool true]) (results_cell_tmp rfl _ _ _ (a := ⟨P + 1, 0, none⟩) rfl rfl (load_node rfl hh)) rfl ⟨⟨m, .agg #[.string yk, .bool yn, .string yf, .int .i64 yr, .int .i64 yt, .int .i64 yb, .slice xa xl xc], by rw [HFN.out]; rfl, ?_⟩, HV.out.bw.trans (hBt.below (by omega) (fun k _ e => by omega))⟩
      rw [HFN.out]
      exact (HTW.out.but (D := fun k => k = P + 1) (fun k hk e => by omega) hBt).imp (fun _ _ _ => trivial)
end Go.Proofs.Ytmkkjjhlppagpaa
