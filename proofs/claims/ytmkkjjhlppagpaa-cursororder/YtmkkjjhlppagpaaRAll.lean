/- The document's All. -/
import Derived.Test.YtmkkjjhlppagpaaCAll
import Derived.Test.YtmkkjjhlppagpaaRWith
namespace Go.Proofs.Ytmkkjjhlppagpaa
open Go.RowKit Go.Shelf

theorem row_not_node {W : World} {B n P : Nat} {v : Value} {cs : Array Value} {xs : List Value} (h : W.ownsRow B 25 1 v n xs) (hb : W.heap[P]? = some (.cells cs 24 (0, 0))) : v.ownBlock ≠ some P := fun e => by
  rcases h.2 with ⟨rfl, _⟩ | ⟨g, cap, cur, rfl, hB, hg, _⟩
  · cases e
  · have hgP : g = P := by simpa [Value.ownBlock] using e
    rw [hgP, hb] at hg
    have e2 : (Obj.cells cs 24 (0, 0)) = Obj.cells cur 25 (0, 0) := Option.some.inj hg
    injection e2 with _ e2
    cases e2
/-- What the document's all has when it goes on. -/
structure AllI (w : World) (B P : Nat) (cs : Array Value) (ov : Value) (L0 : List Pl) (l : List (List Int)) (u : Value) (W : World) : Prop where
  row : ∃ L, L.map Prod.fst = l ∧ OwnPP B (L0 ++ L) u W
  gr : w.grownBy W ov.ownBlock
  ob : ∀ k, u.ownBlock = some k → ov.ownBlock = some k ∨ w.heap.size ≤ k
  bx : W.heap[P]? = some (.cells cs 24 (0, 0))
theorem grown_trans {a b c : World} {r s : Option Nat} (h : a.grownBy b r) (k : b.grownBy c s) (hs : ∀ q, s = some q → r = some q ∨ a.heap.size ≤ q) : a.grownBy c r :=
  ⟨k.os.trans h.os, k.tape.trans h.tape, k.output.trans h.output, Nat.le_trans h.size k.size, fun q hq hn => (k.block q (Nat.lt_of_lt_of_le hq h.size) (fun e => by
    rcases hs q e.symm with h' | h'
    · exact hn h'.symm
    · omega)).trans (h.block q hq hn)⟩
theorem grown_below {a b : World} (r : Option Nat) (h : Below a.heap.size a b) : a.grownBy b r := ⟨h.os, h.tape, h.output, h.size, fun k hk _ => h.block k hk⟩

set_option maxRecDepth 100000 in
set_option maxHeartbeats 8000000 in
theorem rall_any {A : Nat → Prop} : ∀ (n : Nat) (t : Nd) (v : Value) (p : List Int) (pv : Value) (B : Nat) (L0 : List Pl) (ov : Value) (w : World), TAt A n t v w → SlP p pv w → OwnPP B L0 ov w → B ≤ w.heap.size →
    (∀ k, A k → k < w.heap.size ∧ ov.ownBlock ≠ some k) → (p ≠ [] → ∀ k, pv.ownBlock = some k → ov.ownBlock ≠ some k) → p.length + cntN t ≤ 5001 → L0.length + cntN t ≤ 5001 →
    Calls Try.prog 39 #[v, pv, ov] w fun e w' => ∃ (L : List Pl) (v' : Value), L.map Prod.fst = allP p t ∧ e = .returned v' ∧ OwnPP B (L0 ++ L) v' w' ∧ w.grownBy w' ov.ownBlock ∧ ∀ k, v'.ownBlock = some k → ov.ownBlock = some k ∨ w.heap.size ≤ k
  | 0, _, _, _, _, _, _, _, _, h, _, _, _, _, _, _, _ => h.elim
  | n + 1, t, v, p, pv, B, L0, ov, w, hT, hp, ho, hB, hA, hpo, hpl, hll => by
    have ih := rall_any (A := A) n
    obtain ⟨ba, bc, rfl, hok, _, _, hlb, hsubs0⟩ := hT
    have hsubs : KidsAt A n t.kids ba w := hsubs0
    clear hsubs0
    have HPM : Hid (allP p t = p :: allL p 0 t.kids) := allP_mk p t
    have hcm := cntN_mk t
    have HCM : Hid (p.length + cntN t ≤ 5001 ∧ L0.length + cntN t ≤ 5001 ∧ cntN t = cntL t.kids + 1) := ⟨hpl, hll, hcm⟩
    generalize allP p t = PT at *
    generalize hsk : t.kids = subs at *
    generalize cntN t = ct at *
    generalize t.h = hd at *
    obtain ⟨zk, zn, zf, zr, zt, zb⟩ := hd
    unfold ndV at *
    simp only at *
    obtain ⟨oa, oc, rfl⟩ := ownsRow_slice ho.own
    have HPS : Hid (SlP p pv w) := hp
    obtain ⟨pa, pc, rfl, hprow, hpn, hpc⟩ := hp
    obtain ⟨kl, hkl⟩ : ∃ kl, subs.length = kl := ⟨_, rfl⟩
    have HKL : Hid (subs.length = kl) := hkl
    rw [hkl] at hlb ⊢
    obtain ⟨W0, hW0⟩ : ∃ W0, W0 = w.alloc (Obj.cells #[.string zk, .bool zn, .string zf, .int .i64 zr, .int .i64 zt, .int .i64 zb, .slice ba kl bc] 24) := ⟨_, rfl⟩
    have hB0 : Below w.heap.size w W0 := by rw [hW0]; exact (Below.refl _ _).alloc (Nat.le_refl _) _
    have hb0 : W0.heap[w.heap.size]? = some (.cells #[.string zk, .bool zn, .string zf, .int .i64 zr, .int .i64 zt, .int .i64 zb, .slice ba kl bc] 24 (0, 0)) := by rw [hW0]; exact World.alloc_heap_new w _
    have hsz0 : w.heap.size < W0.heap.size := by rw [hW0]; simp
    obtain ⟨i0, hi, hz0, hz1', hz2⟩ := info_parts infoI
    obtain ⟨i1, hi1, hy0, hy1, hy2⟩ := info_parts infoRow
    have hoL : L0.length ≤ 5000 := by omega
    have hpL : p.length ≤ 5000 := by omega
    have HOW : Hid (OwnPP B L0 (.slice oa L0.length oc) w) := ho
    have hn1 : (p.map encI).length = p.length * 1 := by simp
    have hc1 : pa = none → p.length = 0 ∧ pc = 0 := fun e => ⟨by have := hpn e; omega, hpn e⟩
    have hnews := news_of (hprow.next hB0)
    have HU : Hid (∀ u ∈ p.map encI, u.oneCell' = true) := fun u hu => by obtain ⟨y2, _, rfl⟩ := List.mem_map.1 hu; rfl
    have HKD : Hid (KidsAt A n subs ba w) := hsubs
    have HA : Hid (∀ k, A k → k < w.heap.size ∧ (Value.slice oa L0.length oc).ownBlock ≠ some k) := hA
    have HPO : Hid (p ≠ [] → ∀ k, (Value.slice pa p.length pc).ownBlock = some k → (Value.slice oa L0.length oc).ownBlock ≠ some k) := hpo
    have HIH : Hid _ := ih
    have hbw : B ≤ W0.heap.size := by omega
    clear ih hsubs ho hA hpo hpl hll hcm hsk hprow hpn hkl
    rw [hW0] at hnews
    go_enter Try.func39, Try.ntmps39
    go_wp2_with (at_builtin; refine wpList_append_any rfl _ _ 25 rfl w.heap.size 3 i0 _ 1 8 Try.underlying25 hi hz0 hz1' hz2 rfl (by decide) (.slice none 0 0) 0 [] rfl (World.ownsRow_nil _ _ _ _) pa p.length pc (p.map encI) rfl hc1 hn1 hnews HU.out (by unfold maxLen; omega) (by omega) (by simp) ?_)
    intro ow W1 how hg1
    rw [← hW0] at hg1
    obtain ⟨wa, wc, rfl⟩ := ownsRow_slice how
    have hB1 : Below W0.heap.size W0 W1 := (Below.refl _ _).grown hg1 (Nat.le_refl _) (fun k e => by cases e)
    have HX0 : Hid (SlP p (.slice wa (p.length) wc) W1 ∧ (∀ k, (Value.slice wa (p.length) wc).ownBlock = some k → w.heap.size ≤ k)) := ⟨by
      have := SlP.of_own (l := p) (B := w.heap.size) (v := .slice wa (p.length) wc) (W := W1) (by simpa [OwnI] using how)
      exact this, fun k hk => (World.ownsRow.lt how k hk).1⟩
    have hB2 : Below W1.heap.size W1 (W1.alloc (Obj.cells #[.slice wa p.length wc] 25)) := (Below.refl _ _).alloc (Nat.le_refl _) _
    have hB3 : Below w.heap.size w (W1.alloc (Obj.cells #[.slice wa p.length wc] 25)) := hB0.trans ((below_next hB1 hB2).mono hB0.size)
    have hownn := ownsRow_next HOW.out.own hB3
    have hbox := ((below_next hB1 hB2).block w.heap.size hsz0).trans hb0
    have hnw2 : ∀ (k : Nat) (u : Value), [Value.slice wa p.length wc][k]? = some u → (W1.alloc (Obj.cells #[.slice wa p.length wc] 25)).cell? ((⟨W1.heap.size, 0, none⟩ : Addr).add k) = some u := fun k u hu => by
      match k, hu with
      | 0, hu => simp at hu; subst hu; rw [add_plain]; simp
    have hone : ∀ u ∈ [Value.slice wa p.length wc], u.oneCell' = true := fun u hu => by
      rw [List.mem_singleton] at hu
      subst hu
      rfl
    have HS1 : Hid (w.heap.size < W1.heap.size ∧ W1.heap.size < (W1.alloc (Obj.cells #[.slice wa p.length wc] 25)).heap.size) := ⟨Nat.lt_of_lt_of_le hsz0 hB1.size, by simp⟩
    have hbs3 : B ≤ (W1.alloc (Obj.cells #[.slice wa p.length wc] 25)).heap.size := by have := HS1.out; omega
    clear how hg1 hW0 hnews hB0 hB1
    go_wp2_with (at_builtin; refine wpList_append_ownq rfl _ _ 33 rfl B 25 i1 _ 1 24 Try.underlying33 hi1 hy0 hy1 hy2 rfl (by decide) _ _ _ rfl hownn ⟨W1.heap.size, 0, none⟩ 1 [.slice wa p.length wc] rfl rfl hnw2 hone (by unfold maxLen; omega) (by omega) hbs3 ?_)
    intro ov1 W4 ho4 hg4 hk4
    have HOL : Hid (∀ k, (Value.slice oa L0.length oc).ownBlock = some k → k < w.heap.size) := fun k hk => (World.ownsRow.lt HOW.out.own k hk).2
    have HI0 : Hid (AllI w B w.heap.size #[.string zk, .bool zn, .string zf, .int .i64 zr, .int .i64 zt, .int .i64 zb, .slice ba kl bc] (.slice oa L0.length oc) L0 (p :: allL p 0 (subs.take 0)) ov1 W4) := by
      have hs := HS1.out
      have hap : ∀ k, (Value.slice wa p.length wc).ownBlock = some k → (Value.slice oa L0.length oc).ownBlock ≠ some k := fun k hk e => by
        have := HOL.out k e
        have := HX0.out.2 k hk
        omega
      refine ⟨⟨[(p, .slice wa p.length wc)], by simp [allL], OwnPP.snoc (HOW.out.next hB3) (by simpa using ho4) hg4 (by simpa using hk4) (HX0.out.1.next hB2) (fun _ k hk => hap k hk)⟩, grown_trans (grown_below _ hB3) hg4 (fun q hq => .inl hq), fun k hk => ?_, ?_⟩
      · rcases hk4 k hk with e | e
        · exact .inl e
        · exact .inr (by omega)
      · exact (hg4.block _ (by omega) (fun e => by have := HOL.out _ e.symm; omega)).trans hbox
    obtain ⟨na, nc, rfl⟩ := ownsRow_slice ho4
    obtain ⟨P, HP⟩ : ∃ P, Hid (P = w.heap.size) := ⟨_, rfl⟩
    rw [← HP.out] at HI0 ⊢
    clear ho4 hg4 hk4 hnw2 hone hownn hbox hB2 hB3 hbs3 hsz0 hb0
    go_wp2_with fail
    go_loopw [2, 8] (fun u c wr => ∃ (j : Nat) (ua : Option Addr) (ul uc : Nat), c = .int .i64 j ∧ j ≤ kl ∧ u = .slice ua ul uc ∧ Hid (AllI w B P #[.string zk, .bool zn, .string zf, .int .i64 zr, .int .i64 zt, .int .i64 zb, .slice ba kl bc] (.slice oa L0.length oc) L0 (p :: allL p 0 (subs.take j)) u wr)) (fun _ c _ => kl - (intOf c).toNat)
    case atStart => exact ⟨0, na, _, nc, rfl, Nat.zero_le _, rfl, HI0.out⟩
    case round =>
      obtain ⟨j, ua, ul, uc, rfl, hj, rfl, HI⟩ := hrel
      have hI := HI.out
      have hbx := hI.bx
      have p6 := (cells7_at hbx).2.2.2.2.2.2
      have hws := hI.gr.size
      by_cases hlt : j < kl
      · have k1 : (j : Int) < kl := by omega
        have hlt' : j < subs.length := by have := HKL.out; omega
        have hB : But (fun k => (Value.slice oa L0.length oc).ownBlock = some k) w wr := but_grown hI.gr
        have hK := HKD.out.but (D := fun k => (Value.slice oa L0.length oc).ownBlock = some k) (fun k hk => (HA.out k hk).2) hB
        obtain ⟨b, off, ka, kc, rfl, hAb, hb, ⟨e0, e1, e2, e3, e4, e5, e6⟩, hTk⟩ := hK j subs[j] (by simp [hlt'])
        have hwt := with_any p (.slice pa p.length pc) (j : Int) wr (HPS.out.but2 hB (fun hn k hk e => HPO.out hn k hk e)) (by omega)
        obtain ⟨L, hL, hrow⟩ := hI.row
        have hcj := cntL_at hlt'
        have hct := cntL_take hlt'
        have hcl := cntL_le subs (j + 1)
        have hll : L.length = cntL (subs.take j) + 1 := by
          have := congrArg List.length hL
          rw [List.length_map, List.length_cons, allL_len_of _ _ _ (fun k _ q => allP_len k q)] at this
          exact this
        have HLL : Hid (p.length + 1 + cntN subs[j] ≤ 5001 ∧ L0.length + L.length + cntN subs[j] ≤ 5001) := by
          obtain ⟨c1, c2, c3⟩ := HCM.out
          exact ⟨by omega, by omega⟩
        have HPT : Hid (allL p 0 (subs.take (j + 1)) = allL p 0 (subs.take j) ++ allP (p ++ [(j : Int)]) subs[j]) := allL_take hlt' _
        have HTK : Hid (TAt A n subs[j] (ndV subs[j].h (.slice ka subs[j].kids.length kc)) wr) := hTk
        generalize subs[j] = y at *
        have HRC : Hid (∀ v w5, Below wr.heap.size wr w5 → OwnI wr.heap.size (p ++ [(j : Int)]) v w5 → Calls Try.prog 39 #[ndV y.h (.slice ka y.kids.length kc), v, .slice ua ul uc] w5 fun e w' => ∃ (L2 : List Pl) (v' : Value), L2.map Prod.fst = allP (p ++ [(j : Int)]) y ∧ e = .returned v' ∧ OwnPP B ((L0 ++ L) ++ L2) v' w' ∧ w5.grownBy w' (Value.slice ua ul uc).ownBlock ∧ ∀ k, v'.ownBlock = some k → (Value.slice ua ul uc).ownBlock = some k ∨ w5.heap.size ≤ k) := fun v w5 h5 hv => by
          have hs5 := h5.size
          have hll := HLL.out
          refine HIH.out y _ (p ++ [(j : Int)]) v B (L0 ++ L) (.slice ua ul uc) w5 (HTK.out.next h5) (SlP.of_own hv) (hrow.next h5) (by omega) (fun k hk => ⟨by have := (HA.out k hk).1; omega, fun e => ?_⟩) (fun _ k hk e => ?_) (by simp only [List.length_append, List.length_cons, List.length_nil]; omega) (by simp only [List.length_append]; omega)
          · rcases hI.ob k e with e' | e'
            · exact (HA.out k hk).2 e'
            · have := (HA.out k hk).1; omega
          · have h1 := (World.ownsRow.lt hv k hk).1
            have h2 := (World.ownsRow.lt hrow.own k e).2
            omega
        obtain ⟨yh, hyh⟩ : ∃ yh, y.h = yh := ⟨_, rfl⟩
        obtain ⟨sk, hsk⟩ : ∃ sk, y.kids.length = sk := ⟨_, rfl⟩
        rw [hyh, hsk] at HRC
        rw [hyh] at e0 e1 e2 e3 e4 e5
        rw [hsk] at e6
        obtain ⟨xk, xn, xf, xr, xt, xb⟩ := yh
        unfold ndV at HRC
        simp only at *
        have HS : Hid (∀ W, Below wr.drew.heap.size wr.drew W → (W.cell? ⟨P, 6, none⟩ = some (.slice (some ⟨b, off, none⟩) kl bc)) ∧ W.cell? ⟨b, off + j * 7, none⟩ = some (.string xk) ∧ W.cell? ⟨b, off + j * 7 + 1, none⟩ = some (.bool xn) ∧ W.cell? ⟨b, off + j * 7 + 2, none⟩ = some (.string xf) ∧ W.cell? ⟨b, off + j * 7 + 3, none⟩ = some (.int .i64 xr) ∧ W.cell? ⟨b, off + j * 7 + 4, none⟩ = some (.int .i64 xt) ∧ W.cell? ⟨b, off + j * 7 + 5, none⟩ = some (.int .i64 xb) ∧ W.cell? ⟨b, off + j * 7 + 6, none⟩ = some (.slice ka sk kc)) := fun V hV => by
          have hl : P < wr.heap.size := (Array.getElem?_eq_some_iff.1 hbx).1
          exact ⟨(hV.cell (p := ⟨P, 6, none⟩) hl).trans p6, (hV.cell (p := ⟨b, off + j * 7, none⟩) hb).trans e0, (hV.cell (p := ⟨b, off + j * 7 + 1, none⟩) hb).trans e1, (hV.cell (p := ⟨b, off + j * 7 + 2, none⟩) hb).trans e2, (hV.cell (p := ⟨b, off + j * 7 + 3, none⟩) hb).trans e3, (hV.cell (p := ⟨b, off + j * 7 + 4, none⟩) hb).trans e4, (hV.cell (p := ⟨b, off + j * 7 + 5, none⟩) hb).trans e5, (hV.cell (p := ⟨b, off + j * 7 + 6, none⟩) hb).trans e6⟩
        have HROW : Hid (OwnPP B (L0 ++ L) (.slice ua ul uc) wr ∧ L.map Prod.fst = p :: allL p 0 (subs.take j)) := ⟨hrow, hL⟩
        replace hwt := with_any p (.slice pa p.length pc) (j : Int) wr.drew (HPS.out.but2 hB.drew (fun hn k hk e => HPO.out hn k hk e)) (by omega)
        clear hK hTk hrow hL hcj hct hcl hll hI hyh hsk e0 e1 e2 e3 e4 e5 e6 hB hbx
        go_wp2_with fail
        refine (wpIn_wide (n := 9)).1 ?_
        refine wpIn_region_M (fun W => (W.cell? ⟨P, 6, none⟩ = some (.slice (some ⟨b, off, none⟩) kl bc)) ∧ W.cell? ⟨b, off + j * 7, none⟩ = some (.string xk) ∧ W.cell? ⟨b, off + j * 7 + 1, none⟩ = some (.bool xn) ∧ W.cell? ⟨b, off + j * 7 + 2, none⟩ = some (.string xf) ∧ W.cell? ⟨b, off + j * 7 + 3, none⟩ = some (.int .i64 xr) ∧ W.cell? ⟨b, off + j * 7 + 4, none⟩ = some (.int .i64 xt) ∧ W.cell? ⟨b, off + j * 7 + 5, none⟩ = some (.int .i64 xb) ∧ W.cell? ⟨b, off + j * 7 + 6, none⟩ = some (.slice ka sk kc)) 9 (by kernel_rfl) 11 rfl ?_
        refine wpAnyM_take' rfl (fun _ => trivial) (i := 0) (v := ?_) (oi := { dst := some 22, op := Op.fieldAddr 24 (Operand.tmp 3) 6, type := 0, pos := "ref.go:76", after := #[], guard := none }) rfl (by kernel_rfl) (by kernel_rfl) (by kernel_rfl) (by kernel_rfl) rfl (by kernel_rfl) (fun _ _ _ h => h) (Or.inl ⟨by rfl, ?_⟩) (HS.out _ (Below.refl _ _)) ?_
        rotate_left
        · intro W hSW
          go_simp
          try with_reducible rfl
        simp only [Act.put, List.setIfInBounds_toArray, List.set_cons_zero, List.set_cons_succ]
        refine wpAnyM_take' rfl (fun _ => trivial) (i := 1) (v := ?_) (oi := { dst := some 23, op := Op.load 22 (Operand.tmp 22), type := 22, pos := "ref.go:76", after := #[{ on := 0, ground := Ground.data }], guard := none }) rfl (by kernel_rfl) (by kernel_rfl) (by kernel_rfl) (by kernel_rfl) rfl (by kernel_rfl) (fun _ _ _ h => h) (Or.inl ⟨by rfl, ?_⟩) (HS.out _ (Below.refl _ _)) ?_
        rotate_left
        · intro W hSW
          go_simp
          try with_reducible rfl
        simp only [Act.put, List.setIfInBounds_toArray, List.set_cons_zero, List.set_cons_succ]
        refine wpAnyM_take' rfl (fun _ => trivial) (i := 2) (v := ?_) (oi := { dst := some 24, op := Op.move (Operand.tmp 8), type := 3, pos := "ref.go:76", after := #[], guard := none }) rfl (by kernel_rfl) (by kernel_rfl) (by kernel_rfl) (by kernel_rfl) rfl (by kernel_rfl) (fun _ _ _ h => h) (Or.inl ⟨by rfl, ?_⟩) (HS.out _ (Below.refl _ _)) ?_
        rotate_left
        · intro W hSW
          go_simp
          try with_reducible rfl
        simp only [Act.put, List.setIfInBounds_toArray, List.set_cons_zero, List.set_cons_succ]
        refine wpAnyM_take' rfl (fun _ => trivial) (i := 3) (v := ?_) (oi := { dst := some 25, op := Op.indexAddr 22 (Operand.tmp 23) (Operand.tmp 24), type := 0, pos := "ref.go:76", after := #[{ on := 1, ground := Ground.data }, { on := 2, ground := Ground.data }], guard := none }) rfl (by kernel_rfl) (by kernel_rfl) (by kernel_rfl) (by kernel_rfl) rfl (by kernel_rfl) (fun _ _ _ h => h) (Or.inl ⟨by rfl, ?_⟩) (HS.out _ (Below.refl _ _)) ?_
        rotate_left
        · intro W hSW
          go_simp
          try with_reducible rfl
        simp only [Act.put, List.setIfInBounds_toArray, List.set_cons_zero, List.set_cons_succ]
        refine wpAnyM_take' rfl (fun _ => trivial) (i := 4) (v := ?_) (oi := { dst := some 26, op := Op.load 24 (Operand.tmp 25), type := 24, pos := "ref.go:76", after := #[{ on := 3, ground := Ground.data }], guard := none }) rfl (by kernel_rfl) (by kernel_rfl) (by kernel_rfl) (by kernel_rfl) rfl (by kernel_rfl) (fun _ _ _ h => h) (Or.inl ⟨by rfl, ?_⟩) (HS.out _ (Below.refl _ _)) ?_
        rotate_left
        · intro W hSW
          go_simp
          try with_reducible rfl
        simp only [Act.put, List.setIfInBounds_toArray, List.set_cons_zero, List.set_cons_succ]
        refine wpAnyM_take' rfl (fun _ => trivial) (i := 5) (v := ?_) (oi := { dst := some 27, op := Op.move (Operand.tmp 1), type := 25, pos := "ref.go:76", after := #[], guard := none }) rfl (by kernel_rfl) (by kernel_rfl) (by kernel_rfl) (by kernel_rfl) rfl (by kernel_rfl) (fun _ _ _ h => h) (Or.inl ⟨by rfl, ?_⟩) (HS.out _ (Below.refl _ _)) ?_
        rotate_left
        · intro W hSW
          go_simp
          try with_reducible rfl
        simp only [Act.put, List.setIfInBounds_toArray, List.set_cons_zero, List.set_cons_succ]
        refine wpAnyM_take' rfl (fun _ => trivial) (i := 6) (v := ?_) (oi := { dst := some 28, op := Op.move (Operand.tmp 8), type := 3, pos := "ref.go:76", after := #[], guard := none }) rfl (by kernel_rfl) (by kernel_rfl) (by kernel_rfl) (by kernel_rfl) rfl (by kernel_rfl) (fun _ _ _ h => h) (Or.inl ⟨by rfl, ?_⟩) (HS.out _ (Below.refl _ _)) ?_
        rotate_left
        · intro W hSW
          go_simp
          try with_reducible rfl
        simp only [Act.put, List.setIfInBounds_toArray, List.set_cons_zero, List.set_cons_succ]
        refine wpAnyM_take' rfl (fun _ => trivial) (i := 8) (v := ?_) (oi := { dst := some 30, op := Op.move (Operand.tmp 2), type := 33, pos := "ref.go:76", after := #[], guard := none }) rfl (by kernel_rfl) (by kernel_rfl) (by kernel_rfl) (by kernel_rfl) rfl (by kernel_rfl) (fun _ _ _ h => h) (Or.inl ⟨by rfl, ?_⟩) (HS.out _ (Below.refl _ _)) ?_
        rotate_left
        · intro W hSW
          go_simp
          try with_reducible rfl
        simp only [Act.put, List.setIfInBounds_toArray, List.set_cons_zero, List.set_cons_succ]
        refine wpAnyM_one' (i := 7) (o := { dst := some 29, op := Op.call { callee := Callee.value (Operand.func 32), args := #[Operand.tmp 27, Operand.tmp 28], argTypes := #[25, 3] }, type := 25, pos := "ref.go:76", after := #[{ on := 5, ground := Ground.data }, { on := 6, ground := Ground.data }], guard := none }) (by kernel_rfl) rfl rfl (fun K hK => ?_)
        go_simp
        refine ⟨trivial, (callsIn_wide.2 hwt).mono ?_⟩
        rintro e w5 ⟨⟨v, rfl, hv⟩, hb5⟩
        refine hK.out _ _ (fun _ => HS.out _ hb5) ?_
        clear hK
        have HB5 : Hid (Below wr.heap.size wr w5) := ⟨hb5.os, hb5.tape, hb5.output, hb5.size, hb5.block⟩
        have HV : Hid (OwnI wr.heap.size (p ++ [(j : Int)]) v w5) := hv
        have hs5 := HS.out _ hb5
        clear hwt hv hb5
        refine wpAnyM_one' (i := 9) (o := { dst := some 31, op := Op.call { callee := Callee.value (Operand.func 39), args := #[Operand.tmp 26, Operand.tmp 29, Operand.tmp 30], argTypes := #[24, 25, 33] }, type := 33, pos := "ref.go:76", after := #[{ on := 4, ground := Ground.data }, { on := 7, ground := Ground.data }, { on := 8, ground := Ground.data }, { on := 7, ground := Ground.chain }], guard := none }) (by kernel_rfl) rfl rfl (fun K hK => ?_)
        go_simp
        refine ⟨trivial, (callsIn_wide.2 (HRC.out v w5 HB5.out HV.out)).mono ?_⟩
        clear hs5
        rintro e w6 ⟨L2, v2, hL2, rfl, ho2, hg2, hk2⟩
        refine hK.out _ _ (fun h => absurd h (by decide)) ?_
        clear hK
        refine wpAnyM_one' (i := 10) (o := { dst := some 2, op := Op.assign (Operand.tmp 31), type := 33, pos := "ref.go:76", after := #[{ on := 9, ground := Ground.data }, { on := 9, ground := Ground.chain }, { on := 0, ground := Ground.phase }, { on := 1, ground := Ground.phase }, { on := 2, ground := Ground.phase }, { on := 3, ground := Ground.phase }, { on := 4, ground := Ground.phase }, { on := 5, ground := Ground.phase }, { on := 6, ground := Ground.phase }, { on := 7, ground := Ground.phase }, { on := 8, ground := Ground.phase }, { on := 9, ground := Ground.phase }], guard := none }) (by kernel_rfl) rfl rfl (fun K hK => ?_)
        go_simp
        refine hK.out _ _ (fun h => absurd h (by decide)) ?_
        clear hK
        refine wpAnyM_done (by kernel_rfl) ?_ _
        go_wp2_with fail
        have hI := HI.out
        have hs5 := HB5.out.size
        have hown5 := HROW.out.1.next HB5.out
        have hbx5 := (HB5.out.block P (Array.getElem?_eq_some_iff.1 hI.bx).1).trans hI.bx
        obtain ⟨va, vc, rfl⟩ := ownsRow_slice ho2.own
        refine ⟨⟨j + 1, va, _, vc, by go_num, by omega, rfl, ⟨⟨L ++ L2, by rw [List.map_append, HROW.out.2, hL2, HPT.out]; simp, by rw [← List.append_assoc]; exact ho2⟩, grown_trans (grown_trans hI.gr (grown_below none HB5.out) (fun q hq => by cases hq)) hg2 hI.ob, fun k hk => ?_, ?_⟩⟩, by simp [intOf]; omega⟩
        · rcases hk2 k hk with e | e
          · exact hI.ob k e
          · exact .inr (by omega)
        · exact (hg2.block P (by have := (Array.getElem?_eq_some_iff.1 hbx5).1; omega) (fun e => row_not_node hown5.own hbx5 e.symm)).trans hbx5
      · have k1 : ¬ (j : Int) < kl := by omega
        obtain ⟨L, hL, hrow⟩ := hI.row
        have HE : Hid (∃ (L : List Pl), L.map Prod.fst = PT ∧ OwnPP B (L0 ++ L) (.slice ua ul uc) wr ∧ w.grownBy wr (Value.slice oa L0.length oc).ownBlock ∧ ∀ k, (Value.slice ua ul uc).ownBlock = some k → (Value.slice oa L0.length oc).ownBlock = some k ∨ w.heap.size ≤ k) := ⟨L, by
          rw [hL, HPM.out, List.take_of_length_le (by have := HKL.out; omega)], hrow, hI.gr, hI.ob⟩
        clear hrow hL hI
        go_wp2_with fail
        go_ret
        obtain ⟨L, h1, h2, h3, h4⟩ := HE.out
        exact ⟨L, h1, _, rfl, h2, h3, h4⟩
set_option maxRecDepth 100000 in
set_option maxHeartbeats 2000000 in
theorem rAll_any {A : Nat → Prop} (n : Nat) (t : Nd) (v : Value) (w : World) (h : TAt A n t v w) (hc : cntN t ≤ 5000) :
    Calls Try.prog 24 #[v] w fun e w' => ∃ (L : List Pl) (rv : Value), L.map Prod.fst = allP [] t ∧ e = .returned rv ∧ OwnPP w.heap.size L rv w' ∧ Below w.heap.size w w' := by
  have h1 := h.imp (B := fun k => k < w.heap.size) (fun k hk _ => hk)
  clear h
  obtain ⟨ba, bc, rfl, _⟩ := h1.val
  have hB0 : Below w.heap.size w (w.alloc (Obj.cells #[.string t.h.kind, .bool t.h.named, .string t.h.field, .int .i64 t.h.frm, .int .i64 t.h.to, .int .i64 t.h.bad, .slice ba t.kids.length bc] 24)) := (Below.refl _ _).alloc (Nat.le_refl _) _
  have hl := rall_any n t _ [] _ w.heap.size [] _ _ (h1.next hB0) (SlP.nil _) (OwnPP.nil _ _) hB0.size (fun k hk => ⟨Nat.lt_of_lt_of_le hk hB0.size, fun e => by cases e⟩) (fun h => absurd rfl h) (by simp only [List.length_nil]; omega) (by simp only [List.length_nil]; omega)
  have HB : Hid (Below w.heap.size w (w.alloc (Obj.cells #[.string t.h.kind, .bool t.h.named, .string t.h.field, .int .i64 t.h.frm, .int .i64 t.h.to, .int .i64 t.h.bad, .slice ba t.kids.length bc] 24))) := hB0
  clear h1 hB0 hc
  generalize allP [] t = PT at *
  generalize t.h = hd at *
  generalize t.kids.length = tl at *
  obtain ⟨zk, zn, zf, zr, zt, zb⟩ := hd
  unfold ndV at *
  simp only at *
  go_enter Try.func24, Try.ntmps24
  go_wp2_with fail
  refine hl.mono ?_
  rintro e w1 ⟨L, v', hL, rfl, ho, hg, hk⟩
  have HE : Hid (∃ (L : List Pl), L.map Prod.fst = PT ∧ OwnPP w.heap.size L v' w1 ∧ Below w.heap.size w w1) := ⟨L, hL, by simpa using ho, HB.out.grown hg HB.out.size (fun k e => by cases e)⟩
  clear hl hL ho hg hk HB
  go_wp2_with fail
  go_ret
  obtain ⟨L, h1, h2, h3⟩ := HE.out
  exact ⟨L, _, h1, rfl, h2, h3⟩
end Go.Proofs.Ytmkkjjhlppagpaa
