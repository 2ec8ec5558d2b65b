/- The paths of all nodes, each ahead of its kids', as the iterator hands them out. -/
import Derived.Test.YtmkkjjhlppagpaaCMath
import Derived.Test.YtmkkjjhlppagpaaHeldIn
namespace Go.Proofs.Ytmkkjjhlppagpaa
open Go.RowKit Go.Shelf
attribute [local go_sem] Oper.semAt_some

mutual
def allP : List Int → Nd → List (List Int)
  | p, .mk _ l => p :: allL p 0 l
def allL : List Int → Nat → List Nd → List (List Int)
  | _, _, [] => []
  | p, i, t :: l => allP (p ++ [(i : Int)]) t ++ allL p (i + 1) l
 end
theorem allP_mk (p : List Int) (t : Nd) : allP p t = p :: allL p 0 t.kids := by cases t; simp [allP, Nd.kids]
theorem allL_app (p : List Int) (a b : List Nd) : ∀ i, allL p i (a ++ b) = allL p i a ++ allL p (i + a.length) b := by
  induction a with
  | nil => intro i; simp [allL]
  | cons t l ih => intro i; simp only [List.cons_append, allL, ih, List.append_assoc, List.length_cons]; rw [show i + 1 + l.length = i + (l.length + 1) by omega]
theorem allL_take {l : List Nd} {j : Nat} (h : j < l.length) (p : List Int) : allL p 0 (l.take (j + 1)) = allL p 0 (l.take j) ++ allP (p ++ [(j : Int)]) l[j] := by
  rw [List.take_succ_eq_append_getElem h, allL_app]
  simp only [allL, List.append_nil, List.length_take, Nat.zero_add]
  rw [Nat.min_eq_left (by omega)]
theorem allL_len_of (l : List Nd) (p : List Int) : ∀ i, (∀ k ∈ l, ∀ q, (allP q k).length = cntN k) → (allL p i l).length = cntL l := by
  induction l with
  | nil => intro i _; simp [allL, cntL]
  | cons t l ih => intro i h; simp only [allL, cntL, List.length_append]; rw [h t (by simp), ih _ (fun k hk => h k (by simp [hk]))]
theorem allP_len (t : Nd) : ∀ p, (allP p t).length = cntN t := by
  induction t using nd_ind with
  | h t ih => intro p; rw [allP_mk, cntN_mk, List.length_cons, allL_len_of _ _ _ (fun k hk => ih k hk)]
theorem allL_pre (l : List Nd) (j : Nat) (p : List Int) : allL p 0 (l.take j) <+: allL p 0 l := by
  conv => rhs; rw [← List.take_append_drop j l, allL_app]
  exact List.prefix_append _ _
/-- What the iterator hands out: a path, as it lies. -/
abbrev Pl := List Int × Value
def encP (x : Pl) : Array Value := #[x.2]
def OkP (L : List (List Int)) (A : Nat → Prop) (pre : List Pl) (x : Pl) (W : World) : Prop := SlP x.1 x.2 W ∧ (∀ k, x.2.ownBlock = some k → A k) ∧ x.1.length ≤ 5000 ∧ (pre.map Prod.fst ++ [x.1]) <+: L

set_option maxRecDepth 100000 in
set_option maxHeartbeats 8000000 in
theorem walkP_in (m l : Nat) (L : List (List Int)) (Fx : World → Prop) (J : (Nat → Prop) → List Pl → World → Prop) (St : World → Prop) (hF : FeedsW m Try.prog l encP (OkP L) Fx J St) :
    ∀ (n : Nat) (t : Nd) (v : Value) (A : Nat → Prop) (pre : List Pl) (p : List Int) (pv : Value) (W : World) (yb wb q : Nat), J A pre W → TAt A n t v W → SlP p pv W → (∀ k, pv.ownBlock = some k → A k) → p.length + cntN t ≤ 5001 →
      W.cell? ⟨yb, 0, none⟩ = some (.func (.yield l) #[] #[]) → A yb → W.cell? ⟨wb, 0, none⟩ = some (.func (.func 44) #[] #[.pointer (some ⟨yb, 0, none⟩), .pointer (some ⟨wb, 0, none⟩)]) → A wb →
      (pre.map Prod.fst ++ allP p t) <+: L →
      CallsIn Fence.wide q Try.prog 44 #[v, pv, .pointer (some ⟨yb, 0, none⟩), .pointer (some ⟨wb, 0, none⟩)] W fun e W' =>
        (e = .returned (.bool true) ∧ (∃ xs : List Pl, xs.map Prod.fst = allP p t ∧ J A (pre ++ xs) W') ∧ But (fun k => ¬ A k) W W') ∨ (e = .returned (.bool false) ∧ St W')
  | 0, _, _, _, _, _, _, _, _, _, _, _, h, _, _, _, _, _, _, _, _ => h.elim
  | n + 1, t, v, A, pre, p, pv, W, yb, wb, q, hJ, hT, hp, hpA, hlen, hy, hAy, hw, hAw, hL => by
    have ih := walkP_in m l L Fx J St hF n
    obtain ⟨ba, bc, rfl, hok, _, _, hlb, hsubs0⟩ := hT
    have hsubs : KidsAt A n t.kids ba W := hsubs0
    clear hsubs0
    have hyb := World.block_lt_of_cell? _ _ hy
    have hwb := World.block_lt_of_cell? _ _ hw
    simp only at hyb hwb
    have HPM : Hid (allP p t = p :: allL p 0 t.kids) := allP_mk p t
    have HLP : Hid ((pre.map Prod.fst ++ p :: allL p 0 t.kids) <+: L) := by rw [allP_mk] at hL; exact hL
    clear hL
    have hcm := cntN_mk t
    obtain ⟨x, hx⟩ : ∃ x : Pl, x = (p, pv) := ⟨_, rfl⟩
    have HXS : Hid (x.1 = p) := by subst hx; rfl
    have HPV : Hid (∀ W', But (fun k => ¬ A k) W W' → SlP p pv W') := fun W' hb => hp.but hb (fun k hk h => h (hpA k hk))
    have HPA : Hid (∀ k, pv.ownBlock = some k → A k) := hpA
    have HXO : Hid (∀ W' A', But (fun k => ¬ A k) W W' → (∀ k, A k → A' k) → OkP L A' pre x W') := fun W' A' hb hi => by
      subst hx
      exact ⟨HPV.out W' hb, fun k hk => hi k (hpA k hk), by simp only; have := cntN_pos t; omega, List.IsPrefix.trans ⟨allL p 0 t.kids, by simp⟩ HLP.out⟩
    have hxe : encP x = #[pv] := by subst hx; rfl
    have hxp : x = (p, pv) := hx
    clear hx
    generalize allP p t = PT at *
    generalize cntN t = ct at *
    generalize hsk : t.kids = subs at *
    generalize t.h = hd at *
    obtain ⟨zk, zn, zf, zr, zt, zb⟩ := hd
    unfold ndV at *
    simp only at *
    obtain ⟨pa, pc, rfl, hprow⟩ := hp
    have hB0 : Below W.heap.size W (W.alloc (Obj.cells #[.string zk, .bool zn, .string zf, .int .i64 zr, .int .i64 zt, .int .i64 zb, .slice ba subs.length bc] 24)) := (Below.refl _ _).alloc (Nat.le_refl _) _
    have r7 : Row7 W.heap.size 0 ⟨zk, zn, zf, zr, zt, zb⟩ (.slice ba subs.length bc) (W.alloc (Obj.cells #[.string zk, .bool zn, .string zf, .int .i64 zr, .int .i64 zt, .int .i64 zb, .slice ba subs.length bc] 24)) := by
      refine ⟨?_, ?_, ?_, ?_, ?_, ?_, ?_⟩ <;> simp
    have hz : (W.alloc (Obj.cells #[.string zk, .bool zn, .string zf, .int .i64 zr, .int .i64 zt, .int .i64 zb, .slice ba subs.length bc] 24)).heap.size = W.heap.size + 1 := by simp
    refine callsIn_of_wp Try.func44 rfl trivial ?_ rfl
    simp only [Try.ntmps44, List.size_toArray, List.length_cons, List.length_nil, Nat.reduceAdd, Nat.reduceSub, Array.replicate_succ, Array.replicate_zero, List.push_toArray, List.append_toArray, List.nil_append, List.cons_append]
    have y1 := (hB0.cell (p := ⟨yb, 0, none⟩) hyb).trans hy
    have w1 := (hB0.cell (p := ⟨wb, 0, none⟩) hwb).trans hw
    have HJ1 := hF.new _ _ _ _ hJ hB0
    obtain ⟨A1, hA1⟩ : ∃ A1 : Nat → Prop, A1 = (fun k => A k ∨ (W.heap.size ≤ k ∧ k < (W.alloc (Obj.cells #[.string zk, .bool zn, .string zf, .int .i64 zr, .int .i64 zt, .int .i64 zb, .slice ba subs.length bc] 24)).heap.size)) := ⟨_, rfl⟩
    rw [← hA1] at HJ1
    have hA1P : A1 W.heap.size := by rw [hA1]; exact .inr ⟨Nat.le_refl _, by rw [hz]; omega⟩
    have hA1i : ∀ k, A k → A1 k := fun k hk => by rw [hA1]; exact .inl hk
    have HBW : Hid (∀ W', But (fun k => ¬ A1 k) (W.alloc (Obj.cells #[.string zk, .bool zn, .string zf, .int .i64 zr, .int .i64 zt, .int .i64 zb, .slice ba subs.length bc] 24)) W' → But (fun k => ¬ A k) W W') := fun W' hb => (But.of_next hB0).trans (hb.mono (fun k _ h h' => h (hA1i k h')))
    have HKA : Hid (∀ W', But (fun k => ¬ A1 k) (W.alloc (Obj.cells #[.string zk, .bool zn, .string zf, .int .i64 zr, .int .i64 zt, .int .i64 zb, .slice ba subs.length bc] 24)) W' → KidsAt A1 n subs ba W') := fun W' hb i t' ht => by
      have hk := hsubs.but (D := fun k => ¬ A k) (fun k hk h => h hk) (HBW.out W' hb)
      obtain ⟨b, off, ka, kc, e0, e1, e2, e3, e4⟩ := hk i t' ht
      exact ⟨b, off, ka, kc, e0, hA1i _ e1, e2, e3, e4.imp (fun k _ h => hA1i k h)⟩
    have hXO := HXO.out _ A1 (But.of_next hB0) hA1i
    obtain ⟨z0, z1, z2, z3, z4, z5, z6⟩ := r7
    simp only [Nat.zero_add] at z1 z2 z3 z4 z5 z6
    obtain ⟨fn, tmps, assign, body, hyl, hR⟩ := yield_any (m' := q - 1) (hF.yield A1 pre x _ HJ1 hXO)
    rw [hxe] at hyl
    have HAx : Hid (A1 yb ∧ A1 wb ∧ A1 W.heap.size) := ⟨hA1i _ hAy, hA1i _ hAw, hA1P⟩
    have HA1i : Hid (∀ k, A k → A1 k) := hA1i
    have HFF : Hid (FeedsW m Try.prog l encP (OkP L) Fx J St) := hF
    have HIH : Hid _ := ih
    clear hA1i hF z0 z1 z2 z3 z4 z5 hJ HJ1 hsubs hXO hA1 hxe hsk ih hprow hpA
    gi_wp2
    refine ⟨fun h => (by cases h), hR.mono ?_⟩
    generalize W.alloc (Obj.cells #[.string zk, .bool zn, .string zf, .int .i64 zr, .int .i64 zt, .int .i64 zb, .slice ba subs.length bc] 24) = W0 at *
    have hyB : yb < W0.heap.size := by omega
    have hwB : wb < W0.heap.size := by omega
    have hPB : W.heap.size < W0.heap.size := by omega
    obtain ⟨P, HP⟩ : ∃ P, Hid (P = W.heap.size) := ⟨_, rfl⟩
    rw [← HP.out] at z6 hPB HAx ⊢
    rintro e W2 (⟨rfl, hJ2, hB2⟩ | ⟨rfl, hSt⟩)
    · have y2 := (hB2.cell (p := ⟨yb, 0, none⟩) hyB (fun h => h HAx.out.1)).trans y1
      have w2 := (hB2.cell (p := ⟨wb, 0, none⟩) hwB (fun h => h HAx.out.2.1)).trans w1
      have p2 := (hB2.cell (p := ⟨P, 6, none⟩) hPB (fun h => h HAx.out.2.2)).trans z6
      have HJ2 : Hid (J A1 (pre ++ [x]) W2) := hJ2
      have HCM : Hid (ct = cntL subs + 1) := hcm
      have HHL : Hid (p.length + ct ≤ 5001) := hlen
      have HXP : Hid (x = (p, .slice pa p.length pc)) := hxp
      clear hR hyl z6 hJ2 hcm hlen hxp
      gi_wp2
      gi_loopw [16] (fun c wr => ∃ (j : Nat), c = .int .i64 j ∧ j ≤ subs.length ∧ But (fun k => ¬ A1 k) W0 wr ∧ Hid (∃ xs : List Pl, xs.map Prod.fst = p :: allL p 0 (subs.take j) ∧ J A1 (pre ++ xs) wr)) (fun c _ => subs.length - (intOf c).toNat)
      case atStart => exact ⟨0, rfl, Nat.zero_le _, hB2, ⟨[x], by simp [allL, HXS.out], HJ2.out⟩⟩
      case round =>
        obtain ⟨j, rfl, hj, hB, HF⟩ := hrel
        by_cases hlt : j < subs.length
        · have k1 : (j : Int) < subs.length := by omega
          have y3 := (hB.cell (p := ⟨yb, 0, none⟩) hyB (fun h => h HAx.out.1)).trans y1
          have w3 := (hB.cell (p := ⟨wb, 0, none⟩) hwB (fun h => h HAx.out.2.1)).trans w1
          obtain ⟨b, off, ka, kc, rfl, hAb, hb, ⟨e0, e1, e2, e3, e4, e5, e6⟩, hT⟩ := (HKA.out wr hB) j subs[j] (by simp [hlt])
          have hybr : yb < wr.heap.size := Nat.lt_of_lt_of_le hyB hB.size
          have hwbr : wb < wr.heap.size := Nat.lt_of_lt_of_le hwB hB.size
          have HPR : Hid (SlP p (.slice pa p.length pc) wr) := HPV.out wr (HBW.out wr hB)
          have hplen : p.length ≤ 5000 := by have := HHL.out; have := HCM.out; omega
          obtain ⟨xs, hxs, hJx⟩ := HF.out
          have HLK : Hid (p.length + 1 + cntN subs[j] ≤ 5001 ∧ ((pre ++ xs).map Prod.fst ++ allP (p ++ [(j : Int)]) subs[j]) <+: L) := by
            have h1 := HHL.out
            have h2 := HCM.out
            have h3 := cntL_at hlt
            refine ⟨by omega, ?_⟩
            rw [List.map_append, hxs, List.append_assoc, List.cons_append, ← allL_take hlt]
            exact List.IsPrefix.trans ((List.prefix_append_right_inj _).2 ((List.cons_prefix_cons).2 ⟨rfl, allL_pre subs (j + 1) _⟩)) HLP.out
          have HPT : Hid (allL p 0 (subs.take (j + 1)) = allL p 0 (subs.take j) ++ allP (p ++ [(j : Int)]) subs[j]) := allL_take hlt _
          have HXS2 : Hid (xs.map Prod.fst = p :: allL p 0 (subs.take j)) := hxs
          have HJX : Hid (J A1 (pre ++ xs) wr) := hJx
          have HTK : Hid (∀ V, Below wr.heap.size wr V → TAt A1 n subs[j] (ndV subs[j].h (.slice ka subs[j].kids.length kc)) V) := fun V hV => hT.next hV
          generalize subs[j] = y at *
          have hyh : ∃ yh, y.h = yh := ⟨_, rfl⟩
          obtain ⟨yh, hyh⟩ := hyh
          obtain ⟨sk, hsk⟩ : ∃ sk, y.kids.length = sk := ⟨_, rfl⟩
          rw [hyh, hsk] at HTK
          rw [hyh] at e0 e1 e2 e3 e4 e5
          rw [hsk] at e6
          obtain ⟨xk, xn, xf, xr, xt, xb⟩ := yh
          unfold ndV at HTK
          simp only at *
          have hBk : Below wr.heap.size wr (wr.alloc (Obj.cells #[.string xk, .bool xn, .string xf, .int .i64 xr, .int .i64 xt, .int .i64 xb, .slice ka sk kc] 24)) := (Below.refl _ _).alloc (Nat.le_refl _) _
          have hbk := World.alloc_heap_new wr (Obj.cells #[.string xk, .bool xn, .string xf, .int .i64 xr, .int .i64 xt, .int .i64 xb, .slice ka sk kc] 24)
          have HBK : Hid (Below wr.heap.size wr (wr.alloc (Obj.cells #[.string xk, .bool xn, .string xf, .int .i64 xr, .int .i64 xt, .int .i64 xb, .slice ka sk kc] 24))) := hBk
          have HZK : Hid ((wr.alloc (Obj.cells #[.string xk, .bool xn, .string xf, .int .i64 xr, .int .i64 xt, .int .i64 xb, .slice ka sk kc] 24)).heap.size = wr.heap.size + 1) := by show _ = _; simp
          have w4 := (hBk.cell (p := ⟨wb, 0, none⟩) hwbr).trans w3
          clear hxs hJx HF hT hyh hsk hBk
          gi_wp2
          generalize wr.alloc (Obj.cells #[.string xk, .bool xn, .string xf, .int .i64 xr, .int .i64 xt, .int .i64 xb, .slice ka sk kc] 24) = Wk at *
          obtain ⟨K0, HK0⟩ : ∃ K0, Hid (K0 = wr.heap.size) := ⟨_, rfl⟩
          rw [← HK0.out] at hbk ⊢
          have hKl : K0 < Wk.heap.size := by have := HZK.out; have := HK0.out; omega
          have hwk : wb < Wk.heap.size := World.block_lt_of_cell? _ _ w4
          have HS : Hid (∀ W, Below Wk.drew.heap.size Wk.drew W → W.cell? ⟨wb, 0, none⟩ = some (.func (.func 44) #[] #[.pointer (some ⟨yb, 0, none⟩), .pointer (some ⟨wb, 0, none⟩)]) ∧ W.cell? ⟨K0, 0, none⟩ = some (.string xk) ∧ W.cell? ⟨K0, 1, none⟩ = some (.bool xn) ∧ W.cell? ⟨K0, 2, none⟩ = some (.string xf) ∧ W.cell? ⟨K0, 3, none⟩ = some (.int .i64 xr) ∧ W.cell? ⟨K0, 4, none⟩ = some (.int .i64 xt) ∧ W.cell? ⟨K0, 5, none⟩ = some (.int .i64 xb) ∧ W.cell? ⟨K0, 6, none⟩ = some (.slice ka sk kc)) := fun V hV => by
            have hq := (hV.block K0 hKl).trans hbk
            refine ⟨(hV.cell (p := ⟨wb, 0, none⟩) hwk).trans w4, ?_, ?_, ?_, ?_, ?_, ?_, ?_⟩ <;> simp [World.cell?, hq]
          have hB4 : Below Wk.drew.heap.size Wk.drew (Wk.drew.alloc (Obj.cells #[.int .i64 j] 3)) := (Below.refl _ _).alloc (Nat.le_refl _) _
          have HB4 : Hid (Below wr.heap.size wr (Wk.drew.alloc (Obj.cells #[.int .i64 j] 3))) := HBK.out.drew.trans (hB4.mono HBK.out.size)
          have ht := told_any p [(j : Int)] _ _ _ (HPR.out.next HB4.out) (SlP.one (W := Wk.drew) (j : Int)) (by omega) (by simp)
          clear hbk w4 e0 e1 e2 e3 e4 e5 e6 HKA
          refine wpIn_region_M (fun W => W.cell? ⟨wb, 0, none⟩ = some (.func (.func 44) #[] #[.pointer (some ⟨yb, 0, none⟩), .pointer (some ⟨wb, 0, none⟩)]) ∧ W.cell? ⟨K0, 0, none⟩ = some (.string xk) ∧ W.cell? ⟨K0, 1, none⟩ = some (.bool xn) ∧ W.cell? ⟨K0, 2, none⟩ = some (.string xf) ∧ W.cell? ⟨K0, 3, none⟩ = some (.int .i64 xr) ∧ W.cell? ⟨K0, 4, none⟩ = some (.int .i64 xt) ∧ W.cell? ⟨K0, 5, none⟩ = some (.int .i64 xb) ∧ W.cell? ⟨K0, 6, none⟩ = some (.slice ka sk kc)) 6 (by kernel_rfl) 8 rfl ?_
          refine wpAnyM_take' rfl (fun _ => trivial) (i := 0) (v := ?_) (oi := { dst := some 21, op := Op.load 40 (Operand.tmp 3), type := 40, pos := "paths.go:56", after := #[], guard := none }) rfl (by kernel_rfl) (by kernel_rfl) (by kernel_rfl) (by kernel_rfl) rfl (by kernel_rfl) (fun _ _ _ h => h) (Or.inl ⟨by rfl, ?_⟩) (HS.out _ (Below.refl _ _)) ?_
          rotate_left
          · intro W hSW
            go_simp
            try with_reducible rfl
          simp only [Act.put, List.setIfInBounds_toArray, List.set_cons_zero, List.set_cons_succ]
          refine wpAnyM_take' rfl (fun _ => trivial) (i := 1) (v := ?_) (oi := { dst := some 22, op := Op.load 24 (Operand.tmp 8), type := 24, pos := "paths.go:56", after := #[], guard := none }) rfl (by kernel_rfl) (by kernel_rfl) (by kernel_rfl) (by kernel_rfl) rfl (by kernel_rfl) (fun _ _ _ h => h) (Or.inl ⟨by rfl, ?_⟩) (HS.out _ (Below.refl _ _)) ?_
          rotate_left
          · intro W hSW
            go_simp
            try with_reducible rfl
          simp only [Act.put, List.setIfInBounds_toArray, List.set_cons_zero, List.set_cons_succ]
          refine wpAnyM_take' rfl (fun _ => trivial) (i := 2) (v := ?_) (oi := { dst := some 23, op := Op.move (Operand.tmp 1), type := 25, pos := "paths.go:56", after := #[], guard := none }) rfl (by kernel_rfl) (by kernel_rfl) (by kernel_rfl) (by kernel_rfl) rfl (by kernel_rfl) (fun _ _ _ h => h) (Or.inl ⟨by rfl, ?_⟩) (HS.out _ (Below.refl _ _)) ?_
          rotate_left
          · intro W hSW
            go_simp
            try with_reducible rfl
          simp only [Act.put, List.setIfInBounds_toArray, List.set_cons_zero, List.set_cons_succ]
          refine wpAnyM_take' rfl (fun _ => trivial) (i := 3) (v := ?_) (oi := { dst := some 24, op := Op.move (Operand.tmp 7), type := 3, pos := "paths.go:56", after := #[], guard := none }) rfl (by kernel_rfl) (by kernel_rfl) (by kernel_rfl) (by kernel_rfl) rfl (by kernel_rfl) (fun _ _ _ h => h) (Or.inl ⟨by rfl, ?_⟩) (HS.out _ (Below.refl _ _)) ?_
          rotate_left
          · intro W hSW
            go_simp
            try with_reducible rfl
          simp only [Act.put, List.setIfInBounds_toArray, List.set_cons_zero, List.set_cons_succ]
          refine wpAnyM_one' (i := 4) (o := { dst := some 25, op := Op.buildSlice 25 1 #[(0, Operand.tmp 24)], type := 25, pos := "paths.go:56", after := #[{ on := 3, ground := Ground.data }], guard := none }) (by kernel_rfl) rfl rfl (fun K hK => ?_)
          go_simp
          refine hK.out _ _ (fun _ => HS.out _ hB4) ?_
          clear hK
          refine wpAnyM_one' (i := 5) (o := { dst := some 26, op := Op.call { callee := Callee.value (Operand.func 31), args := #[Operand.tmp 23, Operand.tmp 25], argTypes := #[25, 25] }, type := 25, pos := "paths.go:56", after := #[{ on := 2, ground := Ground.data }, { on := 4, ground := Ground.data }], guard := none }) (by kernel_rfl) rfl rfl (fun K hK => ?_)
          go_simp
          refine ⟨trivial, fun h => (by cases h), (callsIn_wide.2 ht).mono ?_⟩
          rintro e w5 ⟨⟨v, rfl, hv⟩, hb5⟩
          refine hK.out _ _ (fun _ => HS.out _ (hB4.trans (hb5.mono hB4.size))) ?_
          clear hK
          have HB5 : Hid (Below wr.heap.size wr w5) := HB4.out.trans (hb5.mono HB4.out.size)
          have HV : Hid (OwnI wr.heap.size (p ++ [(j : Int)]) v w5) := own_base hv HB4.out.size
          have hs5 := HS.out _ (hB4.trans (hb5.mono hB4.size))
          clear ht hv hb5 hB4
          refine wpAnyM_one' (i := 6) (o := { dst := some 27, op := Op.call { callee := Callee.value (Operand.tmp 21), args := #[Operand.tmp 22, Operand.tmp 26], argTypes := #[24, 25] }, type := 4, pos := "paths.go:56", after := #[{ on := 0, ground := Ground.data }, { on := 1, ground := Ground.data }, { on := 5, ground := Ground.data }, { on := 5, ground := Ground.chain }], guard := none }) (by kernel_rfl) rfl rfl (fun K hK => ?_)
          go_simp
          have hlk := HLK.out
          have hrec := HIH.out y _ (fun k => A1 k ∨ (wr.heap.size ≤ k ∧ k < w5.heap.size)) (pre ++ xs) (p ++ [(j : Int)]) v w5 yb wb (q - 1) (HFF.out.new _ _ _ _ HJX.out HB5.out) ((HTK.out _ HB5.out).imp (fun _ _ h => .inl h)) (SlP.of_own HV.out) (fun k hk => .inr (World.ownsRow.lt HV.out k hk)) (by simp only [List.length_append, List.length_cons, List.length_nil]; omega) ((HB5.out.cell (p := ⟨yb, 0, none⟩) hybr).trans y3) (.inl HAx.out.1) ((HB5.out.cell (p := ⟨wb, 0, none⟩) hwbr).trans w3) (.inl HAx.out.2.1) hlk.2
          refine ⟨trivial, fun h => (by cases h), hrec.mono ?_⟩
          clear hrec hs5 hlk
          rintro e W5 (⟨rfl, ⟨ys, hys, hJ5⟩, hB6⟩ | ⟨rfl, hSt⟩)
          · refine hK.out _ _ (fun h => absurd h (by decide)) ?_
            clear hK
            have HE : Hid (But (fun k => ¬ A1 k) W0 W5 ∧ ∃ xs : List Pl, xs.map Prod.fst = p :: allL p 0 (subs.take (j + 1)) ∧ J A1 (pre ++ xs) W5) := ⟨(hB.trans (But.of_next HB5.out)).trans (hB6.mono (fun k _ h h' => h (.inl h'))), xs ++ ys, by rw [List.map_append, HXS2.out, hys, HPT.out]; simp, by rw [← List.append_assoc]; exact HFF.out.less _ _ _ _ hJ5 (fun k hk => .inl hk)⟩
            clear hJ5 hys hB6
            refine wpAnyM_one' (i := 7) (o := { dst := some 28, op := Op.unOp UnOp.not 4 (Operand.tmp 27), type := 4, pos := "paths.go:56", after := #[{ on := 6, ground := Ground.data }], guard := none }) (by kernel_rfl) rfl rfl (fun K hK => ?_)
            go_simp
            refine hK.out _ _ (fun h => absurd h (by decide)) ?_
            clear hK
            refine wpAnyM_done (by kernel_rfl) ?_ _
            gi_wp2
            go_roundw
            case rel => exact ⟨j + 1, by go_num, by omega, HE.out.1, HE.out.2⟩
            case measure => simp [intOf]; omega
          · refine hK.out _ _ (fun h => absurd h (by decide)) ?_
            clear hK
            refine wpAnyM_one' (i := 7) (o := { dst := some 28, op := Op.unOp UnOp.not 4 (Operand.tmp 27), type := 4, pos := "paths.go:56", after := #[{ on := 6, ground := Ground.data }], guard := none }) (by kernel_rfl) rfl rfl (fun K hK => ?_)
            go_simp
            refine hK.out _ _ (fun h => absurd h (by decide)) ?_
            clear hK
            refine wpAnyM_done (by kernel_rfl) ?_ _
            gi_wp2
            go_ret
            exact .inr ⟨rfl, hSt⟩
        · have hnl : ¬ (j : Int) < subs.length := by omega
          have HE : Hid ((∃ xs : List Pl, xs.map Prod.fst = PT ∧ J A (pre ++ xs) wr) ∧ But (fun k => ¬ A k) W wr) := by
            obtain ⟨xs, hxs, hJx⟩ := HF.out
            refine ⟨⟨xs, ?_, HFF.out.less _ _ _ _ hJx HA1i.out⟩, HBW.out _ hB⟩
            rw [hxs, HPM.out, List.take_of_length_le (by omega)]
          clear HF
          gi_wp2
          go_ret
          exact .inl ⟨rfl, HE.out.1, HE.out.2⟩
    · clear hR hyl z6
      gi_wp2
      go_ret
      exact .inr ⟨rfl, hSt⟩
end Go.Proofs.Ytmkkjjhlppagpaa
