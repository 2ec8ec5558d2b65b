/- within: the closure that calls itself; the iterator. -/
import Derived.Test.YtoocafcagelbgaaRangeT
import Derived.Test.YtoocafcagelbgaaWkMath
namespace Go.Proofs.Ytoocafcagelbgaa
open Go.RowKit Go.Shelf
attribute [local go_sem] Oper.semAt_some

def encN (x : Nat) : Array Value := #[.int .i64 (x : Int)]
def Kf (l : List Sl) (p : Nat) : List Nat := match l[p]? with
  | some s => s.kids.map Int.toNat
  | none => []
theorem Kf_some {l : List Sl} {p : Nat} {s : Sl} (h : l[p]? = some s) : Kf l p = s.kids.map Int.toNat := by unfold Kf; rw [h]
/-- The boxes of the iterator, and what was met. -/
structure WB (lb : Nat) (sa : Option Addr) (n c : Nat) (fr : Int) (rv : Value) (mb ab wb yb g : Nat) (mt : List Bool) (W : World) : Prop where
  mc : W.cell? ⟨mb, 0, none⟩ = some (.slice (some ⟨g, 0, none⟩) n n)
  ac : ArBox ab sa n c fr rv W
  wc : W.cell? ⟨wb, 0, none⟩ = some (.func (.func 62) #[] #[.pointer (some ⟨mb, 0, none⟩), .pointer (some ⟨ab, 0, none⟩), .pointer (some ⟨wb, 0, none⟩), .pointer (some ⟨yb, 0, none⟩)])
  yc : W.cell? ⟨yb, 0, none⟩ = some (.func (.yield lb) #[] #[])
  row : W.ownsRow 0 4 1 (.slice (some ⟨g, 0, none⟩) n n) n (mt.map encB)
  len : mt.length = n
  ne : mb ≠ g ∧ ab ≠ g ∧ wb ≠ g ∧ yb ≠ g
theorem WB.but {lb : Nat} {sa : Option Addr} {n c : Nat} {fr : Int} {rv : Value} {mb ab wb yb g : Nat} {mt : List Bool} {W W' : World} {D : Nat → Prop} (h : WB lb sa n c fr rv mb ab wb yb g mt W) (hb : But D W W') (hd : ¬ D mb ∧ ¬ D ab ∧ ¬ D wb ∧ ¬ D yb ∧ ¬ D g) : WB lb sa n c fr rv mb ab wb yb g mt W' :=
  ⟨(hb.cell (p := ⟨mb, 0, none⟩) (World.block_lt_of_cell? _ _ h.mc) hd.1).trans h.mc, h.ac.but hb hd.2.1, (hb.cell (p := ⟨wb, 0, none⟩) (World.block_lt_of_cell? _ _ h.wc) hd.2.2.1).trans h.wc, (hb.cell (p := ⟨yb, 0, none⟩) (World.block_lt_of_cell? _ _ h.yc) hd.2.2.2.1).trans h.yc, ownsRow_keep h.row hb (fun j hj => by cases hj; exact hd.2.2.2.2), h.len, h.ne⟩
theorem WB.set {lb : Nat} {sa : Option Addr} {n c : Nat} {fr : Int} {rv : Value} {mb ab wb yb g : Nat} {mt : List Bool} {W : World} (h : WB lb sa n c fr rv mb ab wb yb g mt W) (p : Nat) : WB lb sa n c fr rv mb ab wb yb g (mt.set p true) (W.setCell ⟨g, p, none⟩ (.bool true)) := by
  have hb : But (fun k => k = g) W (W.setCell ⟨g, p, none⟩ (.bool true)) := (But.refl _ _).setCell _ _ (.inr rfl)
  refine ⟨(hb.cell (p := ⟨mb, 0, none⟩) (World.block_lt_of_cell? _ _ h.mc) h.ne.1).trans h.mc, h.ac.but hb h.ne.2.1, (hb.cell (p := ⟨wb, 0, none⟩) (World.block_lt_of_cell? _ _ h.wc) h.ne.2.2.1).trans h.wc, (hb.cell (p := ⟨yb, 0, none⟩) (World.block_lt_of_cell? _ _ h.yc) h.ne.2.2.2).trans h.yc, ?_, by simpa using h.len, h.ne⟩
  have h1 := (World.ownsRow.stored h.row p (.bool true)).1
  rw [List.map_set]
  exact h1
theorem WB.at {lb : Nat} {sa : Option Addr} {n c : Nat} {fr : Int} {rv : Value} {mb ab wb yb g : Nat} {mt : List Bool} {W : World} (h : WB lb sa n c fr rv mb ab wb yb g mt W) {p : Nat} (hp : p < n) : W.cell? ⟨g, p, none⟩ = some (.bool (mt.getD p true)) := by
  have hp2 : p < mt.length := by rw [h.len]; exact hp
  have := World.ownsRow.cells h.row (g := g) rfl p (.bool mt[p]) (by simp [encB, hp2])
  rw [add_plain] at this
  rw [List.getD_eq_getElem?_getD, List.getElem?_eq_getElem hp2]
  simpa using this
theorem WB.frozen {lb : Nat} {sa : Option Addr} {n c : Nat} {fr : Int} {rv : Value} {mb ab wb yb g : Nat} {mt : List Bool} {W : World} (h : WB lb sa n c fr rv mb ab wb yb g mt W) (p : Nat) : W.frozen? ⟨g, p, none⟩ = false := by
  obtain ⟨cs, hcs⟩ := own_is_cells h.row (j := g) rfl
  exact Lib.frozen_of_heap hcs _
abbrev OkN : (Nat → Prop) → Nat → World → Prop := fun _ _ _ => True
abbrev FxN (w0 : World) : World → Prop := fun W => Below w0.heap.size w0 W

set_option maxRecDepth 100000 in
set_option maxHeartbeats 8000000 in
theorem walkA_in (m lb : Nat) (l : List Sl) (sa : Option Addr) (c : Nat) (fr : Int) (rv : Value) (w0 : World) (L : List Nat) (hs : SlotsAt l sa w0) (hka : ∀ s ∈ l, areB l.length s.kids = true) (hkl : ∀ s ∈ l, s.kids.length ≤ 1000000) (hlen : l.length ≤ 4096)
    (J : (Nat → Prop) → List Nat → World → Prop) (St : (Nat → Prop) → World → Prop) (hF : FeedsT m Try.prog lb encN OkN (fun pre => pre <+: L) (FxN w0) J St) (mb ab wb yb g : Nat) :
    ∀ (f p : Nat) (A : Nat → Prop) (pre : List Nat) (mt : List Bool) (W : World) (q : Nat), J A pre W → WB lb sa l.length c fr rv mb ab wb yb g mt W → (A mb ∧ A ab ∧ A wb ∧ A yb ∧ A g) → p < l.length → unmet mt < f → (pre ++ (wk (Kf l) f mt p).2) <+: L →
      CallsIn Fence.wide q Try.prog 62 #[.int .i64 (p : Int), .pointer (some ⟨mb, 0, none⟩), .pointer (some ⟨ab, 0, none⟩), .pointer (some ⟨wb, 0, none⟩), .pointer (some ⟨yb, 0, none⟩)] W fun e W' =>
        (e = .returned (.bool true) ∧ J A (pre ++ (wk (Kf l) f mt p).2) W' ∧ WB lb sa l.length c fr rv mb ab wb yb g (wk (Kf l) f mt p).1 W') ∨ (e = .returned (.bool false) ∧ St A W')
  | 0, _, _, _, _, _, _, _, _, _, _, h, _ => by omega
  | f + 1, p, A, pre, mt, W, q, hJ, hW, hA, hp, hu, hL => by
    have HIH : Hid _ := walkA_in m lb l sa c fr rv w0 L hs hka hkl hlen J St hF mb ab wb yb g f
    have HFF : Hid (FeedsT m Try.prog lb encN OkN (fun pre => pre <+: L) (FxN w0) J St) := hF
    have HA : Hid (A mb ∧ A ab ∧ A wb ∧ A yb ∧ A g) := hA
    have hmt := hW.at hp
    have hfz := hW.frozen p
    have hfx := hF.fx _ _ _ hJ
    obtain ⟨b, off, ka, kc, gv, rfl, hb, hrow, _, hks, _⟩ := hs.at hfx hp
    have hsp : l[p]? = some l[p] := List.getElem?_eq_getElem hp
    have hk0 := hka l[p] (List.getElem_mem hp)
    have hk1 := hkl l[p] (List.getElem_mem hp)
    have hKf := Kf_some hsp
    have hks0 : SlI l[p].kids gv W := hks
    obtain ⟨ga, gc, rfl, _⟩ := hks
    have HROW : Hid (∀ W', Below w0.heap.size w0 W' → SlI l[p].kids (.slice ga l[p].kids.length gc) W' ∧ W'.cell? ⟨b, off + p * 10 + 7, none⟩ = some (.slice ga l[p].kids.length gc)) := fun W' hb' => by
      obtain ⟨b2, off2, ka2, kc2, gv2, e2, hb2, hrow2, _, hks2, _⟩ := hs.at (Below.refl _ w0) hp
      cases e2
      have h7 := (hfx.cell (p := ⟨b, off + p * 10 + 7, none⟩) hb2).trans hrow2.2.1
      rw [hrow.2.1] at h7
      cases h7
      exact ⟨hks2.next hb', (hb'.cell (p := ⟨b, off + p * 10 + 7, none⟩) hb2).trans hrow2.2.1⟩
    have HKI : Hid (∀ x ∈ l[p].kids, isSl l.length x = true) := List.all_eq_true.1 hk0
    have HWK : Hid (mt.getD p true = false → wk (Kf l) (f + 1) mt p = ((wkRow (wk (Kf l) f) (mt.set p true) (l[p].kids.map Int.toNat)).1, (wkRow (wk (Kf l) f) (mt.set p true) (l[p].kids.map Int.toNat)).2 ++ [p])) := fun h => by
      rw [← hKf]
      conv => lhs; unfold wk
      rw [if_neg (by rw [h]; simp)]
    have HWY : Hid (mt.getD p true = true → wk (Kf l) (f + 1) mt p = (mt, [])) := fun h => by
      conv => lhs; unfold wk
      rw [if_pos h]
    have HL : Hid ((pre ++ (wk (Kf l) (f + 1) mt p).2) <+: L) := hL
    have HU : Hid (unmet mt < f + 1) := hu
    have HJ : Hid (J A pre W) := hJ
    have HWB : Hid (WB lb (some ⟨b, off, none⟩) l.length c fr rv mb ab wb yb g mt W) := hW
    obtain ⟨c0, ⟨a0, a1, a2⟩, w1, y1, _, _, _⟩ := hW
    have HUN : Hid (mt.getD p true = false → unmet (mt.set p true) + 1 = unmet mt) := unmet_set
    generalize l[p].kids = ks at *
    generalize wk (Kf l) (f + 1) mt p = R at *
    clear hF hJ hA hs hfx hrow hsp hk0 hKf hks0 hL hu hka hkl
    refine callsIn_of_wp Try.func62 rfl trivial ?_ rfl
    simp only [Try.ntmps62, List.size_toArray, List.length_cons, List.length_nil, Nat.reduceAdd, Nat.reduceSub, Array.replicate_succ, Array.replicate_zero, List.push_toArray, List.append_toArray, List.nil_append, List.cons_append]
    cases hm : mt.getD p true with
    | true =>
      rw [hm] at hmt
      have hR := HWY.out hm
      subst hR
      clear HIH HWK HROW
      gi_wp2
      go_ret
      exact .inl ⟨rfl, by simpa using HJ.out, HWB.out⟩
    | false =>
      rw [hm] at hmt
      have hR := HWK.out hm
      have hun := HUN.out hm
      have HUU : Hid (unmet (mt.set p true) < f) := by show _ < _; have := HU.out; omega
      have hbs : But (fun k => k = g) W (W.setCell ⟨g, p, none⟩ (.bool true)) := (But.refl _ _).setCell _ _ (.inr rfl)
      have HJ1 : Hid (J A pre (W.setCell ⟨g, p, none⟩ (.bool true))) := HFF.out.turn _ _ _ _ HJ.out (hbs.mono (fun k _ e => by rw [e]; exact HA.out.2.2.2.2))
      have HW1 : Hid (WB lb (some ⟨b, off, none⟩) l.length c fr rv mb ab wb yb g (mt.set p true) (W.setCell ⟨g, p, none⟩ (.bool true))) := HWB.out.set p
      obtain ⟨W1, HW1e⟩ : ∃ W1, Hid (W1 = W.setCell ⟨g, p, none⟩ (.bool true)) := ⟨_, rfl⟩
      rw [← HW1e.out] at HJ1 HW1
      obtain ⟨c0, ⟨a0, a1, a2⟩, w1, y1, _, _, _⟩ := HW1.out
      have e7 := (HROW.out W1 (HFF.out.fx _ _ _ HJ1.out)).2
      rw [HW1e.out] at e7 c0 a0 a1 a2 w1 y1
      have HBW : Hid (W.heap.size = W1.heap.size) := by rw [HW1e.out]; show _ = _; simp
      clear hbs hun HWY HWK HUN
      gi_wp2
      rw [← HW1e.out]
      gi_loopw [23] (fun cv wr => ∃ (j : Nat), cv = .int .i64 j ∧ j ≤ ks.length ∧ Hid (J A (pre ++ (wkRow (wk (Kf l) f) (mt.set p true) ((ks.map Int.toNat).take j)).2) wr ∧ WB lb (some ⟨b, off, none⟩) l.length c fr rv mb ab wb yb g (wkRow (wk (Kf l) f) (mt.set p true) ((ks.map Int.toNat).take j)).1 wr)) (fun cv _ => ks.length - (intOf cv).toNat)
      case atStart => exact ⟨0, rfl, Nat.zero_le _, by simpa [wkRow] using HJ1.out, by simpa [wkRow] using HW1.out⟩
      case round =>
      obtain ⟨j, rfl, hj, HF⟩ := hrel
      obtain ⟨c0, ⟨a0, a1, a2⟩, w1, y1, _, _, _⟩ := HF.out.2
      by_cases hlt : j < ks.length
      · have k1 : (j : Int) < ks.length := by omega
        obtain ⟨_, _, e0', hkr, _⟩ := (HROW.out wr (HFF.out.fx _ _ _ HF.out.1)).1
        simp only [Value.slice.injEq] at e0'
        obtain ⟨rfl, -, rfl⟩ := e0'
        obtain ⟨b3, o3, rfl, hb3, p3⟩ := hkr.at (Below.refl _ _) hlt
        have hsl := HKI.out ks[j] (List.getElem_mem hlt)
        have hlt2 : j < (ks.map Int.toNat).length := by simpa using hlt
        have htk := wkRow_take (wk (Kf l) f) (ks.map Int.toNat) (mt.set p true) hlt2
        have hpre := wkRow_pre (wk (Kf l) f) (ks.map Int.toNat) (mt.set p true) (j + 1)
        have hgr := grows_row (grows_wk (Kf l) f) ((ks.map Int.toNat).take j) (mt.set p true)
        rw [List.getElem_map] at htk
        simp only [encI] at p3
        generalize ks[j] = y at *
        obtain ⟨y, rfl, hy⟩ := isSl_in hsl
        simp only [Int.toNat_natCast] at htk
        rw [htk] at hpre
        have hrec := fun q' => HIH.out y A (pre ++ (wkRow (wk (Kf l) f) (mt.set p true) ((ks.map Int.toNat).take j)).2) (wkRow (wk (Kf l) f) (mt.set p true) ((ks.map Int.toNat).take j)).1 wr q' HF.out.1 HF.out.2 HA.out hy (by have := hgr.un; have := HUU.out; omega) (by
          refine List.IsPrefix.trans ?_ HL.out
          rw [hR, List.append_assoc]
          exact (List.prefix_append_right_inj _).2 (hpre.trans (List.prefix_append _ _)))
        have HTK : Hid (wkRow (wk (Kf l) f) (mt.set p true) ((ks.map Int.toNat).take (j + 1)) = _) := htk
        generalize wkRow (wk (Kf l) f) (mt.set p true) ((ks.map Int.toNat).take j) = r0 at *
        have hrec1 := hrec (q - 1)
        clear hrec hgr hpre htk hkr HF hsl
        gi_wp2
        refine ⟨trivial, fun h => (by cases h), hrec1.mono ?_⟩
        rintro e W5 (⟨rfl, hJ5, hW5⟩ | ⟨rfl, hSt⟩)
        · have HE : Hid (J A (pre ++ (wkRow (wk (Kf l) f) (mt.set p true) ((ks.map Int.toNat).take (j + 1))).2) W5 ∧ WB lb (some ⟨b, off, none⟩) l.length c fr rv mb ab wb yb g (wkRow (wk (Kf l) f) (mt.set p true) ((ks.map Int.toNat).take (j + 1))).1 W5) := by
            rw [HTK.out, ← List.append_assoc]; exact ⟨hJ5, hW5⟩
          clear hrec1 hJ5 hW5 HTK
          gi_wp2
          go_roundw
          case rel => exact ⟨j + 1, by go_num, by omega, HE.out⟩
          case measure => simp [intOf]; omega
        · have HST : Hid (St A W5) := hSt
          clear hrec1 hSt HTK
          gi_wp2
          go_ret
          exact .inr ⟨rfl, HST.out⟩
      · have hnl : ¬ (j : Int) < ks.length := by omega
        have HE : Hid (J A (pre ++ (wkRow (wk (Kf l) f) (mt.set p true) (ks.map Int.toNat)).2) wr ∧ WB lb (some ⟨b, off, none⟩) l.length c fr rv mb ab wb yb g (wkRow (wk (Kf l) f) (mt.set p true) (ks.map Int.toNat)).1 wr) := by
          have := HF.out
          rw [List.take_of_length_le (by simp; omega)] at this
          exact this
        obtain ⟨fn, tmps, assign, body, hyl, hRy⟩ := yield_any (m' := q - 1) (HFF.out.yield A _ p wr HE.out.1 trivial (by
          rw [hR] at HL
          rw [List.append_assoc]; exact HL.out))
        unfold encN at hyl
        clear HF HIH HROW
        gi_wp2
        refine ⟨fun h => (by cases h), hRy.mono ?_⟩
        rintro e W5 (⟨rfl, hJ5, hB5⟩ | ⟨rfl, hSt, _⟩)
        · have HE2 : Hid (J A (pre ++ R.2) W5 ∧ WB lb (some ⟨b, off, none⟩) l.length c fr rv mb ab wb yb g R.1 W5) := by
            rw [hR, ← List.append_assoc]
            obtain ⟨h1, h2, h3, h4, h5⟩ := HA.out
            exact ⟨hJ5, HE.out.2.but hB5 ⟨fun h => h h1, fun h => h h2, fun h => h h3, fun h => h h4, fun h => h h5⟩⟩
          clear hRy hyl hJ5 hB5 hR
          gi_wp2
          go_ret
          exact .inl ⟨rfl, HE2.out.1, HE2.out.2⟩
        · have HST : Hid (St A W5) := hSt
          clear hRy hyl hSt hR
          gi_wp2
          go_ret
          exact .inr ⟨rfl, HST.out⟩
end Go.Proofs.Ytoocafcagelbgaa
