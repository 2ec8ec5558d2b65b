/- Stacks: the program's Push, where something can be pushed. -/
import Derived.Test.YtjpbfckdiojghaaPPush
namespace Go.Proofs.Ytjpbfckdiojghaa
open Go.RowKit

theorem flatG_set2 (y : Gn) (u' : Value) : ∀ (L : List GnV) (i : Nat) (x : Gn) (u : Value), L[i]? = some (x, u) → y.st = x.st → y.pl = x.pl → (L.flatMap encG).set (i * 3 + 2) u' = (L.set i (y, u')).flatMap encG
  | [], i, x, u, h, _, _ => by simp at h
  | p :: L, 0, x, u, h, h1, h2 => by
    simp at h
    subst h
    simp [encG, h1, h2]
  | p :: L, i + 1, x, u, h, h1, h2 => by
    simp at h
    rw [List.flatMap_cons, List.set_cons_succ, List.flatMap_cons, ← flatG_set2 y u' L i x u h h1 h2, List.set_append_right _ _ (by rw [encG_len]; omega), encG_len]
    congr 2; omega
/-- A node's row of links is another one. -/
theorem OwnS.setRow {B : Nat} {L : List GnV} {g n c : Nat} {W W1 : World} (h : OwnS B L (.slice (some ⟨g, 0, none⟩) n c) W) {i : Nat} {x : Gn} {u u' : Value} {ls : List Int} (hi : L[i]? = some (x, u)) (hb : But (fun j => u.ownBlock = some j) W W1) (hu : OwnI B ls u' W1) (hnew : u'.ownBlock = u.ownBlock ∨ ∃ r, u'.ownBlock = some r ∧ W.heap.size ≤ r) (hls : ∀ y ∈ ls, i64B y) (hll : ls.length ≤ 1000000) :
    OwnS B (L.set i (⟨x.st, x.pl, ls⟩, u')) (.slice (some ⟨g, 0, none⟩) n c) (W1.setCell ⟨g, i * 3 + 2, none⟩ u') := by
  have hm := List.mem_of_getElem? hi
  have hil := (List.getElem?_eq_some_iff.1 hi).1
  have hok := h.ok _ hm
  have hn : n = L.length := by
    rcases h.nodes.2 with ⟨e, _⟩ | ⟨_, _, _, e, _⟩
    · simp at e
    · simp at e; exact e.2.1
  subst hn
  have hn1 := ownsRow_keep h.nodes hb (fun j hj e => own_types h.nodes (h.links _ hm).own (by decide) j hj e)
  have hb2 : But (fun j => j = g) W1 (W1.setCell ⟨g, i * 3 + 2, none⟩ u') := (But.refl _ _).setCell _ _ (.inr rfl)
  have hog : ∀ (v : Value) (m : Nat) (ys : List Value), W1.ownsRow B 3 1 v m ys → ∀ j, v.ownBlock = some j → ¬ j = g := fun v m ys hv j hj e => own_types hn1 hv (by decide) g rfl (by rw [← e]; exact hj)
  refine ⟨?_, fun p hp => ?_, ?_, fun p hp => ?_⟩
  · have := (World.ownsRow.stored hn1 (i * 3 + 2) u').1
    rw [flatG_set2 ⟨x.st, x.pl, ls⟩ u' L i x u hi rfl rfl] at this
    simpa using this
  · obtain ⟨j, hj⟩ := List.getElem?_of_mem hp
    by_cases hij : i = j
    · subst hij
      rw [List.getElem?_set_self hil] at hj
      cases hj
      exact ownsRow_keep hu hb2 (hog _ _ _ hu.own)
    · rw [List.getElem?_set_ne hij] at hj
      have h1 := ownsRow_keep (h.links p (List.mem_of_getElem? hj)) hb (fun b hb' e => h.partAt hi hj hij b e hb')
      exact ownsRow_keep h1 hb2 (hog _ _ _ h1)
  · have key : ∀ a (ha : a < L.length), a ≠ i → ∀ q, u'.ownBlock = some q → L[a].2.ownBlock ≠ some q := fun a ha hai q hq hq' => by
      rcases hnew with e | ⟨r, e, hr⟩
      · rw [e] at hq
        exact h.partAt hi (List.getElem?_eq_getElem ha) (Ne.symm hai) q hq hq'
      · rw [e] at hq; cases hq
        have := (World.ownsRow.lt (h.links _ (List.getElem_mem ha)).own q hq').2
        omega
    rw [List.pairwise_iff_getElem]
    intro a b ha hb hab q hq hq'
    simp only [List.length_set] at ha hb
    rw [List.getElem_set] at hq hq'
    by_cases ea : i = a
    · subst ea
      rw [if_pos rfl] at hq
      rw [if_neg (by omega)] at hq'
      exact key b hb (by omega) q hq hq'
    · rw [if_neg ea] at hq
      by_cases eb : i = b
      · subst eb
        rw [if_pos rfl] at hq'
        exact key a ha (by omega) q hq' hq
      · rw [if_neg eb] at hq'
        exact List.pairwise_iff_getElem.1 h.part a b ha hb hab q hq hq'
  · rcases List.mem_or_eq_of_mem_set hp with hp | rfl
    · exact h.ok p hp
    · exact ⟨hok.1, hok.2.1, hls, hll⟩

theorem own1_of {W : World} {mb : Nat} {c : Value} {T : TypeId} (h : W.heap[mb]? = some (Obj.cells #[c] T)) : W.ownsRow 0 T 1 (.slice (some ⟨mb, 0, none⟩) 1 1) 1 [c] := ⟨rfl, .inr ⟨_, 1, _, rfl, Nat.zero_le _, h, Nat.le_refl _, by unfold maxLen; omega, rfl, rfl⟩⟩
theorem OwnS.keepG {B mb : Nat} {L : List GnV} {v c : Value} {W W' : World} (h : OwnS B L v W) (hm : W.heap[mb]? = some (Obj.cells #[c] 24)) (hb : But (fun k => k = mb) W W') : OwnS B L v W' :=
  ⟨ownsRow_keep h.nodes hb (fun j hj e => own_types h.nodes (own1_of hm) (by decide) j hj (by rw [e]; rfl)), fun p hp => ownsRow_keep (h.links p hp) hb (fun j hj e => own_types (h.links p hp).own (own1_of hm) (by decide) j hj (by rw [e]; rfl)), h.part, h.ok⟩
theorem fitP.linkUp {l : List Gn} (h : fitP l) {x : Gn} (hx : x ∈ l) : UpL x.links := by
  obtain ⟨i, hi⟩ := List.getElem?_of_mem hx
  have hk := (h.2 i x hi).2
  unfold UpL
  rw [List.pairwise_iff_getElem]
  have step : ∀ k (hk' : k + 1 < x.links.length), x.links[k]'(by omega) < x.links[k + 1] := fun k hk' => (hk (k + 1) x.links[k + 1] (by simp [hk'])).2.2.2 (by omega) (x.links[k]'(by omega)) (by simp [show k < x.links.length by omega])
  intro a b ha hb hab
  obtain ⟨d, rfl⟩ : ∃ d, b = a + 1 + d := ⟨b - a - 1, by omega⟩
  clear hab
  induction d with
  | zero => exact step a hb
  | succ d ih => exact Int.lt_trans (ih (by omega)) (step (a + 1 + d) hb)
theorem set_same {l : List Gn} {i : Nat} {y : Gn} (h : l[i]? = some y) : l.set i y = l := by
  obtain ⟨hi, rfl⟩ := List.getElem?_eq_some_iff.1 h
  exact List.set_getElem_self hi
theorem modify_set {l : List Gn} {i : Nat} {x y : Gn} (f : Gn → Gn) (h : l[i]? = some x) (hf : f x = y) : l.modify i f = l.set i y := by
  apply List.ext_getElem?
  intro j
  rw [List.getElem?_modify, List.getElem?_set]
  by_cases e : i = j
  · subst e
    rw [h]
    have := (List.getElem?_eq_some_iff.1 h).1
    simp [hf, this]
  · simp [e]
theorem fitP.okS {l : List Gn} (h : fitP l) : okS l := fun x hx => by
  have := up_len (h.linkUp hx) (h.links x hx)
  have := h.1
  omega
theorem fitP.len {l : List Gn} (h : fitP l) {x : Gn} (hx : x ∈ l) : x.links.length ≤ 4096 := by
  have := up_len (h.linkUp hx) (h.links x hx)
  have := h.1
  omega

set_option maxRecDepth 100000 in
set_option maxHeartbeats 3200000 in
theorem push_yes (l : List Gn) (v : Value) (f st pl : Int) (w : World) (hl : SlN l v w) (hf : fitP l) (hyes : pushB l f st pl) :
    Calls Try.prog 8 #[.agg #[v], .int .i64 f, .int .i64 st, .int .i64 pl] w fun e w' => ∃ v', e = .returned (.tuple #[.agg #[v'], .int .i64 (posG l (pl, st) : Nat), .bool (newB l f st pl)]) ∧ SlN (pushL l f st pl) v' w' ∧ Below w.heap.size w w' := by
  have HL : Hid (∀ W, Below w.heap.size w W → SlN l v W) := fun W hb => hl.next hb
  have HFT : Hid (fitP l) := hf
  have hlen := hf.1
  obtain ⟨la, lc, rfl, _⟩ := hl
  have B0 : Below w.heap.size w ((w.alloc (Obj.cells #[.slice la l.length lc] 24)).alloc (Obj.cells #[.slice none 0 0] 24)) := ((Below.refl _ _).alloc (Nat.le_refl _) _).alloc (by simp) _
  have HC := seek_any l (.slice la l.length lc) (pl, st) ((w.alloc (Obj.cells #[.slice la l.length lc] 24)).alloc (Obj.cells #[.slice none 0 0] 24)) (HL.out _ B0) hf.up (by omega)
  have k0 : ((w.alloc (Obj.cells #[.slice la l.length lc] 24)).alloc (Obj.cells #[.slice none 0 0] 24)).heap[w.heap.size]? = some (Obj.cells #[.slice la l.length lc] 24) := blk_new (heap_alloc_new _ _)
  have k1 : ((w.alloc (Obj.cells #[.slice la l.length lc] 24)).alloc (Obj.cells #[.slice none 0 0] 24)).heap[w.heap.size + 1]? = some (Obj.cells #[.slice none 0 0] 24) := by simpa using heap_alloc_new (w.alloc (Obj.cells #[.slice la l.length lc] 24)) (Obj.cells #[.slice none 0 0] 24)
  unfold spV at HC
  simp only at HC
  obtain ⟨hfull, hhas, hple, hst, hnp⟩ := hyes
  have HPS : Hid (posG l (pl, st) ≤ l.length) := posG_le _ _
  have HNW : Hid (∀ y, (base1 l st pl)[posG l (pl, st)]? = some y → newB l f st pl = !isAt y.links (from1 l f st pl) ∧ pushL l f st pl = (base1 l st pl).set (posG l (pl, st)) ⟨y.st, y.pl, putL (from1 l f st pl) y.links⟩) := fun y hy => ⟨by unfold newB; rw [hy]; rfl, by unfold pushL; exact modify_set _ hy rfl⟩
  have HBT : Hid (thereB l (pl, st) = true → base1 l st pl = l ∧ from1 l f st pl = f) := fun h => ⟨by unfold base1; rw [if_pos h], by unfold from1; rw [if_pos h]⟩
  have HBF : Hid (thereB l (pl, st) = false → base1 l st pl = openG (posG l (pl, st)) ⟨st, pl, []⟩ l ∧ from1 l f st pl = inc1 (posG l (pl, st)) f) := fun h => ⟨by unfold base1; rw [if_neg (by simp [h])], by unfold from1; rw [if_neg (by simp [h])]⟩
  have HTL : Hid (thereB l (pl, st) = true → posG l (pl, st) < l.length) := fun h => (there_lt h).1
  clear hf
  generalize thereB l (pl, st) = TB at *
  generalize posG l (pl, st) = PS at *
  generalize base1 l st pl = BL at *
  generalize from1 l f st pl = FL at *
  generalize pushL l f st pl = PL at *
  generalize newB l f st pl = NB at *
  go_enter Try.func8, Try.ntmps8
  go_wp2_with fail
  generalize ((w.alloc (Obj.cells #[.slice la l.length lc] 24)).alloc (Obj.cells #[.slice none 0 0] 24)) = w0 at *
  refine HC.mono ?_
  rintro e w1 ⟨rfl, hb1⟩
  have HB1 : Hid (Below w0.heap.size w0 w1) := hb1
  have HT : Hid (∀ W, Below w0.heap.size w0 W → W.heap[w.heap.size]? = some (Obj.cells #[.slice la l.length lc] 24) ∧ W.heap[w.heap.size + 1]? = some (Obj.cells #[.slice none 0 0] 24) ∧ SlN l (.slice la l.length lc) W ∧ Below w.heap.size w W) := fun W hW => ⟨(hW.block _ (blk_lt k0)).trans k0, (hW.block _ (blk_lt k1)).trans k1, HL.out W (B0.trans (hW.mono B0.size)), B0.trans (hW.mono B0.size)⟩
  clear HC hb1 k0 k1 B0 HL
  obtain ⟨z0, z1, hsl, QB⟩ := HT.out w1 HB1.out
  have c0 : w1.cell? ⟨w.heap.size, 0, none⟩ = some (.slice la l.length lc) := by rw [Lib.cell_of_heap z0]; rfl
  have HBA : Hid (Below w0.heap.size w0 (w1.alloc (Obj.cells #[.slice la l.length lc] 24))) := HB1.out.alloc HB1.out.size _
  have c1 : (w1.alloc (Obj.cells #[.slice la l.length lc] 24)).cell? ⟨w.heap.size, 0, none⟩ = some (.slice la l.length lc) := cell_new c0
  have HCH := has_any la l lc f w1
  rw [hhas] at HCH
  have hh : 0 ≤ f ∧ f < l.length := by unfold hasB at hhas; simpa using hhas
  obtain ⟨j, rfl⟩ : ∃ j : Nat, f = j := ⟨f.toNat, by omega⟩
  have hj : j < l.length := by omega
  obtain ⟨_, _, e0, hal, _⟩ := id hsl
  cases e0
  obtain ⟨b2, o2, u2, rfl, hb2, q0, q1, q2, _⟩ := hal.at ((Below.refl _ w1).alloc (Nat.le_refl _) (Obj.cells #[.slice la l.length lc] 24)) hj
  have hpl : ¬ pl < l[j].pl := by have := hple l[j] (by simp [hj]); omega
  have hpl2 : decide (pl < l[j].pl) = false := decide_eq_false hpl
  have HC1 := canBe_any st (w1.alloc (Obj.cells #[.slice (some ⟨b2, o2, none⟩) l.length lc] 24))
  have HC3 := canBe_any pl (w1.alloc (Obj.cells #[.slice (some ⟨b2, o2, none⟩) l.length lc] 24))
  have HNN : Hid (numB st = true ∧ numB pl = true) := ⟨hst, hnp⟩
  rw [hst] at HC1
  rw [hnp] at HC3
  have HCC := copied_any l (.slice (some ⟨b2, o2, none⟩) l.length lc) (w1.alloc (Obj.cells #[.slice (some ⟨b2, o2, none⟩) l.length lc] 24)) (HT.out _ HBA.out).2.2.1 (by omega) HFT.out.okS
  generalize l[j].pl = xpl at *
  clear hal hsl q0 q2 hple hhas hst hnp z0 z1 hh hb2
  cases TB with
  | true =>
    clear hfull
    go_wp2_with fail
    refine HCH.mono ?_
    rintro e w2 ⟨rfl, rfl⟩
    clear HCH
    go_wp2_with fail
    refine HC1.mono ?_
    rintro e w2 ⟨rfl, rfl⟩
    clear HC1
    go_wp2_with fail
    refine HC3.mono ?_
    rintro e w2 ⟨rfl, rfl⟩
    clear HC3
    go_wp2_with fail
    refine HCC.mono ?_
    rintro e w4 ⟨v4, L, rfl, hL, hO, hb4⟩
    clear HCC
    have HB4 : Hid (Below w0.heap.size w0 w4) := HBA.out.trans (hb4.mono HBA.out.size)
    have HLL : Hid (L.map Prod.fst = l ∧ L.length = l.length) := ⟨hL, by rw [← hL]; simp⟩
    have hO0 := hO
    obtain ⟨va, vc, rfl⟩ := slice_of_ownK hO.nodes
    obtain ⟨B2, HB2⟩ : ∃ B2, Hid (B2 = (w1.alloc (Obj.cells #[.slice (some ⟨b2, o2, none⟩) l.length lc] 24)).heap.size) := ⟨_, rfl⟩
    rw [← HB2.out] at hO
    have hBz : w0.heap.size ≤ B2 := by rw [HB2.out]; exact HBA.out.size
    have hz4 : B2 ≤ w4.heap.size := by rw [HB2.out]; exact hb4.size
    have BA4 : Below w4.heap.size w4 (w4.alloc (Obj.cells #[.slice va L.length vc] 24)) := (Below.refl _ _).alloc (Nat.le_refl _) _
    have HO5 : Hid (OwnS B2 L (.slice va L.length vc) (w4.alloc (Obj.cells #[.slice va L.length vc] 24))) := hO.next BA4
    have m5 : (w4.alloc (Obj.cells #[.slice va L.length vc] 24)).heap[w4.heap.size]? = some (Obj.cells #[.slice va L.length vc] 24) := heap_alloc_new _ _
    have HB5 : Hid (Below w0.heap.size w0 (w4.alloc (Obj.cells #[.slice va L.length vc] 24))) := HB4.out.trans (BA4.mono HB4.out.size)
    have hs5 : (w4.alloc (Obj.cells #[.slice va L.length vc] 24)).heap.size = w4.heap.size + 1 := by simp
    obtain ⟨mb, hmb⟩ : ∃ mb, mb = w4.heap.size := ⟨_, rfl⟩
    have hmB : B2 ≤ mb := by omega
    clear hO hO0 hb4 hL HBA c1 q1 HB4 c0
    go_upto_region 10 with fail
    rw [← hmb] at m5 hs5 ⊢
    have HT5 : Hid (_ ∧ _ ∧ _) := ⟨(HT.out _ HB5.out).1, (HT.out _ HB5.out).2.1, (HT.out _ HB5.out).2.2.2⟩
    have HLB : Hid (w.heap.size + 1 < B2) := by have := blk_lt (HT.out w0 (Below.refl _ _)).2.1; show _ < _; omega
    generalize w4.alloc (Obj.cells #[.slice va L.length vc] 24) = w6 at *
    have HO6 : Hid (OwnS B2 L (.slice va L.length vc) w6) := HO5
    have m6 := m5
    have HT6 := HT5
    have HPL : Hid (PS < L.length) := by show _ < _; rw [HLL.out.2]; exact HTL.out trivial
    have HL6 : Hid (L.map Prod.fst = BL) := by show _ = _; rw [HLL.out.1, (HBT.out trivial).1]
    have HL5 : Hid (L.length ≤ 5000) := by show _ ≤ _; rw [HLL.out.2]; omega
    have HYL : Hid (∀ y, BL[PS]? = some y → y.links.length ≤ 4096) := fun y hy => by rw [(HBT.out trivial).1] at hy; exact HFT.out.len (List.mem_of_getElem? hy)
    have HYP : Hid (∀ y, BL[PS]? = some y → UpL y.links) := fun y hy => by rw [(HBT.out trivial).1] at hy; exact HFT.out.linkUp (List.mem_of_getElem? hy)
    have HFJ : Hid (FL = (j : Int)) := (HBT.out trivial).2
    rw [← HFJ.out]
    have HZ6 : Hid (B2 ≤ w6.heap.size) := by show _ ≤ _; omega
    have HFI : Hid (i64B FL) := by show i64B _; rw [HFJ.out]; unfold i64B; omega
    clear HO5 m5 HT5 HB5 BA4 hmb HBT HBF HTL HLL HFT hz4 hs5
    obtain ⟨yu, HYU⟩ : ∃ yu, Hid (L[PS]? = some yu) := ⟨L[PS]'HPL.out, List.getElem?_eq_getElem HPL.out⟩
    obtain ⟨y, u⟩ := yu
    have HYB : Hid (BL[PS]? = some y) := by show _ = _; rw [← HL6.out, List.getElem?_map, HYU.out]; rfl
    have hym := List.mem_of_getElem? HYU.out
    obtain ⟨gN, cNN, e6, hgN, _, hcell⟩ := own_cells encG_len HO6.out.nodes (by have := HPL.out; omega)
    cases e6
    have u2c := hcell PS 2 _ _ HYU.out (by omega) rfl
    have hyl : y.links.length ≤ 4096 := HYL.out y HYB.out
    have HUP : Hid (UpL y.links ∧ (∀ z ∈ y.links, i64B z)) := ⟨HYP.out y HYB.out, (HO6.out.ok _ hym).2.2.1⟩
    have HBN := bin_any y.links u FL w6 ((HO6.out.links _ hym).sl HUP.out.2) HUP.out.1 (by omega)
    have hou := (HO6.out.links _ hym).own
    simp only at hou u2c
    obtain ⟨ua, uc, rfl⟩ := slice_of_own (show w6.ownsRow B2 3 1 u y.links.length (y.links.map encI) from hou)
    have m6c : w6.cell? ⟨mb, 0, none⟩ = some (.slice (some ⟨gN, 0, none⟩) L.length vc) := by rw [Lib.cell_of_heap m6]; rfl
    have hp6 : PS < L.length := HPL.out
    have hl6 : L.length ≤ 5000 := HL5.out
    clear hcell
    go_wp2_with fail
    refine HBN.mono ?_
    rintro e w7 ⟨rfl, rfl⟩
    clear HBN
    cases hat : isAt y.links FL with
    | true =>
      have HV : Hid (NB = false ∧ PL = BL) := by
        obtain ⟨e1, e2⟩ := HNW.out y HYB.out
        refine ⟨by rw [e1, hat]; rfl, ?_⟩
        rw [e2, putL_pos, hat, if_pos rfl]
        exact set_same HYB.out
      obtain ⟨r0, r1, _, _⟩ := HT6.out
      have rc : w7.cell? ⟨w.heap.size + 1, 0, none⟩ = some (.slice none 0 0) := by rw [Lib.cell_of_heap r1]; rfl
      have rf : w7.frozen? ⟨w.heap.size + 1, 0, none⟩ = false := Lib.frozen_of_heap r1 _
      have z : (w7.setCell ⟨w.heap.size + 1, 0, none⟩ (.slice (some ⟨gN, 0, none⟩) L.length vc)).heap[w.heap.size + 1]? = some (Obj.cells #[.slice (some ⟨gN, 0, none⟩) L.length vc] 24) := by
        have := blk_set (o := 0) r1 (.slice (some ⟨gN, 0, none⟩) L.length vc)
        simpa using this
      have HF : Hid (SlN PL (.slice (some ⟨gN, 0, none⟩) L.length vc) (w7.setCell ⟨w.heap.size + 1, 0, none⟩ (.slice (some ⟨gN, 0, none⟩) L.length vc)) ∧ Below w.heap.size w (w7.setCell ⟨w.heap.size + 1, 0, none⟩ (.slice (some ⟨gN, 0, none⟩) L.length vc))) := by
        refine ⟨?_, HT6.out.2.2.setCell (by simp) _⟩
        have h1 := HO6.out.keep (D := fun k => k = w.heap.size + 1) (W' := w7.setCell ⟨w.heap.size + 1, 0, none⟩ (.slice (some ⟨gN, 0, none⟩) L.length vc)) ((But.refl _ _).setCell _ _ (.inr rfl)) (fun k hk => by have := HLB.out; omega)
        have h2 := h1.sl (by omega)
        rw [HL6.out] at h2
        rw [HV.out.2]
        exact h2
      clear r0 r1 HO6 HT6 hou HUP HNW HYB HYU
      go_wp2_with fail
      refine bodyPost_ret (results_cell_tt rfl _ _ _ rfl rfl rfl (run_loadVar_row _ _ _ _ _ _ _ z Try.underlying24 rfl (by kernel_rfl))) rfl ?_
      exact ⟨_, by rw [HV.out.1]; rfl, HF.out⟩
    | false =>
      have HV : Hid (NB = true ∧ PL = BL.set PS ⟨y.st, y.pl, y.links.take (posL y.links FL) ++ [FL] ++ y.links.drop (posL y.links FL)⟩ ∧ putL FL y.links = y.links.take (posL y.links FL) ++ [FL] ++ y.links.drop (posL y.links FL)) := by
        obtain ⟨e1, e2⟩ := HNW.out y HYB.out
        have e3 : putL FL y.links = y.links.take (posL y.links FL) ++ [FL] ++ y.links.drop (posL y.links FL) := by rw [putL_pos, hat]; rfl
        exact ⟨by rw [e1, hat]; rfl, by rw [e2, e3], e3⟩
      have HPO : Hid (posL y.links FL ≤ y.links.length) := posL_le _ _
      generalize posL y.links FL = pos at *
      have BA7 : Below w7.heap.size w7 (w7.alloc (Obj.cells #[.int .i64 FL] 3)) := (Below.refl _ _).alloc (Nat.le_refl _) _
      have hvb : (w7.alloc (Obj.cells #[.int .i64 FL] 3)).heap[w7.heap.size]? = some (.cells [Value.int .i64 FL].toArray 3 (0, 0)) := heap_alloc_new _ _
      have HO8 : Hid (OwnS B2 L (.slice (some ⟨gN, 0, none⟩) L.length vc) (w7.alloc (Obj.cells #[.int .i64 FL] 3))) := HO6.out.next BA7
      have HNE : Hid ((Value.slice ua y.links.length uc).ownBlock ≠ some w7.heap.size) := fun e => by
        have := (World.ownsRow.lt hou _ e).2
        omega
      have HCI := insI_any B2 y.links.length pos w7.heap.size (.slice ua y.links.length uc) (y.links.map encI) [.int .i64 FL] (w7.alloc (Obj.cells #[.int .i64 FL] 3)) (World.ownsRow.alloc hou _) HPO.out rfl hvb HNE.out (by omega) (one_row _) (fun u hu => by simp at hu; subst hu; rfl) (by have := HZ6.out; have := BA7.size; omega)
      have hps : posL y.links FL = posL y.links FL := rfl
      clear hps
      have g2c : w7.cell? ⟨gN, PS * 3 + 2, none⟩ = some (.slice ua y.links.length uc) := u2c
      have hpo := HPO.out
      go_wp2_with fail
      refine HCI.mono ?_
      rintro e w9 ⟨v9, rfl, ho9, hb9, hn9⟩
      clear HCI
      have hgo : ∀ {W : World} {n k : Nat} {ys : List Value} {v' : Value}, W.ownsRow B2 35 k (.slice (some ⟨gN, 0, none⟩) n vc) n ys → W.ownsRow B2 3 1 v' y.links.length (y.links.map encI) → v'.ownBlock ≠ some gN := fun h1 h2 e => own_types h1 h2 (by decide) gN rfl e
      have hN9 : w9.ownsRow B2 35 3 (.slice (some ⟨gN, 0, none⟩) L.length vc) L.length (L.flatMap encG) := ownsRow_keep HO8.out.nodes hb9 (fun j hj e => own_types HO8.out.nodes (World.ownsRow.alloc hou _) (by decide) j hj e)
      have g9c : w9.cell? ⟨gN, PS * 3 + 2, none⟩ = some (.slice ua y.links.length uc) := by
        obtain ⟨g', c', e', _, _, hc'⟩ := own_cells encG_len hN9 (by omega)
        cases e'
        exact hc' PS 2 _ _ HYU.out (by omega) rfl
      have g9f : w9.frozen? ⟨gN, PS * 3 + 2, none⟩ = false := World.ownsRow.frozenAt hN9 _
      obtain ⟨sa, sc, rfl⟩ := slice_of_own ho9
      have hsame : (y.links.map encI).take (pos * 1) ++ [Value.int .i64 FL] ++ (y.links.map encI).drop (pos * 1) = (y.links.take pos ++ [FL] ++ y.links.drop pos).map encI := by simp [encI, List.map_take, List.map_drop]
      rw [hsame] at ho9
      have hll : (y.links.take pos ++ [FL] ++ y.links.drop pos).length = y.links.length + 1 := by simp; omega
      have HS := HO8.out.setRow (W1 := w9) (u' := .slice sa (y.links.length + 1) sc) (ls := y.links.take pos ++ [FL] ++ y.links.drop pos) HYU.out hb9 (by unfold OwnI; rw [hll]; exact ho9) hn9 (fun z hz => by
        rcases List.mem_append.1 hz with hz | hz
        · rcases List.mem_append.1 hz with hz | hz
          · exact HUP.out.2 z (List.mem_of_mem_take hz)
          · simp at hz; subst hz; exact HFI.out
        · exact HUP.out.2 z (List.mem_of_mem_drop hz)) (by omega)
      have HB9 : Hid (But (fun k => (Value.slice ua y.links.length uc).ownBlock = some k ∨ k = gN) w7 (w9.setCell ⟨gN, PS * 3 + 2, none⟩ (.slice sa (y.links.length + 1) sc))) := ((But.of_next BA7).trans (hb9.mono (fun k _ h => .inl h))).setCell _ _ (.inr (.inr rfl))
      obtain ⟨wf, HWF⟩ : ∃ wf, Hid (wf = w9.setCell ⟨gN, PS * 3 + 2, none⟩ (.slice sa (y.links.length + 1) sc)) := ⟨_, rfl⟩
      rw [← HWF.out] at HS HB9
      obtain ⟨r0, r1, r2⟩ := HT6.out
      have hgB : B2 ≤ gN := (World.ownsRow.lt HO6.out.nodes gN rfl).1
      have HUB : Hid (∀ k, (Value.slice ua y.links.length uc).ownBlock = some k → B2 ≤ k) := fun k hk => (World.ownsRow.lt hou k hk).1
      have HMN : Hid (¬ ((Value.slice ua y.links.length uc).ownBlock = some mb ∨ mb = gN)) := by
        have hrow : ∀ {W : World}, W.heap[mb]? = some (Obj.cells #[.slice (some ⟨gN, 0, none⟩) L.length vc] 24) → W.ownsRow 0 24 1 (.slice (some ⟨mb, 0, none⟩) 1 1) 1 [.slice (some ⟨gN, 0, none⟩) L.length vc] := fun h => ⟨rfl, .inr ⟨_, 1, _, rfl, Nat.zero_le _, h, Nat.le_refl _, by unfold maxLen; omega, rfl, rfl⟩⟩
        rintro (h | h)
        · exact own_types hou (hrow m6) (by decide) mb h rfl
        · exact own_types HO6.out.nodes (hrow m6) (by decide) gN rfl (by rw [← h]; rfl)
      have mf := but_blk HB9.out m6 HMN.out
      have mfc : wf.cell? ⟨mb, 0, none⟩ = some (.slice (some ⟨gN, 0, none⟩) L.length vc) := by rw [Lib.cell_of_heap mf]; rfl
      have hlb := HLB.out
      have r1f := but_blk HB9.out r1 (fun h => by
        rcases h with h | h
        · have := HUB.out _ h; omega
        · omega)
      have rc : wf.cell? ⟨w.heap.size + 1, 0, none⟩ = some (.slice none 0 0) := by rw [Lib.cell_of_heap r1f]; rfl
      have rf : wf.frozen? ⟨w.heap.size + 1, 0, none⟩ = false := Lib.frozen_of_heap r1f _
      have z : (wf.setCell ⟨w.heap.size + 1, 0, none⟩ (.slice (some ⟨gN, 0, none⟩) L.length vc)).heap[w.heap.size + 1]? = some (Obj.cells #[.slice (some ⟨gN, 0, none⟩) L.length vc] 24) := by
        have := blk_set (o := 0) r1f (.slice (some ⟨gN, 0, none⟩) L.length vc)
        simpa using this
      have HF : Hid (SlN PL (.slice (some ⟨gN, 0, none⟩) L.length vc) (wf.setCell ⟨w.heap.size + 1, 0, none⟩ (.slice (some ⟨gN, 0, none⟩) L.length vc)) ∧ Below w.heap.size w (wf.setCell ⟨w.heap.size + 1, 0, none⟩ (.slice (some ⟨gN, 0, none⟩) L.length vc))) := by
        refine ⟨?_, (r2.trans (HB9.out.below r2.size (fun k hk => ?_))).setCell (by simp) _⟩
        · have h1 := HS.keep (D := fun k => k = w.heap.size + 1) (W' := wf.setCell ⟨w.heap.size + 1, 0, none⟩ (.slice (some ⟨gN, 0, none⟩) L.length vc)) ((But.refl _ _).setCell _ _ (.inr rfl)) (fun k hk => by omega)
          have h2 := h1.sl (by simp; omega)
          rw [List.map_set, HL6.out] at h2
          rw [HV.out.2.1]
          exact h2
        · rcases hk with h | h
          · have := HUB.out _ h; omega
          · omega
      clear r0 r1 HO6 HT6 HS hou HUP HNW HYB HYU HB9 HO8 ho9 hb9 hn9 hN9 BA7 hvb HNE r2 mf r1f hgo hsame hll m6 m6c g2c u2c HUB HMN
      go_upto_region 14 with fail
      rw [← HWF.out]
      clear g9c g9f
      go_wp2_with fail
      refine bodyPost_ret (results_cell_tt rfl _ _ _ rfl rfl rfl (run_loadVar_row _ _ _ _ _ _ _ z Try.underlying24 rfl (by kernel_rfl))) rfl ?_
      exact ⟨_, by rw [HV.out.1]; rfl, HF.out⟩
  | false =>
    have hfl3 : ¬ (l.length : Int) ≥ 4096 := by have : ¬ 4096 ≤ l.length := fun h => hfull ⟨rfl, h⟩; omega
    clear hfull
    go_wp2_with fail
    refine HCH.mono ?_
    rintro e w2 ⟨rfl, rfl⟩
    clear HCH
    go_wp2_with fail
    refine HC1.mono ?_
    rintro e w2 ⟨rfl, rfl⟩
    clear HC1
    go_wp2_with fail
    refine HC3.mono ?_
    rintro e w2 ⟨rfl, rfl⟩
    clear HC3
    go_wp2_with fail
    refine HCC.mono ?_
    rintro e w4 ⟨v4, L, rfl, hL, hO, hb4⟩
    clear HCC
    have HB4 : Hid (Below w0.heap.size w0 w4) := HBA.out.trans (hb4.mono HBA.out.size)
    have HLL : Hid (L.map Prod.fst = l ∧ L.length = l.length) := ⟨hL, by rw [← hL]; simp⟩
    have hO0 := hO
    obtain ⟨va, vc, rfl⟩ := slice_of_ownK hO.nodes
    obtain ⟨B2, HB2⟩ : ∃ B2, Hid (B2 = (w1.alloc (Obj.cells #[.slice (some ⟨b2, o2, none⟩) l.length lc] 24)).heap.size) := ⟨_, rfl⟩
    rw [← HB2.out] at hO
    have hBz : w0.heap.size ≤ B2 := by rw [HB2.out]; exact HBA.out.size
    have hz4 : B2 ≤ w4.heap.size := by rw [HB2.out]; exact hb4.size
    have BA4 : Below w4.heap.size w4 (w4.alloc (Obj.cells #[.slice va L.length vc] 24)) := (Below.refl _ _).alloc (Nat.le_refl _) _
    have HO5 : Hid (OwnS B2 L (.slice va L.length vc) (w4.alloc (Obj.cells #[.slice va L.length vc] 24))) := hO.next BA4
    have m5 : (w4.alloc (Obj.cells #[.slice va L.length vc] 24)).heap[w4.heap.size]? = some (Obj.cells #[.slice va L.length vc] 24) := heap_alloc_new _ _
    have HB5 : Hid (Below w0.heap.size w0 (w4.alloc (Obj.cells #[.slice va L.length vc] 24))) := HB4.out.trans (BA4.mono HB4.out.size)
    have hs5 : (w4.alloc (Obj.cells #[.slice va L.length vc] 24)).heap.size = w4.heap.size + 1 := by simp
    obtain ⟨mb, hmb⟩ : ∃ mb, mb = w4.heap.size := ⟨_, rfl⟩
    have hmB : B2 ≤ mb := by omega
    clear hO hO0 hb4 hL HBA c1 q1 HB4 c0
    have HLB : Hid (w.heap.size + 1 < B2) := by have := blk_lt (HT.out w0 (Below.refl _ _)).2.1; show _ < _; omega
    have HCO := opened_any B2 L (.slice va L.length vc) PS ⟨st, pl, []⟩ (w4.alloc (Obj.cells #[.slice va L.length vc] 24)) HO5.out (by omega) (by rw [HLL.out.2]; exact HPS.out) (by rw [HLL.out.2]; omega) rfl (by have := HNN.out.1; unfold numB at this; simp at this; unfold i64B; simp only; omega) (by have := HNN.out.2; unfold numB at this; simp at this; unfold i64B; simp only; omega) (fun p hp y hy => by
      have hp1 : p.1 ∈ l := by rw [← HLL.out.1]; exact List.mem_map_of_mem hp
      have := HFT.out.links p.1 hp1 y hy
      omega)
    go_wp2_with fail
    refine HCO.mono ?_
    rintro e w5 ⟨v6, L6, rfl, hL6, hO6, hb6⟩
    clear HCO
    rw [← hmb] at m5 hs5 ⊢
    have hmz : (Value.slice va L.length vc).ownBlock ≠ some mb := fun e => own_types HO5.out.nodes (own1_of m5) (by decide) mb e rfl
    have m5' : w5.heap[mb]? = some (Obj.cells #[.slice va L.length vc] 24) := but_blk hb6 m5 (fun h => by
      rcases h with ⟨p, hp, h⟩ | h
      · exact own_types (HO5.out.links p hp).own (own1_of m5) (by decide) mb h rfl
      · exact hmz h)
    have HBX : Hid (∀ k, ((∃ p ∈ L, p.2.ownBlock = some k) ∨ (Value.slice va L.length vc).ownBlock = some k) → B2 ≤ k) := fun k h => by
      rcases h with ⟨p, hp, h⟩ | h
      · exact (World.ownsRow.lt (HO5.out.links p hp).own k h).1
      · exact (World.ownsRow.lt HO5.out.nodes k h).1
    have HB6 : Hid (Below w0.heap.size w0 w5) := HB5.out.trans (hb6.below HB5.out.size (fun k hk => by have := HBX.out k hk; omega))
    have HB7 : Hid (Below w0.heap.size w0 (w5.setCell ⟨mb, 0, none⟩ v6)) := HB6.out.setCell (by simp only; omega) _
    have HT7 : Hid (_ ∧ _ ∧ _) := ⟨(HT.out _ HB7.out).1, (HT.out _ HB7.out).2.1, (HT.out _ HB7.out).2.2.2⟩
    have m7 : (w5.setCell ⟨mb, 0, none⟩ v6).heap[mb]? = some (Obj.cells #[v6] 24) := by
      have := blk_set (o := 0) m5' v6
      simpa using this
    have HO7 : Hid (OwnS B2 L6 v6 (w5.setCell ⟨mb, 0, none⟩ v6)) := hO6.keepG m5' ((But.refl _ _).setCell _ _ (.inr rfl))
    have c5 : w5.cell? ⟨mb, 0, none⟩ = some (.slice va L.length vc) := by rw [Lib.cell_of_heap m5']; rfl
    have f5 : w5.frozen? ⟨mb, 0, none⟩ = false := Lib.frozen_of_heap m5' _
    have hz7 : B2 ≤ w5.heap.size := by have := hb6.size; omega
    obtain ⟨va6, vc6, rfl⟩ := slice_of_ownK hO6.nodes
    have HPL : Hid (PS < L6.length) := by
      have := congrArg List.length hL6
      rw [HLL.out.1, List.length_map, openG_len HPS.out] at this
      show _ < _; have := HPS.out; omega
    have HL5 : Hid (L6.length ≤ 5000) := by
      have := congrArg List.length hL6
      rw [HLL.out.1, List.length_map, openG_len HPS.out] at this
      show _ ≤ _; omega
    have HL6 : Hid (L6.map Prod.fst = BL) := by show _ = _; rw [hL6, HLL.out.1, (HBF.out trivial).1]
    have HYE : Hid (∀ y, BL[PS]? = some y → y = ⟨st, pl, []⟩) := fun y hy => by
      rw [(HBF.out trivial).1, openG_at HPS.out] at hy
      exact (Option.some.inj hy).symm
    have HYL : Hid (∀ y, BL[PS]? = some y → y.links.length ≤ 4096) := fun y hy => by rw [HYE.out y hy]; simp
    have HYP : Hid (∀ y, BL[PS]? = some y → UpL y.links) := fun y hy => by rw [HYE.out y hy]; exact List.Pairwise.nil
    have HFF : Hid (FL = inc1 PS j) := (HBF.out trivial).2
    obtain ⟨w6, HW6⟩ : ∃ w6, Hid (w6 = w5.setCell ⟨mb, 0, none⟩ (.slice va6 L6.length vc6)) := ⟨_, rfl⟩
    rw [← HW6.out] at HB7 HT7 m7 HO7
    have HO6 : Hid (OwnS B2 L6 (.slice va6 L6.length vc6) w6) := HO7
    have m6 := m7
    have HT6 := HT7
    have HZ6 : Hid (B2 ≤ w6.heap.size) := by rw [HW6.out]; show _ ≤ _; simpa using hz7
    clear HO5 m5 HB5 BA4 hmb HBT HBF HTL HLL HFT hz4 hs5 hO6 hb6 m5' hL6 HBX HB6 HO7 m7 HT7 HYE HB7 hz7 hmz
    by_cases hjp : (j : Int) ≥ PS
    · have djp : decide ((j : Int) ≥ PS) = true := decide_eq_true hjp
      have HFJ : Hid (FL = (j : Int) + 1) := by show _ = _; rw [HFF.out]; unfold inc1; rw [if_pos hjp]
      have HFI : Hid (i64B FL) := by show i64B _; rw [HFJ.out]; unfold i64B; omega
      go_upto_region 10 with fail
      rw [← HW6.out, ← HFJ.out]
      clear c5 f5 hjp djp
      obtain ⟨yu, HYU⟩ : ∃ yu, Hid (L6[PS]? = some yu) := ⟨L6[PS]'HPL.out, List.getElem?_eq_getElem HPL.out⟩
      obtain ⟨y, u⟩ := yu
      have HYB : Hid (BL[PS]? = some y) := by show _ = _; rw [← HL6.out, List.getElem?_map, HYU.out]; rfl
      have hym := List.mem_of_getElem? HYU.out
      obtain ⟨gN, cNN, e6, hgN, _, hcell⟩ := own_cells encG_len HO6.out.nodes (by have := HPL.out; omega)
      cases e6
      have u2c := hcell PS 2 _ _ HYU.out (by omega) rfl
      have hyl : y.links.length ≤ 4096 := HYL.out y HYB.out
      have HUP : Hid (UpL y.links ∧ (∀ z ∈ y.links, i64B z)) := ⟨HYP.out y HYB.out, (HO6.out.ok _ hym).2.2.1⟩
      have HBN := bin_any y.links u FL w6 ((HO6.out.links _ hym).sl HUP.out.2) HUP.out.1 (by omega)
      have hou := (HO6.out.links _ hym).own
      simp only at hou u2c
      obtain ⟨ua, uc, rfl⟩ := slice_of_own (show w6.ownsRow B2 3 1 u y.links.length (y.links.map encI) from hou)
      have m6c : w6.cell? ⟨mb, 0, none⟩ = some (.slice (some ⟨gN, 0, none⟩) L6.length vc6) := by rw [Lib.cell_of_heap m6]; rfl
      have hp6 : PS < L6.length := HPL.out
      have hl6 : L6.length ≤ 5000 := HL5.out
      clear hcell
      go_wp2_with fail
      refine HBN.mono ?_
      rintro e w7 ⟨rfl, rfl⟩
      clear HBN
      cases hat : isAt y.links FL with
      | true =>
        have HV : Hid (NB = false ∧ PL = BL) := by
          obtain ⟨e1, e2⟩ := HNW.out y HYB.out
          refine ⟨by rw [e1, hat]; rfl, ?_⟩
          rw [e2, putL_pos, hat, if_pos rfl]
          exact set_same HYB.out
        obtain ⟨r0, r1, _, _⟩ := HT6.out
        have rc : w7.cell? ⟨w.heap.size + 1, 0, none⟩ = some (.slice none 0 0) := by rw [Lib.cell_of_heap r1]; rfl
        have rf : w7.frozen? ⟨w.heap.size + 1, 0, none⟩ = false := Lib.frozen_of_heap r1 _
        have z : (w7.setCell ⟨w.heap.size + 1, 0, none⟩ (.slice (some ⟨gN, 0, none⟩) L6.length vc6)).heap[w.heap.size + 1]? = some (Obj.cells #[.slice (some ⟨gN, 0, none⟩) L6.length vc6] 24) := by
          have := blk_set (o := 0) r1 (.slice (some ⟨gN, 0, none⟩) L6.length vc6)
          simpa using this
        have HF : Hid (SlN PL (.slice (some ⟨gN, 0, none⟩) L6.length vc6) (w7.setCell ⟨w.heap.size + 1, 0, none⟩ (.slice (some ⟨gN, 0, none⟩) L6.length vc6)) ∧ Below w.heap.size w (w7.setCell ⟨w.heap.size + 1, 0, none⟩ (.slice (some ⟨gN, 0, none⟩) L6.length vc6))) := by
          refine ⟨?_, HT6.out.2.2.setCell (by simp) _⟩
          have h1 := HO6.out.keep (D := fun k => k = w.heap.size + 1) (W' := w7.setCell ⟨w.heap.size + 1, 0, none⟩ (.slice (some ⟨gN, 0, none⟩) L6.length vc6)) ((But.refl _ _).setCell _ _ (.inr rfl)) (fun k hk => by have := HLB.out; omega)
          have h2 := h1.sl (by omega)
          rw [HL6.out] at h2
          rw [HV.out.2]
          exact h2
        clear r0 r1 HO6 HT6 hou HUP HNW HYB HYU
        go_wp2_with fail
        refine bodyPost_ret (results_cell_tt rfl _ _ _ rfl rfl rfl (run_loadVar_row _ _ _ _ _ _ _ z Try.underlying24 rfl (by kernel_rfl))) rfl ?_
        exact ⟨_, by rw [HV.out.1]; rfl, HF.out⟩
      | false =>
        have HV : Hid (NB = true ∧ PL = BL.set PS ⟨y.st, y.pl, y.links.take (posL y.links FL) ++ [FL] ++ y.links.drop (posL y.links FL)⟩ ∧ putL FL y.links = y.links.take (posL y.links FL) ++ [FL] ++ y.links.drop (posL y.links FL)) := by
          obtain ⟨e1, e2⟩ := HNW.out y HYB.out
          have e3 : putL FL y.links = y.links.take (posL y.links FL) ++ [FL] ++ y.links.drop (posL y.links FL) := by rw [putL_pos, hat]; rfl
          exact ⟨by rw [e1, hat]; rfl, by rw [e2, e3], e3⟩
        have HPO : Hid (posL y.links FL ≤ y.links.length) := posL_le _ _
        generalize posL y.links FL = pos at *
        have BA7 : Below w7.heap.size w7 (w7.alloc (Obj.cells #[.int .i64 FL] 3)) := (Below.refl _ _).alloc (Nat.le_refl _) _
        have hvb : (w7.alloc (Obj.cells #[.int .i64 FL] 3)).heap[w7.heap.size]? = some (.cells [Value.int .i64 FL].toArray 3 (0, 0)) := heap_alloc_new _ _
        have HO8 : Hid (OwnS B2 L6 (.slice (some ⟨gN, 0, none⟩) L6.length vc6) (w7.alloc (Obj.cells #[.int .i64 FL] 3))) := HO6.out.next BA7
        have HNE : Hid ((Value.slice ua y.links.length uc).ownBlock ≠ some w7.heap.size) := fun e => by
          have := (World.ownsRow.lt hou _ e).2
          omega
        have HCI := insI_any B2 y.links.length pos w7.heap.size (.slice ua y.links.length uc) (y.links.map encI) [.int .i64 FL] (w7.alloc (Obj.cells #[.int .i64 FL] 3)) (World.ownsRow.alloc hou _) HPO.out rfl hvb HNE.out (by omega) (one_row _) (fun u hu => by simp at hu; subst hu; rfl) (by have := HZ6.out; have := BA7.size; omega)
        have hps : posL y.links FL = posL y.links FL := rfl
        clear hps
        have g2c : w7.cell? ⟨gN, PS * 3 + 2, none⟩ = some (.slice ua y.links.length uc) := u2c
        have hpo := HPO.out
        go_wp2_with fail
        refine HCI.mono ?_
        rintro e w9 ⟨v9, rfl, ho9, hb9, hn9⟩
        clear HCI
        have hgo : ∀ {W : World} {n k : Nat} {ys : List Value} {v' : Value}, W.ownsRow B2 35 k (.slice (some ⟨gN, 0, none⟩) n vc6) n ys → W.ownsRow B2 3 1 v' y.links.length (y.links.map encI) → v'.ownBlock ≠ some gN := fun h1 h2 e => own_types h1 h2 (by decide) gN rfl e
        have hN9 : w9.ownsRow B2 35 3 (.slice (some ⟨gN, 0, none⟩) L6.length vc6) L6.length (L6.flatMap encG) := ownsRow_keep HO8.out.nodes hb9 (fun j hj e => own_types HO8.out.nodes (World.ownsRow.alloc hou _) (by decide) j hj e)
        have g9c : w9.cell? ⟨gN, PS * 3 + 2, none⟩ = some (.slice ua y.links.length uc) := by
          obtain ⟨g', c', e', _, _, hc'⟩ := own_cells encG_len hN9 (by omega)
          cases e'
          exact hc' PS 2 _ _ HYU.out (by omega) rfl
        have g9f : w9.frozen? ⟨gN, PS * 3 + 2, none⟩ = false := World.ownsRow.frozenAt hN9 _
        obtain ⟨sa, sc, rfl⟩ := slice_of_own ho9
        have hsame : (y.links.map encI).take (pos * 1) ++ [Value.int .i64 FL] ++ (y.links.map encI).drop (pos * 1) = (y.links.take pos ++ [FL] ++ y.links.drop pos).map encI := by simp [encI, List.map_take, List.map_drop]
        rw [hsame] at ho9
        have hll : (y.links.take pos ++ [FL] ++ y.links.drop pos).length = y.links.length + 1 := by simp; omega
        have HS := HO8.out.setRow (W1 := w9) (u' := .slice sa (y.links.length + 1) sc) (ls := y.links.take pos ++ [FL] ++ y.links.drop pos) HYU.out hb9 (by unfold OwnI; rw [hll]; exact ho9) hn9 (fun z hz => by
          rcases List.mem_append.1 hz with hz | hz
          · rcases List.mem_append.1 hz with hz | hz
            · exact HUP.out.2 z (List.mem_of_mem_take hz)
            · simp at hz; subst hz; exact HFI.out
          · exact HUP.out.2 z (List.mem_of_mem_drop hz)) (by omega)
        have HB9 : Hid (But (fun k => (Value.slice ua y.links.length uc).ownBlock = some k ∨ k = gN) w7 (w9.setCell ⟨gN, PS * 3 + 2, none⟩ (.slice sa (y.links.length + 1) sc))) := ((But.of_next BA7).trans (hb9.mono (fun k _ h => .inl h))).setCell _ _ (.inr (.inr rfl))
        obtain ⟨wf, HWF⟩ : ∃ wf, Hid (wf = w9.setCell ⟨gN, PS * 3 + 2, none⟩ (.slice sa (y.links.length + 1) sc)) := ⟨_, rfl⟩
        rw [← HWF.out] at HS HB9
        obtain ⟨r0, r1, r2⟩ := HT6.out
        have hgB : B2 ≤ gN := (World.ownsRow.lt HO6.out.nodes gN rfl).1
        have HUB : Hid (∀ k, (Value.slice ua y.links.length uc).ownBlock = some k → B2 ≤ k) := fun k hk => (World.ownsRow.lt hou k hk).1
        have HMN : Hid (¬ ((Value.slice ua y.links.length uc).ownBlock = some mb ∨ mb = gN)) := by
          have hrow : ∀ {W : World}, W.heap[mb]? = some (Obj.cells #[.slice (some ⟨gN, 0, none⟩) L6.length vc6] 24) → W.ownsRow 0 24 1 (.slice (some ⟨mb, 0, none⟩) 1 1) 1 [.slice (some ⟨gN, 0, none⟩) L6.length vc6] := fun h => ⟨rfl, .inr ⟨_, 1, _, rfl, Nat.zero_le _, h, Nat.le_refl _, by unfold maxLen; omega, rfl, rfl⟩⟩
          rintro (h | h)
          · exact own_types hou (hrow m6) (by decide) mb h rfl
          · exact own_types HO6.out.nodes (hrow m6) (by decide) gN rfl (by rw [← h]; rfl)
        have mf := but_blk HB9.out m6 HMN.out
        have mfc : wf.cell? ⟨mb, 0, none⟩ = some (.slice (some ⟨gN, 0, none⟩) L6.length vc6) := by rw [Lib.cell_of_heap mf]; rfl
        have hlb := HLB.out
        have r1f := but_blk HB9.out r1 (fun h => by
          rcases h with h | h
          · have := HUB.out _ h; omega
          · omega)
        have rc : wf.cell? ⟨w.heap.size + 1, 0, none⟩ = some (.slice none 0 0) := by rw [Lib.cell_of_heap r1f]; rfl
        have rf : wf.frozen? ⟨w.heap.size + 1, 0, none⟩ = false := Lib.frozen_of_heap r1f _
        have z : (wf.setCell ⟨w.heap.size + 1, 0, none⟩ (.slice (some ⟨gN, 0, none⟩) L6.length vc6)).heap[w.heap.size + 1]? = some (Obj.cells #[.slice (some ⟨gN, 0, none⟩) L6.length vc6] 24) := by
          have := blk_set (o := 0) r1f (.slice (some ⟨gN, 0, none⟩) L6.length vc6)
          simpa using this
        have HF : Hid (SlN PL (.slice (some ⟨gN, 0, none⟩) L6.length vc6) (wf.setCell ⟨w.heap.size + 1, 0, none⟩ (.slice (some ⟨gN, 0, none⟩) L6.length vc6)) ∧ Below w.heap.size w (wf.setCell ⟨w.heap.size + 1, 0, none⟩ (.slice (some ⟨gN, 0, none⟩) L6.length vc6))) := by
          refine ⟨?_, (r2.trans (HB9.out.below r2.size (fun k hk => ?_))).setCell (by simp) _⟩
          · have h1 := HS.keep (D := fun k => k = w.heap.size + 1) (W' := wf.setCell ⟨w.heap.size + 1, 0, none⟩ (.slice (some ⟨gN, 0, none⟩) L6.length vc6)) ((But.refl _ _).setCell _ _ (.inr rfl)) (fun k hk => by omega)
            have h2 := h1.sl (by simp; omega)
            rw [List.map_set, HL6.out] at h2
            rw [HV.out.2.1]
            exact h2
          · rcases hk with h | h
            · have := HUB.out _ h; omega
            · omega
        clear r0 r1 HO6 HT6 HS hou HUP HNW HYB HYU HB9 HO8 ho9 hb9 hn9 hN9 BA7 hvb HNE r2 mf r1f hgo hsame hll m6 m6c g2c u2c HUB HMN
        go_upto_region 14 with fail
        rw [← HWF.out]
        clear g9c g9f
        go_wp2_with fail
        refine bodyPost_ret (results_cell_tt rfl _ _ _ rfl rfl rfl (run_loadVar_row _ _ _ _ _ _ _ z Try.underlying24 rfl (by kernel_rfl))) rfl ?_
        exact ⟨_, by rw [HV.out.1]; rfl, HF.out⟩
    · have djp : decide ((j : Int) ≥ PS) = false := decide_eq_false hjp
      have HFJ : Hid (FL = (j : Int)) := by show _ = _; rw [HFF.out]; unfold inc1; rw [if_neg hjp]
      have HFI : Hid (i64B FL) := by show i64B _; rw [HFJ.out]; unfold i64B; omega
      go_upto_region 10 with fail
      rw [← HW6.out, ← HFJ.out]
      clear c5 f5 hjp djp
      obtain ⟨yu, HYU⟩ : ∃ yu, Hid (L6[PS]? = some yu) := ⟨L6[PS]'HPL.out, List.getElem?_eq_getElem HPL.out⟩
      obtain ⟨y, u⟩ := yu
      have HYB : Hid (BL[PS]? = some y) := by show _ = _; rw [← HL6.out, List.getElem?_map, HYU.out]; rfl
      have hym := List.mem_of_getElem? HYU.out
      obtain ⟨gN, cNN, e6, hgN, _, hcell⟩ := own_cells encG_len HO6.out.nodes (by have := HPL.out; omega)
      cases e6
      have u2c := hcell PS 2 _ _ HYU.out (by omega) rfl
      have hyl : y.links.length ≤ 4096 := HYL.out y HYB.out
      have HUP : Hid (UpL y.links ∧ (∀ z ∈ y.links, i64B z)) := ⟨HYP.out y HYB.out, (HO6.out.ok _ hym).2.2.1⟩
      have HBN := bin_any y.links u FL w6 ((HO6.out.links _ hym).sl HUP.out.2) HUP.out.1 (by omega)
      have hou := (HO6.out.links _ hym).own
      simp only at hou u2c
      obtain ⟨ua, uc, rfl⟩ := slice_of_own (show w6.ownsRow B2 3 1 u y.links.length (y.links.map encI) from hou)
      have m6c : w6.cell? ⟨mb, 0, none⟩ = some (.slice (some ⟨gN, 0, none⟩) L6.length vc6) := by rw [Lib.cell_of_heap m6]; rfl
      have hp6 : PS < L6.length := HPL.out
      have hl6 : L6.length ≤ 5000 := HL5.out
      clear hcell
      go_wp2_with fail
      refine HBN.mono ?_
      rintro e w7 ⟨rfl, rfl⟩
      clear HBN
      cases hat : isAt y.links FL with
      | true =>
        have HV : Hid (NB = false ∧ PL = BL) := by
          obtain ⟨e1, e2⟩ := HNW.out y HYB.out
          refine ⟨by rw [e1, hat]; rfl, ?_⟩
          rw [e2, putL_pos, hat, if_pos rfl]
          exact set_same HYB.out
        obtain ⟨r0, r1, _, _⟩ := HT6.out
        have rc : w7.cell? ⟨w.heap.size + 1, 0, none⟩ = some (.slice none 0 0) := by rw [Lib.cell_of_heap r1]; rfl
        have rf : w7.frozen? ⟨w.heap.size + 1, 0, none⟩ = false := Lib.frozen_of_heap r1 _
        have z : (w7.setCell ⟨w.heap.size + 1, 0, none⟩ (.slice (some ⟨gN, 0, none⟩) L6.length vc6)).heap[w.heap.size + 1]? = some (Obj.cells #[.slice (some ⟨gN, 0, none⟩) L6.length vc6] 24) := by
          have := blk_set (o := 0) r1 (.slice (some ⟨gN, 0, none⟩) L6.length vc6)
          simpa using this
        have HF : Hid (SlN PL (.slice (some ⟨gN, 0, none⟩) L6.length vc6) (w7.setCell ⟨w.heap.size + 1, 0, none⟩ (.slice (some ⟨gN, 0, none⟩) L6.length vc6)) ∧ Below w.heap.size w (w7.setCell ⟨w.heap.size + 1, 0, none⟩ (.slice (some ⟨gN, 0, none⟩) L6.length vc6))) := by
          refine ⟨?_, HT6.out.2.2.setCell (by simp) _⟩
          have h1 := HO6.out.keep (D := fun k => k = w.heap.size + 1) (W' := w7.setCell ⟨w.heap.size + 1, 0, none⟩ (.slice (some ⟨gN, 0, none⟩) L6.length vc6)) ((But.refl _ _).setCell _ _ (.inr rfl)) (fun k hk => by have := HLB.out; omega)
          have h2 := h1.sl (by omega)
          rw [HL6.out] at h2
          rw [HV.out.2]
          exact h2
        clear r0 r1 HO6 HT6 hou HUP HNW HYB HYU
        go_wp2_with fail
        refine bodyPost_ret (results_cell_tt rfl _ _ _ rfl rfl rfl (run_loadVar_row _ _ _ _ _ _ _ z Try.underlying24 rfl (by kernel_rfl))) rfl ?_
        exact ⟨_, by rw [HV.out.1]; rfl, HF.out⟩
      | false =>
        have HV : Hid (NB = true ∧ PL = BL.set PS ⟨y.st, y.pl, y.links.take (posL y.links FL) ++ [FL] ++ y.links.drop (posL y.links FL)⟩ ∧ putL FL y.links = y.links.take (posL y.links FL) ++ [FL] ++ y.links.drop (posL y.links FL)) := by
          obtain ⟨e1, e2⟩ := HNW.out y HYB.out
          have e3 : putL FL y.links = y.links.take (posL y.links FL) ++ [FL] ++ y.links.drop (posL y.links FL) := by rw [putL_pos, hat]; rfl
          exact ⟨by rw [e1, hat]; rfl, by rw [e2, e3], e3⟩
        have HPO : Hid (posL y.links FL ≤ y.links.length) := posL_le _ _
        generalize posL y.links FL = pos at *
        have BA7 : Below w7.heap.size w7 (w7.alloc (Obj.cells #[.int .i64 FL] 3)) := (Below.refl _ _).alloc (Nat.le_refl _) _
        have hvb : (w7.alloc (Obj.cells #[.int .i64 FL] 3)).heap[w7.heap.size]? = some (.cells [Value.int .i64 FL].toArray 3 (0, 0)) := heap_alloc_new _ _
        have HO8 : Hid (OwnS B2 L6 (.slice (some ⟨gN, 0, none⟩) L6.length vc6) (w7.alloc (Obj.cells #[.int .i64 FL] 3))) := HO6.out.next BA7
        have HNE : Hid ((Value.slice ua y.links.length uc).ownBlock ≠ some w7.heap.size) := fun e => by
          have := (World.ownsRow.lt hou _ e).2
          omega
        have HCI := insI_any B2 y.links.length pos w7.heap.size (.slice ua y.links.length uc) (y.links.map encI) [.int .i64 FL] (w7.alloc (Obj.cells #[.int .i64 FL] 3)) (World.ownsRow.alloc hou _) HPO.out rfl hvb HNE.out (by omega) (one_row _) (fun u hu => by simp at hu; subst hu; rfl) (by have := HZ6.out; have := BA7.size; omega)
        have hps : posL y.links FL = posL y.links FL := rfl
        clear hps
        have g2c : w7.cell? ⟨gN, PS * 3 + 2, none⟩ = some (.slice ua y.links.length uc) := u2c
        have hpo := HPO.out
        go_wp2_with fail
        refine HCI.mono ?_
        rintro e w9 ⟨v9, rfl, ho9, hb9, hn9⟩
        clear HCI
        have hgo : ∀ {W : World} {n k : Nat} {ys : List Value} {v' : Value}, W.ownsRow B2 35 k (.slice (some ⟨gN, 0, none⟩) n vc6) n ys → W.ownsRow B2 3 1 v' y.links.length (y.links.map encI) → v'.ownBlock ≠ some gN := fun h1 h2 e => own_types h1 h2 (by decide) gN rfl e
        have hN9 : w9.ownsRow B2 35 3 (.slice (some ⟨gN, 0, none⟩) L6.length vc6) L6.length (L6.flatMap encG) := ownsRow_keep HO8.out.nodes hb9 (fun j hj e => own_types HO8.out.nodes (World.ownsRow.alloc hou _) (by decide) j hj e)
        have g9c : w9.cell? ⟨gN, PS * 3 + 2, none⟩ = some (.slice ua y.links.length uc) := by
          obtain ⟨g', c', e', _, _, hc'⟩ := own_cells encG_len hN9 (by omega)
          cases e'
          exact hc' PS 2 _ _ HYU.out (by omega) rfl
        have g9f : w9.frozen? ⟨gN, PS * 3 + 2, none⟩ = false := World.ownsRow.frozenAt hN9 _
        obtain ⟨sa, sc, rfl⟩ := slice_of_own ho9
        have hsame : (y.links.map encI).take (pos * 1) ++ [Value.int .i64 FL] ++ (y.links.map encI).drop (pos * 1) = (y.links.take pos ++ [FL] ++ y.links.drop pos).map encI := by simp [encI, List.map_take, List.map_drop]
        rw [hsame] at ho9
        have hll : (y.links.take pos ++ [FL] ++ y.links.drop pos).length = y.links.length + 1 := by simp; omega
        have HS := HO8.out.setRow (W1 := w9) (u' := .slice sa (y.links.length + 1) sc) (ls := y.links.take pos ++ [FL] ++ y.links.drop pos) HYU.out hb9 (by unfold OwnI; rw [hll]; exact ho9) hn9 (fun z hz => by
          rcases List.mem_append.1 hz with hz | hz
          · rcases List.mem_append.1 hz with hz | hz
            · exact HUP.out.2 z (List.mem_of_mem_take hz)
            · simp at hz; subst hz; exact HFI.out
          · exact HUP.out.2 z (List.mem_of_mem_drop hz)) (by omega)
        have HB9 : Hid (But (fun k => (Value.slice ua y.links.length uc).ownBlock = some k ∨ k = gN) w7 (w9.setCell ⟨gN, PS * 3 + 2, none⟩ (.slice sa (y.links.length + 1) sc))) := ((But.of_next BA7).trans (hb9.mono (fun k _ h => .inl h))).setCell _ _ (.inr (.inr rfl))
        obtain ⟨wf, HWF⟩ : ∃ wf, Hid (wf = w9.setCell ⟨gN, PS * 3 + 2, none⟩ (.slice sa (y.links.length + 1) sc)) := ⟨_, rfl⟩
        rw [← HWF.out] at HS HB9
        obtain ⟨r0, r1, r2⟩ := HT6.out
        have hgB : B2 ≤ gN := (World.ownsRow.lt HO6.out.nodes gN rfl).1
        have HUB : Hid (∀ k, (Value.slice ua y.links.length uc).ownBlock = some k → B2 ≤ k) := fun k hk => (World.ownsRow.lt hou k hk).1
        have HMN : Hid (¬ ((Value.slice ua y.links.length uc).ownBlock = some mb ∨ mb = gN)) := by
          have hrow : ∀ {W : World}, W.heap[mb]? = some (Obj.cells #[.slice (some ⟨gN, 0, none⟩) L6.length vc6] 24) → W.ownsRow 0 24 1 (.slice (some ⟨mb, 0, none⟩) 1 1) 1 [.slice (some ⟨gN, 0, none⟩) L6.length vc6] := fun h => ⟨rfl, .inr ⟨_, 1, _, rfl, Nat.zero_le _, h, Nat.le_refl _, by unfold maxLen; omega, rfl, rfl⟩⟩
          rintro (h | h)
          · exact own_types hou (hrow m6) (by decide) mb h rfl
          · exact own_types HO6.out.nodes (hrow m6) (by decide) gN rfl (by rw [← h]; rfl)
        have mf := but_blk HB9.out m6 HMN.out
        have mfc : wf.cell? ⟨mb, 0, none⟩ = some (.slice (some ⟨gN, 0, none⟩) L6.length vc6) := by rw [Lib.cell_of_heap mf]; rfl
        have hlb := HLB.out
        have r1f := but_blk HB9.out r1 (fun h => by
          rcases h with h | h
          · have := HUB.out _ h; omega
          · omega)
        have rc : wf.cell? ⟨w.heap.size + 1, 0, none⟩ = some (.slice none 0 0) := by rw [Lib.cell_of_heap r1f]; rfl
        have rf : wf.frozen? ⟨w.heap.size + 1, 0, none⟩ = false := Lib.frozen_of_heap r1f _
        have z : (wf.setCell ⟨w.heap.size + 1, 0, none⟩ (.slice (some ⟨gN, 0, none⟩) L6.length vc6)).heap[w.heap.size + 1]? = some (Obj.cells #[.slice (some ⟨gN, 0, none⟩) L6.length vc6] 24) := by
          have := blk_set (o := 0) r1f (.slice (some ⟨gN, 0, none⟩) L6.length vc6)
          simpa using this
        have HF : Hid (SlN PL (.slice (some ⟨gN, 0, none⟩) L6.length vc6) (wf.setCell ⟨w.heap.size + 1, 0, none⟩ (.slice (some ⟨gN, 0, none⟩) L6.length vc6)) ∧ Below w.heap.size w (wf.setCell ⟨w.heap.size + 1, 0, none⟩ (.slice (some ⟨gN, 0, none⟩) L6.length vc6))) := by
          refine ⟨?_, (r2.trans (HB9.out.below r2.size (fun k hk => ?_))).setCell (by simp) _⟩
          · have h1 := HS.keep (D := fun k => k = w.heap.size + 1) (W' := wf.setCell ⟨w.heap.size + 1, 0, none⟩ (.slice (some ⟨gN, 0, none⟩) L6.length vc6)) ((But.refl _ _).setCell _ _ (.inr rfl)) (fun k hk => by omega)
            have h2 := h1.sl (by simp; omega)
            rw [List.map_set, HL6.out] at h2
            rw [HV.out.2.1]
            exact h2
          · rcases hk with h | h
            · have := HUB.out _ h; omega
            · omega
        clear r0 r1 HO6 HT6 HS hou HUP HNW HYB HYU HB9 HO8 ho9 hb9 hn9 hN9 BA7 hvb HNE r2 mf r1f hgo hsame hll m6 m6c g2c u2c HUB HMN
        go_upto_region 14 with fail
        rw [← HWF.out]
        clear g9c g9f
        go_wp2_with fail
        refine bodyPost_ret (results_cell_tt rfl _ _ _ rfl rfl rfl (run_loadVar_row _ _ _ _ _ _ _ z Try.underlying24 rfl (by kernel_rfl))) rfl ?_
        exact ⟨_, by rw [HV.out.1]; rfl, HF.out⟩
end Go.Proofs.Ytjpbfckdiojghaa
