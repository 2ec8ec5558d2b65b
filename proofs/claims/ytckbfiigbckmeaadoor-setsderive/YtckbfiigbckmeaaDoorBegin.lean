/- begin of the program: First of items joined into a set. -/
import Derived.Test.YtckbfiigbckmeaaDoorNewSets
import Derived.Test.YtckbfiigbckmeaaDoorDerived
import Derived.Deep.RegionHeld3
import Derived.Deep.LoopGhost
namespace Go.Proofs.YtckbfiigbckmeaaDoor
open Go.RowKit

/-- A view: the grammar, which symbols can be empty, their sets. -/
structure VAt (f : Fl) (a : FlA) (V E G : Nat) (W : World) : Prop where
  c0 : W.cell? ⟨V, 0, none⟩ = some (.slice a.ta f.terms.length a.tc)
  c1 : W.cell? ⟨V, 1, none⟩ = some (.slice a.na f.nons.length a.nc)
  c2 : W.cell? ⟨V, 2, none⟩ = some (.slice a.pa f.prods.length a.pc)
  c3 : W.cell? ⟨V, 3, none⟩ = some (.slice (some ⟨E, 0, none⟩) f.n f.n)
  c4 : W.cell? ⟨V, 4, none⟩ = some (.slice (some ⟨G, 0, none⟩) f.n f.n)
theorem VAt.lt {f a V E G W} (h : VAt f a V E G W) : V < W.heap.size := World.block_lt_of_cell? W _ h.c0
theorem VAt.but {f a V E G W W'} {D : Nat → Prop} (h : VAt f a V E G W) (hb : But D W W') (hd : ¬ D V) : VAt f a V E G W' := by
  have e : ∀ {o v}, W.cell? ⟨V, o, none⟩ = some v → W'.cell? ⟨V, o, none⟩ = some v := fun {o v} hv => (hb.cell (p := ⟨V, o, none⟩) h.lt hd).trans hv
  exact ⟨e h.c0, e h.c1, e h.c2, e h.c3, e h.c4⟩
theorem SetsB.lt {G m bs R W} (h : SetsB G m bs R W) : G < W.heap.size := (Array.getElem?_eq_some_iff.1 h.row).1
theorem SetsB.cell {G m bs R W} (h : SetsB G m bs R W) {s : Nat} (hs : s < R.length) : W.cell? ⟨G, s, none⟩ = some (.slice (some ⟨bs.getD s 0, 0, none⟩) m m) := by
  have hl : s < bs.length := by rw [h.len]; exact hs
  refine block_cell h.row ?_
  rw [List.getElem?_map, List.getElem?_eq_getElem hl, List.getD_eq_getElem?_getD, List.getElem?_eq_getElem hl]
  rfl
theorem SetsB.mem {G m bs R W} (h : SetsB G m bs R W) {s : Nat} (hs : s < R.length) : bs.getD s 0 ∈ bs := by
  have hl : s < bs.length := by rw [h.len]; exact hs
  rw [List.getD_eq_getElem?_getD, List.getElem?_eq_getElem hl]
  exact List.getElem_mem hl
theorem SetsB.inj {G m bs R W} (h : SetsB G m bs R W) {s t : Nat} (hs : s < R.length) (ht : t < R.length) (e : bs.getD s 0 = bs.getD t 0) : s = t := by
  have hl : s < bs.length := by rw [h.len]; exact hs
  have hl2 : t < bs.length := by rw [h.len]; exact ht
  rw [List.getD_eq_getElem?_getD, List.getElem?_eq_getElem hl, List.getD_eq_getElem?_getD, List.getElem?_eq_getElem hl2] at e
  exact (List.getElem_inj h.nodup).1 e
/-- Kept where none of its blocks has turned. -/
theorem SetsB.but {G m bs R W W'} {D : Nat → Prop} (h : SetsB G m bs R W) (hb : But D W W') (hG : ¬ D G) (hd : ∀ b ∈ bs, ¬ D b) : SetsB G m bs R W' :=
  ⟨(hb.block G h.lt hG).trans h.row, h.len, h.nodup, h.out, fun s hs => (h.each s hs).but hb (hd _ (h.mem hs))⟩
/-- One set turned. -/
theorem SetsB.turn {G m bs R W W' l A} (h : SetsB G m bs R W) (hl : l < R.length) (hb : But (fun k => k = bs.getD l 0) W W') (hA : SetB (bs.getD l 0) m A W') : SetsB G m bs (R.set l A) W' := by
  refine ⟨(hb.block G h.lt (fun e => h.out (by rw [e]; exact h.mem hl))).trans h.row, by rw [List.length_set]; exact h.len, h.nodup, h.out, fun s hs => ?_⟩
  rw [List.length_set] at hs
  rw [WR_set hl]
  split
  · rename_i e; subst e; exact hA
  · rename_i e; exact (h.each s hs).but hb (fun e' => e (h.inj hs hl e').symm)

set_option maxRecDepth 100000 in
set_option maxHeartbeats 1000000 in
/-- The set at block c is one of the view's (and then `own` tells which), or none of its blocks. -/
theorem begin_any (f : Fl) (a : FlA) (V E G m c : Nat) (bs : List Nat) (R : List (List Nat)) (L : List Bool) (A0 : List Nat) (l : List It) (vl : Value) (w : World) (hn : f.n ≤ 600) (hm : m ≤ 20)
    (hV : VAt f a V E G w) (hE : RowK E f.n L w) (hS : SetsB G m bs R w) (hR : WOk m f.n R) (hA : SetB c m A0 w) (hl : SlT l vl w) (_hll : l.length ≤ 1000)
    (hcV : c ≠ V) (hcE : c ≠ E) (hcG : c ≠ G) (hcl : ∀ (b : Nat) (ao : Addr), vl = .slice (some ao) l.length b → l ≠ [] → ao.block ≠ c) (hown : ∀ s, s < f.n → bs.getD s 0 = c → WR R s = A0) :
    Calls Tryd.prog 35 #[.pointer (some ⟨V, 0, none⟩), .slice (some ⟨c, 0, none⟩) m m, vl] w fun e w' => e = .returned (.tuple #[.bool (begW (WR R) (onb L) A0 (symsN f.n l)).2.1, .bool (begW (WR R) (onb L) A0 (symsN f.n l)).2.2]) ∧ SetB c m (begW (WR R) (onb L) A0 (symsN f.n l)).1 w' ∧ But (fun k => k = c) w w' := by
  obtain ⟨la, lc, rfl, hI, _⟩ := hl
  have hJ := fun W x => isSymbol_any f a x W hn
  obtain ⟨ta, tc, na, nc, pa, pc⟩ := a
  unfold FlA.val at hJ
  simp only at *
  have HJ : Hid (∀ W x, Calls Tryd.prog 58 #[.agg #[Value.slice ta f.terms.length tc, Value.slice na f.nons.length nc, Value.slice pa f.prods.length pc], .int .i64 x] W fun e w' => e = .returned (.bool (decide (0 ≤ x ∧ x < (f.n : Int)))) ∧ Below W.heap.size W w') := hJ
  clear hJ
  have hRl : R.length = f.n := hR.len
  -- what lies in every world that has turned in block c alone
  have HV : Hid (∀ W, But (fun k => k = c) w W → VAt f ⟨ta, tc, na, nc, pa, pc⟩ V E G W) := fun W hb => hV.but hb (fun e => hcV e.symm)
  have HE : Hid (∀ W, But (fun k => k = c) w W → RowK E f.n L W) := fun W hb => hE.but hb (fun e => hcE e.symm)
  have HG : Hid (∀ W, But (fun k => k = c) w W → ∀ s, s < f.n → W.cell? ⟨G, s, none⟩ = some (.slice (some ⟨bs.getD s 0, 0, none⟩) m m)) := fun W hb s hs => (hb.cell (p := ⟨G, s, none⟩) hS.lt (fun e => hcG e.symm)).trans (hS.cell (by rw [hRl]; exact hs))
  have HO : Hid (∀ W, But (fun k => k = c) w W → ∀ s, s < f.n → bs.getD s 0 ≠ c → SetB (bs.getD s 0) m (WR R s) W) := fun W hb s hs hne => (hS.each s (by rw [hRl]; exact hs)).but hb hne
  have HI : Hid (∀ W, But (fun k => k = c) w W → ItsAt l la W) := fun W hb i r hr => by
    obtain ⟨b, off, e0, e1, e2, e3, e4, e5⟩ := hI i r hr
    subst e0
    have hne : b ≠ c := hcl lc ⟨b, off, none⟩ rfl (fun e => by rw [e] at hr; simp at hr)
    exact ⟨b, off, rfl, Nat.lt_of_lt_of_le e1 hb.size, (hb.cell (p := ⟨b, off + i * 3, none⟩) e1 hne).trans e2, (hb.cell (p := ⟨b, off + i * 3 + 1, none⟩) e1 hne).trans e3, (hb.cell (p := ⟨b, off + i * 3 + 2, none⟩) e1 hne).trans e4, e5⟩
  have HOW : Hid (∀ s, s < f.n → bs.getD s 0 = c → WR R s = A0) := hown
  have HWD : Hid (∀ s, s < f.n → Words m (WR R s)) := hR.words
  clear hV hE hS hI hown hcl hR hcV hcE hcG
  obtain ⟨RES, hRES⟩ : ∃ RES, begW (WR R) (onb L) A0 (symsN f.n l) = RES := ⟨_, rfl⟩
  rw [hRES]
  have HRES : Hid (begW (WR R) (onb L) A0 (symsN f.n l) = RES) := hRES
  clear hRES
  have HA0 : Hid (SetB c m A0 w) := hA
  clear hA
  go_enter Tryd.func35, Tryd.ntmps35
  go_wp2_with fail
  go_loopw [6, 12] (fun g i wr => ∃ (j : Nat) (A : List Nat) (gb : Bool), i = .int .i64 j ∧ j ≤ l.length ∧ g = .bool gb ∧ SetB c m A wr ∧ But (fun k => k = c) w wr ∧ (∀ t, t ∈ listW A0 → t ∈ listW A) ∧ RES = ((begW (WR R) (onb L) A (symsN f.n (l.drop j))).1, gb || (begW (WR R) (onb L) A (symsN f.n (l.drop j))).2.1, (begW (WR R) (onb L) A (symsN f.n (l.drop j))).2.2)) (fun _ i _ => l.length - (intOf i).toNat)
  case atStart => exact ⟨0, A0, false, rfl, Nat.zero_le _, rfl, HA0.out, But.refl _ _, fun _ h => h, by rw [List.drop_zero, HRES.out]; simp⟩
  case round =>
  clear HA0 HRES
  obtain ⟨j, A, gb, rfl, hj, rfl, hA, hB, hsub, hres⟩ := hrel
  by_cases hlt : j < l.length
  · obtain ⟨bi, oi, rfl, hbi, i0, i1, i2, si, sf, sa⟩ := (HI.out _ hB).at (Below.refl _ _) hlt
    rw [List.drop_eq_getElem_cons hlt] at hres
    generalize l[j] = it at *
    obtain ⟨x, xf, xa⟩ := it
    simp only at i0 i1 i2 si sf sa
    have hcz : c < wr.heap.size := hA.lt
    have hVz := (HV.out _ hB).lt
    obtain ⟨Wp, hWp⟩ : ∃ Wp, wr.alloc (Obj.cells #[Value.int .i64 x, .string xf, .string xa] 48) = Wp := ⟨_, rfl⟩
    have hbp : Below wr.heap.size wr Wp := by rw [← hWp]; exact (Below.refl _ _).alloc (Nat.le_refl _) _
    have hz : Wp.cell? ⟨wr.heap.size, 0, none⟩ = some (.int .i64 x) := by rw [← hWp]; simp
    have hBp : But (fun k => k = c) w Wp := hB.trans (But.of_next hbp)
    have HAp : Hid (SetB c m A Wp) := hA.but (D := fun _ => False) (But.of_next hbp) (fun h => h)
    have hzz : wr.heap.size < Wp.heap.size := World.block_lt_of_cell? Wp _ hz
    have HRE : Hid (RES = ((begW (WR R) (onb L) A (symsN f.n (⟨x, xf, xa⟩ :: l.drop (j + 1)))).1, gb || (begW (WR R) (onb L) A (symsN f.n (⟨x, xf, xa⟩ :: l.drop (j + 1)))).2.1, (begW (WR R) (onb L) A (symsN f.n (⟨x, xf, xa⟩ :: l.drop (j + 1)))).2.2)) := hres
    have HSU : Hid (∀ t, t ∈ listW A0 → t ∈ listW A) := hsub
    clear hres hsub hA hB hbp
    go_upto_region 4 with fail
    try rw [hWp]
    clear hWp i0 i1 i2
    obtain ⟨Z, hZ⟩ : ∃ Z, wr.heap.size = Z := ⟨_, rfl⟩
    rw [hZ] at hz hzz hcz hVz ⊢
    clear hZ
    obtain ⟨v0, v1, v2, v3, v4⟩ := HV.out _ hBp
    simp only at v0 v1 v2 v3 v4
    have HS0 : Hid ((fun W => W.cell? ⟨V, 0, none⟩ = some (.slice ta f.terms.length tc) ∧ W.cell? ⟨V, 1, none⟩ = some (.slice na f.nons.length nc) ∧ W.cell? ⟨V, 2, none⟩ = some (.slice pa f.prods.length pc) ∧ W.cell? ⟨Z, 0, none⟩ = some (.int .i64 x) ∧ Below Wp.heap.size Wp W) Wp.drew) := ⟨v0, v1, v2, hz, (Below.refl _ _).drew⟩
    have hstep : ∀ W W', (fun W => W.cell? ⟨V, 0, none⟩ = some (.slice ta f.terms.length tc) ∧ W.cell? ⟨V, 1, none⟩ = some (.slice na f.nons.length nc) ∧ W.cell? ⟨V, 2, none⟩ = some (.slice pa f.prods.length pc) ∧ W.cell? ⟨Z, 0, none⟩ = some (.int .i64 x) ∧ Below Wp.heap.size Wp W) W → Below W.heap.size W W' → (fun W => W.cell? ⟨V, 0, none⟩ = some (.slice ta f.terms.length tc) ∧ W.cell? ⟨V, 1, none⟩ = some (.slice na f.nons.length nc) ∧ W.cell? ⟨V, 2, none⟩ = some (.slice pa f.prods.length pc) ∧ W.cell? ⟨Z, 0, none⟩ = some (.int .i64 x) ∧ Below Wp.heap.size Wp W) W' := by
      rintro W W' ⟨y0, y1, y2, y3, y4⟩ hb'
      have hsz := y4.size
      exact ⟨(hb'.cell (p := ⟨V, 0, none⟩) (by show V < _; omega)).trans y0, (hb'.cell (p := ⟨V, 1, none⟩) (by show V < _; omega)).trans y1, (hb'.cell (p := ⟨V, 2, none⟩) (by show V < _; omega)).trans y2, (hb'.cell (p := ⟨Z, 0, none⟩) (by show Z < _; omega)).trans y3, below_then y4 hb' hsz⟩
    have cJ : ∀ W, (fun W => W.cell? ⟨V, 0, none⟩ = some (.slice ta f.terms.length tc) ∧ W.cell? ⟨V, 1, none⟩ = some (.slice na f.nons.length nc) ∧ W.cell? ⟨V, 2, none⟩ = some (.slice pa f.prods.length pc) ∧ W.cell? ⟨Z, 0, none⟩ = some (.int .i64 x) ∧ Below Wp.heap.size Wp W) W → Calls Tryd.prog 58 #[.agg #[Value.slice ta f.terms.length tc, Value.slice na f.nons.length nc, Value.slice pa f.prods.length pc], .int .i64 x] W fun e w' => e = .returned (.bool (decide (0 ≤ x ∧ x < (f.n : Int)))) ∧ (fun W => W.cell? ⟨V, 0, none⟩ = some (.slice ta f.terms.length tc) ∧ W.cell? ⟨V, 1, none⟩ = some (.slice na f.nons.length nc) ∧ W.cell? ⟨V, 2, none⟩ = some (.slice pa f.prods.length pc) ∧ W.cell? ⟨Z, 0, none⟩ = some (.int .i64 x) ∧ Below Wp.heap.size Wp W) w' := by
      intro W hS
      refine (HJ.out W x).mono ?_
      rintro e w' ⟨rfl, h2⟩
      exact ⟨rfl, hstep _ _ hS h2⟩
    clear hstep HJ
    by_cases hx : 0 ≤ x ∧ x < (f.n : Int)
    · rw [show decide (0 ≤ x ∧ x < (f.n : Int)) = true from decide_eq_true hx] at cJ
      go_region_held3 (fun W => W.cell? ⟨V, 0, none⟩ = some (.slice ta f.terms.length tc) ∧ W.cell? ⟨V, 1, none⟩ = some (.slice na f.nons.length nc) ∧ W.cell? ⟨V, 2, none⟩ = some (.slice pa f.prods.length pc) ∧ W.cell? ⟨Z, 0, none⟩ = some (.int .i64 x) ∧ Below Wp.heap.size Wp W) (first | exact HS0.out | assumption) (first
        | (go_at_call 58; refine (cJ _ (by assumption)).mono ?_; rintro e w' ⟨rfl, hS⟩))
      all_goals
        obtain ⟨q, rfl⟩ : ∃ q : Nat, x = q := ⟨x.toNat, by omega⟩
        have hqn : q < f.n := by omega
        have hbS := hS.2.2.2.2
        have hzS := hbS.size
        have B4 : But (fun k => k = c) w w' := hBp.trans (But.of_next hbS)
        have A4 : SetB c m A w' := HAp.out.but (D := fun _ => False) (But.of_next hbS) (fun h => h)
        have Z4 := hS.2.2.2.1
        obtain ⟨bq, hbq⟩ : ∃ bq, bs.getD q 0 = bq := ⟨_, rfl⟩
        have G4 := HG.out _ B4 q hqn
        rw [hbq] at G4
        have V4 := (HV.out _ B4).c4
        have hwA := A4.2
        have hwq := HWD.out q hqn
        have HRQ : Hid (symsN f.n (⟨(q : Int), xf, xa⟩ :: l.drop (j + 1)) = q :: symsN f.n (l.drop (j + 1))) := by
          show _ = _
          rw [symsN_cons_yes (by simp only; omega)]; rfl
        have HJN : Hid (Calls Tryd.prog 57 #[.slice (some ⟨c, 0, none⟩) m m, .slice (some ⟨bq, 0, none⟩) m m] w'.drew fun e w2 => e = .returned (.bool (newW A (WR R q))) ∧ Hid (SetB c m (orW A (WR R q)) w2 ∧ But (fun k => k = c) w'.drew w2) ∧ (fun W => W.cell? ⟨V, 4, none⟩ = some (.slice (some ⟨G, 0, none⟩) f.n f.n) ∧ W.cell? ⟨Z, 0, none⟩ = some (.int .i64 q) ∧ W.cell? ⟨G, q, none⟩ = some (.slice (some ⟨bq, 0, none⟩) m m)) w2) := by
          have key : ∀ O, SetB bq m O w' → newW A O = newW A (WR R q) → orW A O = orW A (WR R q) → Calls Tryd.prog 57 #[.slice (some ⟨c, 0, none⟩) m m, .slice (some ⟨bq, 0, none⟩) m m] w'.drew fun e w2 => e = .returned (.bool (newW A (WR R q))) ∧ Hid (SetB c m (orW A (WR R q)) w2 ∧ But (fun k => k = c) w'.drew w2) ∧ (fun W => W.cell? ⟨V, 4, none⟩ = some (.slice (some ⟨G, 0, none⟩) f.n f.n) ∧ W.cell? ⟨Z, 0, none⟩ = some (.int .i64 q) ∧ W.cell? ⟨G, q, none⟩ = some (.slice (some ⟨bq, 0, none⟩) m m)) w2 := by
            intro O hO e1 e2
            refine (join_any A O c bq m w'.drew ⟨A4.1, A4.2⟩ ⟨hO.1, hO.2⟩ (by omega)).mono ?_
            rintro e w2 ⟨rfl, h1, h2⟩
            have hb2 : But (fun k => k = c) w w2 := (B4.drew).trans h2
            rw [e1]
            rw [e2] at h1
            refine ⟨rfl, ⟨h1, h2⟩, (HV.out _ hb2).c4, (h2.cell (p := ⟨Z, 0, none⟩) (by show Z < w'.heap.size; omega) (by show Z ≠ c; omega)).trans Z4, ?_⟩
            have := HG.out _ hb2 q hqn
            rw [hbq] at this
            exact this
          by_cases hbc : bq = c
          · have hA0 := HOW.out q hqn (hbq.trans hbc)
            have k1 := within_orW hwA hwq (by rw [hA0]; exact HSU.out)
            have k2 := within_orW hwA hwA (fun _ h => h)
            rw [hbc] at key ⊢
            exact key A A4 (k2.1.trans k1.1.symm) (k2.2.trans k1.2.symm)
          · have := HO.out _ B4 q hqn (by rw [hbq]; exact hbc)
            rw [hbq] at this
            exact key (WR R q) this rfl rfl
        have HAW : Hid (Words m (orW A (WR R q))) := hwA.or hwq
        have HSU2 : Hid (∀ t, t ∈ listW A0 → t ∈ listW (orW A (WR R q))) := fun t ht => by rw [listW_or hwA hwq, mem_unionL]; exact .inl (HSU.out t ht)
        have HS5 : Hid ((fun W => W.cell? ⟨V, 4, none⟩ = some (.slice (some ⟨G, 0, none⟩) f.n f.n) ∧ W.cell? ⟨Z, 0, none⟩ = some (.int .i64 q) ∧ W.cell? ⟨G, q, none⟩ = some (.slice (some ⟨bq, 0, none⟩) m m)) w'.drew) := ⟨V4, Z4, G4⟩
        have HB4 : Hid (But (fun k => k = c) w w') := B4
        have HZ4 : Hid (Z < w'.heap.size ∧ Z ≠ c) := ⟨by omega, by omega⟩
        rw [HRQ.out] at HRE
        have HRB : Hid (begW (WR R) (onb L) A (q :: symsN f.n (l.drop (j + 1))) = if onb L q then ((begW (WR R) (onb L) (orW A (WR R q)) (symsN f.n (l.drop (j + 1)))).1, newW A (WR R q) || (begW (WR R) (onb L) (orW A (WR R q)) (symsN f.n (l.drop (j + 1)))).2.1, (begW (WR R) (onb L) (orW A (WR R q)) (symsN f.n (l.drop (j + 1)))).2.2) else (orW A (WR R q), newW A (WR R q), false)) := by show _ = _; rw [begW]
        clear hwA hwq hbq V4 Z4 G4 A4 HAp hS hbS HSU HRQ HS0 hz v0 v1 v2 v3 v4 cJ hBp
        generalize newW A (WR R q) = nb at *
        generalize orW A (WR R q) = A2 at *
        cases nb with
        | true =>
          go_wp2_with fail
          refine wp_region_L (fun W => W.cell? ⟨V, 4, none⟩ = some (.slice (some ⟨G, 0, none⟩) f.n f.n) ∧ W.cell? ⟨Z, 0, none⟩ = some (.int .i64 q) ∧ W.cell? ⟨G, q, none⟩ = some (.slice (some ⟨bq, 0, none⟩) m m)) 14 (by kernel_rfl) 14 rfl ?_
          refine wpL_take (v := ?_) (oi := { dst := some 24, op := Op.move (Operand.tmp 1), type := 61, pos := "view.go:50", after := #[], guard := none }) (by decide) rfl (by kernel_rfl) (by kernel_rfl) (by kernel_rfl) (by kernel_rfl) (fun _ _ _ h => h) (Or.inl ⟨by rfl, ?_⟩) HS5.out ?_
          rotate_left
          · intro W hSW
            go_simp
            try with_reducible rfl
          simp only [Act.put, List.setIfInBounds_toArray, List.set_cons_zero, List.set_cons_succ]
          refine wpL_take (v := ?_) (oi := { dst := some 25, op := Op.move (Operand.tmp 0), type := 55, pos := "view.go:50", after := #[], guard := none }) (by decide) rfl (by kernel_rfl) (by kernel_rfl) (by kernel_rfl) (by kernel_rfl) (fun _ _ _ h => h) (Or.inl ⟨by rfl, ?_⟩) HS5.out ?_
          rotate_left
          · intro W hSW
            go_simp
            try with_reducible rfl
          simp only [Act.put, List.setIfInBounds_toArray, List.set_cons_zero, List.set_cons_succ]
          refine wpL_take (v := ?_) (oi := { dst := some 26, op := Op.nilCheck (Operand.tmp 25), type := 0, pos := "view.go:50", after := #[{ on := 1, ground := Ground.data }], guard := none }) (by decide) rfl (by kernel_rfl) (by kernel_rfl) (by kernel_rfl) (by kernel_rfl) (fun _ _ _ h => h) (Or.inl ⟨by rfl, ?_⟩) HS5.out ?_
          rotate_left
          · intro W hSW
            go_simp
            try with_reducible rfl
          simp only [Act.put, List.setIfInBounds_toArray, List.set_cons_zero, List.set_cons_succ]
          refine wpL_take (v := ?_) (oi := { dst := some 27, op := Op.fieldAddr 54 (Operand.tmp 26) 2, type := 0, pos := "view.go:50", after := #[{ on := 2, ground := Ground.data }], guard := none }) (by decide) rfl (by kernel_rfl) (by kernel_rfl) (by kernel_rfl) (by kernel_rfl) (fun _ _ _ h => h) (Or.inl ⟨by rfl, ?_⟩) HS5.out ?_
          rotate_left
          · intro W hSW
            go_simp
            try with_reducible rfl
          simp only [Act.put, List.setIfInBounds_toArray, List.set_cons_zero, List.set_cons_succ]
          refine wpL_take (v := ?_) (oi := { dst := some 28, op := Op.load 52 (Operand.tmp 27), type := 52, pos := "view.go:50", after := #[{ on := 3, ground := Ground.data }], guard := none }) (by decide) rfl (by kernel_rfl) (by kernel_rfl) (by kernel_rfl) (by kernel_rfl) (fun _ _ _ h => h) (Or.inl ⟨by rfl, ?_⟩) HS5.out ?_
          rotate_left
          · intro W hSW
            go_simp
            try with_reducible rfl
          simp only [Act.put, List.setIfInBounds_toArray, List.set_cons_zero, List.set_cons_succ]
          refine wpL_take (v := ?_) (oi := { dst := some 29, op := Op.fieldAddr 48 (Operand.tmp 9) 0, type := 0, pos := "view.go:50", after := #[], guard := none }) (by decide) rfl (by kernel_rfl) (by kernel_rfl) (by kernel_rfl) (by kernel_rfl) (fun _ _ _ h => h) (Or.inl ⟨by rfl, ?_⟩) HS5.out ?_
          rotate_left
          · intro W hSW
            go_simp
            try with_reducible rfl
          simp only [Act.put, List.setIfInBounds_toArray, List.set_cons_zero, List.set_cons_succ]
          refine wpL_take (v := ?_) (oi := { dst := some 30, op := Op.load 3 (Operand.tmp 29), type := 3, pos := "view.go:50", after := #[{ on := 5, ground := Ground.data }], guard := none }) (by decide) rfl (by kernel_rfl) (by kernel_rfl) (by kernel_rfl) (by kernel_rfl) (fun _ _ _ h => h) (Or.inl ⟨by rfl, ?_⟩) HS5.out ?_
          rotate_left
          · intro W hSW
            go_simp
            try with_reducible rfl
          simp only [Act.put, List.setIfInBounds_toArray, List.set_cons_zero, List.set_cons_succ]
          refine wpL_take (v := ?_) (oi := { dst := some 31, op := Op.indexAddr 52 (Operand.tmp 28) (Operand.tmp 30), type := 0, pos := "view.go:50", after := #[{ on := 4, ground := Ground.data }, { on := 6, ground := Ground.data }], guard := none }) (by decide) rfl (by kernel_rfl) (by kernel_rfl) (by kernel_rfl) (by kernel_rfl) (fun _ _ _ h => h) (Or.inl ⟨by rfl, ?_⟩) HS5.out ?_
          rotate_left
          · intro W hSW
            go_simp
            try with_reducible rfl
          simp only [Act.put, List.setIfInBounds_toArray, List.set_cons_zero, List.set_cons_succ]
          refine wpL_take (v := ?_) (oi := { dst := some 32, op := Op.load 61 (Operand.tmp 31), type := 61, pos := "view.go:50", after := #[{ on := 7, ground := Ground.data }], guard := none }) (by decide) rfl (by kernel_rfl) (by kernel_rfl) (by kernel_rfl) (by kernel_rfl) (fun _ _ _ h => h) (Or.inl ⟨by rfl, ?_⟩) HS5.out ?_
          rotate_left
          · intro W hSW
            go_simp
            try with_reducible rfl
          simp only [Act.put, List.setIfInBounds_toArray, List.set_cons_zero, List.set_cons_succ]
          refine wpL_one (o := { dst := some 33, op := Op.call { callee := Callee.value (Operand.func 57), args := #[Operand.tmp 24, Operand.tmp 32], argTypes := #[61, 61] }, type := 4, pos := "view.go:50", after := #[{ on := 0, ground := Ground.data }, { on := 8, ground := Ground.data }], guard := none }) (by decide) (by kernel_rfl) rfl (fun K hK => ?_)
          go_simp
          refine HJN.out.mono ?_
          rintro e w2 ⟨rfl, hF, hS2⟩
          refine hK.out _ _ (fun _ => hS2) ?_
          clear hK
          refine wpL_take (v := ?_) (oi := { dst := some 34, op := Op.move (Operand.tmp 33), type := 4, pos := "view.go:50", after := #[{ on := 9, ground := Ground.data }, { on := 9, ground := Ground.chain }], guard := none }) (by decide) rfl (by kernel_rfl) (by kernel_rfl) (by kernel_rfl) (by kernel_rfl) (fun _ _ _ h => h) (Or.inl ⟨by rfl, ?_⟩) hS2 ?_
          rotate_left
          · intro W hSW
            go_simp
            try with_reducible rfl
          simp only [Act.put, List.setIfInBounds_toArray, List.set_cons_zero, List.set_cons_succ]
          refine wpL_take (v := undef) (oi := { dst := some 35, op := Op.move (Operand.tmp 6), type := 4, pos := "view.go:50", after := #[{ on := 10, ground := Ground.guard }], guard := some (10, false) }) (by decide) rfl (by kernel_rfl) (by kernel_rfl) (by kernel_rfl) (by kernel_rfl) (fun _ _ _ h => h) (Or.inr ⟨by rfl, rfl⟩) hS2 ?_
          simp only [Act.put, List.setIfInBounds_toArray, List.set_cons_zero, List.set_cons_succ]
          refine wpL_take (v := ?_) (oi := { dst := some 36, op := Op.pick (Operand.tmp 34) (Operand.const (Value.bool true)) (Operand.tmp 35), type := 4, pos := "view.go:50", after := #[{ on := 10, ground := Ground.data }, { on := 11, ground := Ground.data }], guard := none }) (by decide) rfl (by kernel_rfl) (by kernel_rfl) (by kernel_rfl) (by kernel_rfl) (fun _ _ _ h => h) (Or.inl ⟨by rfl, ?_⟩) hS2 ?_
          rotate_left
          · intro W hSW
            go_simp
            try with_reducible rfl
          simp only [Act.put, List.setIfInBounds_toArray, List.set_cons_zero, List.set_cons_succ]
          refine wpL_take (v := ?_) (oi := { dst := some 6, op := Op.assign (Operand.tmp 36), type := 4, pos := "view.go:50", after := #[{ on := 12, ground := Ground.data }, { on := 10, ground := Ground.chain }, { on := 0, ground := Ground.phase }, { on := 1, ground := Ground.phase }, { on := 2, ground := Ground.phase }, { on := 3, ground := Ground.phase }, { on := 4, ground := Ground.phase }, { on := 5, ground := Ground.phase }, { on := 6, ground := Ground.phase }, { on := 7, ground := Ground.phase }, { on := 8, ground := Ground.phase }, { on := 9, ground := Ground.phase }, { on := 10, ground := Ground.phase }, { on := 11, ground := Ground.phase }, { on := 12, ground := Ground.phase }], guard := none }) (by decide) rfl (by kernel_rfl) (by kernel_rfl) (by kernel_rfl) (by kernel_rfl) (fun _ _ _ h => h) (Or.inl ⟨by rfl, ?_⟩) hS2 ?_
          rotate_left
          · intro W hSW
            go_simp
            try with_reducible rfl
          simp only [Act.put, List.setIfInBounds_toArray, List.set_cons_zero, List.set_cons_succ]
          refine wpAnyL_done (by kernel_rfl) ?_ _
          all_goals
            have hb2 : But (fun k => k = c) w w2 := (HB4.out.drew).trans hF.out.2
            have hA2 := hF.out.1
            have V2 := (HV.out _ hb2).c3
            have E2 := (HE.out _ hb2).cell hqn
            have Z2 := hS2.2.1
            have HFF : Hid (SetB c m A2 w2 ∧ But (fun k => k = c) w w2) := ⟨hA2, hb2⟩
            clear hS2 hF hb2 hA2 HJN HS5
            cases ho : onb L q with
            | true =>
              rw [ho] at E2 HRB
              have HRE2 : Hid (RES = ((begW (WR R) (onb L) A2 (symsN f.n (l.drop (j + 1)))).1, true || (begW (WR R) (onb L) A2 (symsN f.n (l.drop (j + 1)))).2.1, (begW (WR R) (onb L) A2 (symsN f.n (l.drop (j + 1)))).2.2)) := by
                have := HRE.out
                rw [HRB.out, if_pos rfl] at this
                show _ = _
                rw [this]
                simp
              clear HRE HRB
              go_wp2_with fail
              go_big_quiet (fail)
              go_wp2_with fail
              exact ⟨⟨j + 1, A2, true, by go_num, by omega, rfl, HFF.out.1, HFF.out.2.drewN _, HSU2.out, HRE2.out⟩, by simp [intOf]; omega⟩
            | false =>
              rw [ho] at E2 HRB
              have HRE2 : Hid (RES = (A2, true, false)) := by
                have := HRE.out
                rw [HRB.out, if_neg (by simp)] at this
                show _ = _
                rw [this]
                simp
              clear HRE HRB
              go_wp2_with fail
              go_big_quiet (fail)
              go_wp2_with fail
              refine bodyPost_ret (v := .tuple #[.bool true, .bool false]) (by simp [results, Tryd.f35, go_sem]) rfl ?_
              rw [HRE2.out]
              exact ⟨rfl, HFF.out.1, HFF.out.2.drewN _⟩
        | false =>
          go_wp2_with fail
          go_region_held3 (fun W => W.cell? ⟨V, 4, none⟩ = some (.slice (some ⟨G, 0, none⟩) f.n f.n) ∧ W.cell? ⟨Z, 0, none⟩ = some (.int .i64 q) ∧ W.cell? ⟨G, q, none⟩ = some (.slice (some ⟨bq, 0, none⟩) m m)) (first | exact HS5.out | assumption) (first
            | (go_at_call 57; refine HJN.out.mono ?_; rintro e w2 ⟨rfl, hF, hS2⟩))
          all_goals
            have hb2 : But (fun k => k = c) w w2 := (HB4.out.drew).trans hF.out.2
            have hA2 := hF.out.1
            have V2 := (HV.out _ hb2).c3
            have E2 := (HE.out _ hb2).cell hqn
            have Z2 := hS2.2.1
            have HFF : Hid (SetB c m A2 w2 ∧ But (fun k => k = c) w w2) := ⟨hA2, hb2⟩
            clear hS2 hF hb2 hA2 HJN HS5
            cases ho : onb L q with
            | true =>
              rw [ho] at E2 HRB
              have HRE2 : Hid (RES = ((begW (WR R) (onb L) A2 (symsN f.n (l.drop (j + 1)))).1, gb || (begW (WR R) (onb L) A2 (symsN f.n (l.drop (j + 1)))).2.1, (begW (WR R) (onb L) A2 (symsN f.n (l.drop (j + 1)))).2.2)) := by
                have := HRE.out
                rw [HRB.out, if_pos rfl] at this
                show _ = _
                rw [this]
                simp
              clear HRE HRB
              go_wp2_with fail
              go_big_quiet (fail)
              go_wp2_with fail
              exact ⟨⟨j + 1, A2, gb, by go_num, by omega, rfl, HFF.out.1, HFF.out.2.drewN _, HSU2.out, HRE2.out⟩, by simp [intOf]; omega⟩
            | false =>
              rw [ho] at E2 HRB
              have HRE2 : Hid (RES = (A2, gb, false)) := by
                have := HRE.out
                rw [HRB.out, if_neg (by simp)] at this
                show _ = _
                rw [this]
                simp
              clear HRE HRB
              go_wp2_with fail
              go_big_quiet (fail)
              go_wp2_with fail
              refine bodyPost_ret (v := .tuple #[.bool gb, .bool false]) (by simp [results, Tryd.f35, go_sem]) rfl ?_
              rw [HRE2.out]
              exact ⟨rfl, HFF.out.1, HFF.out.2.drewN _⟩
    · rw [show decide (0 ≤ x ∧ x < (f.n : Int)) = false from decide_eq_false hx] at cJ
      go_region_held3 (fun W => W.cell? ⟨V, 0, none⟩ = some (.slice ta f.terms.length tc) ∧ W.cell? ⟨V, 1, none⟩ = some (.slice na f.nons.length nc) ∧ W.cell? ⟨V, 2, none⟩ = some (.slice pa f.prods.length pc) ∧ W.cell? ⟨Z, 0, none⟩ = some (.int .i64 x) ∧ Below Wp.heap.size Wp W) (first | exact HS0.out | assumption) (first
        | (go_at_call 58; refine (cJ _ (by assumption)).mono ?_; rintro e w' ⟨rfl, hS⟩))
      all_goals
        have HF : Hid (SetB c m A w' ∧ But (fun k => k = c) w w') := ⟨HAp.out.but (D := fun _ => False) (But.of_next hS.2.2.2.2) (fun h => h), hBp.trans (But.of_next hS.2.2.2.2)⟩
        rw [symsN_cons_no (by simp only; omega)] at HRE
        clear hS HS0 hz v0 v1 v2 v3 v4 cJ hBp
        go_wp2_with fail
        exact ⟨⟨j + 1, A, gb, by go_num, by omega, rfl, HF.out.1, HF.out.2, HSU.out, HRE.out⟩, by simp [intOf]; omega⟩
  · obtain rfl : j = l.length := by omega
    rw [List.drop_length] at hres
    have HRE : Hid (RES = (A, gb, true)) := by
      show _ = _
      rw [hres]
      simp [symsN, begW]
    clear hres
    go_wp2_with fail
    refine bodyPost_ret (v := .tuple #[.bool gb, .bool true]) (by simp [results, Tryd.f35, go_sem]) rfl ?_
    rw [HRE.out]
    exact ⟨rfl, hA, hB⟩
end Go.Proofs.YtckbfiigbckmeaaDoor
