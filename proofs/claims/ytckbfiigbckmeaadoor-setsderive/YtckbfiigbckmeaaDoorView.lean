/- viewOf of the program: what symbols can be, and begin with. -/
import Derived.Test.YtckbfiigbckmeaaDoorBegin
namespace Go.Proofs.YtckbfiigbckmeaaDoor
open Go.RowKit

theorem SlT.next' {l : List It} {v : Value} {W W' : World} (h : SlT l v W) (hb : But (fun _ => False) W W') : SlT l v W' :=
  h.next ⟨hb.os, hb.tape, hb.output, hb.size, fun k hk => hb.block k hk (fun h => h)⟩
theorem symsN_of {f : Fl} {p : Pr} (h : ∀ x ∈ p.right, 0 ≤ x.sym ∧ x.sym < (f.n : Int)) : symsN f.n p.right = p.syms := symsN_all h

set_option maxRecDepth 100000 in
set_option maxHeartbeats 1000000 in
theorem viewOf1_any (f : Fl) (a : FlA) (V E G m KB l : Nat) (bs : List Nat) (R : List (List Nat)) (L : List Bool) (r : List It) (vr : Value) (w : World) (hn : f.n ≤ 600) (hm : m ≤ 20)
    (hK : w.cell? ⟨KB, 0, none⟩ = some (.pointer (some ⟨V, 0, none⟩))) (hV : VAt f a V E G w) (hE : RowK E f.n L w) (hS : SetsB G m bs R w) (hR : WOk m f.n R) (hl : l < f.n) (hv : SlT r vr w) (hr : r.length ≤ 64)
    (hKb : KB ∉ bs) (hVb : V ∉ bs) (hEb : E ∉ bs) (hvb : ∀ (b : Nat) (ao : Addr), vr = .slice (some ao) r.length b → r ≠ [] → ao.block ∉ bs) :
    Calls Tryd.prog 52 #[.int .i64 l, vr, .pointer (some ⟨KB, 0, none⟩)] w fun e w' => e = .returned (.bool (begW (WR R) (onb L) (WR R l) (symsN f.n r)).2.1) ∧ SetsB G m bs (R.set l (begW (WR R) (onb L) (WR R l) (symsN f.n r)).1) w' ∧ But (fun k => k = bs.getD l 0) w w' := by
  have hlR : l < R.length := by rw [hR.len]; exact hl
  have hmem := hS.mem hlR
  have HB : Hid (∀ W, But (fun _ => False) w W → Calls Tryd.prog 35 #[.pointer (some ⟨V, 0, none⟩), .slice (some ⟨bs.getD l 0, 0, none⟩) m m, vr] W fun e w' => e = .returned (.tuple #[.bool (begW (WR R) (onb L) (WR R l) (symsN f.n r)).2.1, .bool (begW (WR R) (onb L) (WR R l) (symsN f.n r)).2.2]) ∧ SetB (bs.getD l 0) m (begW (WR R) (onb L) (WR R l) (symsN f.n r)).1 w' ∧ But (fun k => k = bs.getD l 0) W w') := fun W hb =>
    begin_any f a V E G m (bs.getD l 0) bs R L (WR R l) r vr W hn hm (hV.but hb (fun h => h)) (hE.but hb (fun h => h)) (hS.but hb (fun h => h) (fun _ _ h => h)) hR ((hS.each l hlR).but hb (fun h => h)) (hv.next' hb) (by omega)
      (fun e => hVb (e ▸ hmem)) (fun e => hEb (e ▸ hmem)) (fun e => hS.out (e ▸ hmem)) (fun b ao h1 h2 e => hvb b ao h1 h2 (e ▸ hmem)) (fun s hs e => by rw [hS.inj (by rw [hR.len]; exact hs) hlR e])
  have HT : Hid (∀ A w', But (fun k => k = bs.getD l 0) w w' → SetB (bs.getD l 0) m A w' → SetsB G m bs (R.set l A) w') := fun A w' hb hA => hS.turn hlR hb hA
  have hGc := hS.cell hlR
  have hGl := hS.lt
  have hVl := hV.lt
  have hKl := World.block_lt_of_cell? w _ hK
  have n1 : KB ≠ bs.getD l 0 := fun e => hKb (e ▸ hmem)
  have n2 : V ≠ bs.getD l 0 := fun e => hVb (e ▸ hmem)
  have n3 : G ≠ bs.getD l 0 := fun e => hS.out (e ▸ hmem)
  have hV4 := hV.c4
  obtain ⟨va, vc, rfl, _⟩ := hv
  generalize bs.getD l 0 = c at *
  obtain ⟨RES, hRES⟩ : ∃ RES, begW (WR R) (onb L) (WR R l) (symsN f.n r) = RES := ⟨_, rfl⟩
  rw [hRES] at HB ⊢
  clear hRES hV hE hS hR hVb hEb hvb hmem
  have HS0 : Hid ((fun W => W.cell? ⟨KB, 0, none⟩ = some (.pointer (some ⟨V, 0, none⟩)) ∧ W.cell? ⟨V, 4, none⟩ = some (.slice (some ⟨G, 0, none⟩) f.n f.n) ∧ W.cell? ⟨G, l, none⟩ = some (.slice (some ⟨c, 0, none⟩) m m)) w.drew) := ⟨hK, hV4, hGc⟩
  have HC : Hid (Calls Tryd.prog 35 #[.pointer (some ⟨V, 0, none⟩), .slice (some ⟨c, 0, none⟩) m m, .slice va r.length vc] w.drew fun e w' => e = .returned (.tuple #[.bool RES.2.1, .bool RES.2.2]) ∧ Hid (SetsB G m bs (R.set l RES.1) w' ∧ But (fun k => k = c) w w') ∧ (fun W => W.cell? ⟨KB, 0, none⟩ = some (.pointer (some ⟨V, 0, none⟩)) ∧ W.cell? ⟨V, 4, none⟩ = some (.slice (some ⟨G, 0, none⟩) f.n f.n) ∧ W.cell? ⟨G, l, none⟩ = some (.slice (some ⟨c, 0, none⟩) m m)) w') := by
    refine (HB.out w.drew (But.refl _ w).drew).mono ?_
    rintro e w' ⟨rfl, h1, h2⟩
    have h3 : But (fun k => k = c) w w' := ((But.refl _ w).drew).trans h2
    exact ⟨rfl, ⟨HT.out _ _ h3 h1, h3⟩, (h3.cell (p := ⟨KB, 0, none⟩) hKl n1).trans hK, (h3.cell (p := ⟨V, 4, none⟩) hVl n2).trans hV4, (h3.cell (p := ⟨G, l, none⟩) hGl n3).trans hGc⟩
  generalize RES.2.1 = b1 at *
  generalize RES.2.2 = b2 at *
  clear HB HT
  go_enter Tryd.func52, Tryd.ntmps52
  go_wp2_with fail
  go_region_held3 (fun W => W.cell? ⟨KB, 0, none⟩ = some (.pointer (some ⟨V, 0, none⟩)) ∧ W.cell? ⟨V, 4, none⟩ = some (.slice (some ⟨G, 0, none⟩) f.n f.n) ∧ W.cell? ⟨G, l, none⟩ = some (.slice (some ⟨c, 0, none⟩) m m)) (first | exact HS0.out | assumption) (first
    | (go_at_call 35; refine HC.out.mono ?_; rintro e w2 ⟨rfl, hF, hS2⟩))
  all_goals
    clear hS2
    go_wp2_with fail
    go_ret
    exact ⟨rfl, hF.out.1, hF.out.2⟩

/-- A view, all of it made since a world w. -/
structure VOk (f : Fl) (a : FlA) (m : Nat) (w : World) (V E G : Nat) (bs : List Nat) (L : List Bool) (R : List (List Nat)) (W : World) : Prop where
  v : VAt f a V E G W
  e : RowK E f.n L W
  s : SetsB G m bs R W
  vb : V ∉ bs
  eb : E ∉ bs
  vl : w.heap.size ≤ V
  el : w.heap.size ≤ E
  gl : w.heap.size ≤ G
  bl : ∀ b ∈ bs, w.heap.size ≤ b
  ve : V ≠ E
  vg : V ≠ G
  eg : E ≠ G
  below : Below w.heap.size w W
theorem VOk.next {f a m w V E G bs L R W W'} (h : VOk f a m w V E G bs L R W) (hb : Below W.heap.size W W') : VOk f a m w V E G bs L R W' :=
  ⟨h.v.but (D := fun _ => False) (But.of_next hb) (fun h => h), h.e.next hb, h.s.but (D := fun _ => False) (But.of_next hb) (fun h => h) (fun _ _ h => h), h.vb, h.eb, h.vl, h.el, h.gl, h.bl, h.ve, h.vg, h.eg, below_then h.below hb h.below.size⟩

/-- A view that has just been made, with the box KB of the variable that holds it. -/
structure VNew (f : Fl) (a : FlA) (m : Nat) (w : World) (KB V E G : Nat) (bs : List Nat) (L : List Bool) (R : List (List Nat)) (W : World) : Prop where
  ok : VOk f a m w V E G bs L R W
  k : W.cell? ⟨KB, 0, none⟩ = some (.pointer (some ⟨V, 0, none⟩))
  kb : KB ∉ bs
  ke : KB ≠ E
  kg : KB ≠ G
  kv : KB ≠ V
  kl : w.heap.size ≤ KB
theorem view_made {f : Fl} {a : FlA} {m : Nat} {W1 W2 W w3 W4 : World} {KB V E G K : Nat} {bs : List Nat} {L : List Bool} {R : List (List Nat)} (hb1 : Below W1.heap.size W1 w3) (h1 : W1.heap.size ≤ K) (h2 : K ≤ E) (h3 : E < W2.heap.size) (h4 : W2.heap.size ≤ W.heap.size) (h5 : W.heap.size ≤ G) (h6 : ∀ b ∈ bs, W.heap.size ≤ b)
    (hE : RowK E f.n L w3) (hS : SetsB G m bs R w3) (hB : But (fun k => k = KB) w3 W4) (hV : VAt f a V E G W4) (hK : W4.cell? ⟨KB, 0, none⟩ = some (.pointer (some ⟨V, 0, none⟩))) (hVl : w3.heap.size ≤ V) (hKV : KB ≠ V) (hK1 : W1.heap.size ≤ KB)
    (hKK : w3.heap.size ≤ KB ∨ (KB = W1.heap.size ∧ W1.heap.size < K) ∨ (KB = W2.heap.size ∧ W2.heap.size < W.heap.size)) : VNew f a m W1 KB V E G bs L R W4 := by
  have hEl := hE.lt
  have hGl := hS.lt
  have hbs : ∀ b ∈ bs, b < w3.heap.size := fun b hb => by
    obtain ⟨i, hi, rfl⟩ := List.getElem_of_mem hb
    have := (hS.each i (by rw [← hS.len]; exact hi)).lt
    rwa [List.getD_eq_getElem?_getD, List.getElem?_eq_getElem hi] at this
  have nKb : KB ∉ bs := fun hb => by have := hbs _ hb; have := h6 _ hb; omega
  have nE : ¬ E = KB := by omega
  have nG : ¬ G = KB := by omega
  exact ⟨⟨hV, hE.but hB nE, hS.but hB nG (fun b hb e => nKb (e ▸ hb)), fun hb => by have := hbs _ hb; omega, fun hb => by have := h6 _ hb; omega, by omega, by omega, by omega, fun b hb => by have := h6 _ hb; omega, by omega, by omega, by omega, hb1.trans (hB.below hb1.size (fun k hk => by rw [hk]; exact hK1))⟩, hK, nKb, fun e => nE e.symm, fun e => nG e.symm, hKV, hK1⟩
theorem SetsB.blk {G m bs R W} (h : SetsB G m bs R W) : ∀ b ∈ bs, b < W.heap.size := fun b hb => by
  obtain ⟨i, hi, rfl⟩ := List.getElem_of_mem hb
  have := (h.each i (by rw [← h.len]; exact hi)).lt
  rwa [List.getD_eq_getElem?_getD, List.getElem?_eq_getElem hi] at this
/-- Kept, where none of its blocks has turned. -/
theorem VNew.keep {f a m w KB V E G bs L R W W'} {n : Nat} (h : VNew f a m w KB V E G bs L R W) (hb : Below n W W') (hn : w.heap.size ≤ n) (h1 : KB < n) (h2 : V < n) (h3 : E < n) (h4 : G < n) (h5 : ∀ b ∈ bs, b < n) : VNew f a m w KB V E G bs L R W' := by
  have hB := But.of_below hb
  exact ⟨⟨h.ok.v.but hB (by omega), h.ok.e.but hB (by omega), h.ok.s.but hB (by omega) (fun b hb' => by have := h5 b hb'; omega), h.ok.vb, h.ok.eb, h.ok.vl, h.ok.el, h.ok.gl, h.ok.bl, h.ok.ve, h.ok.vg, h.ok.eg, h.ok.below.trans (hb.mono hn)⟩, (hb.cell (p := ⟨KB, 0, none⟩) h1).trans h.k, h.kb, h.ke, h.kg, h.kv, h.kl⟩
/-- One set turned. -/
theorem VNew.turn {f a m w KB V E G bs L R W W' l A} (h : VNew f a m w KB V E G bs L R W) (hl : l < R.length) (hb : But (fun k => k = bs.getD l 0) W W') (hA : SetB (bs.getD l 0) m A W') : VNew f a m w KB V E G bs L (R.set l A) W' := by
  have hm := h.ok.s.mem hl
  refine ⟨⟨h.ok.v.but hb (fun e => h.ok.vb (e ▸ hm)), h.ok.e.but hb (fun e => h.ok.eb (e ▸ hm)), h.ok.s.turn hl hb hA, h.ok.vb, h.ok.eb, h.ok.vl, h.ok.el, h.ok.gl, h.ok.bl, h.ok.ve, h.ok.vg, h.ok.eg, below_but h.ok.below hb (fun k hk => by rw [hk]; exact h.ok.bl _ hm)⟩, (hb.cell (p := ⟨KB, 0, none⟩) (World.block_lt_of_cell? W _ h.k) (fun e => h.kb (by rw [show KB = bs.getD l 0 from e]; exact hm))).trans h.k, h.kb, h.ke, h.kg, h.kv, h.kl⟩

theorem viewSettle (f : Fl) (a : FlA) (m : Nat) (w0 : World) (KB V E G : Nat) (bs : List Nat) (L : List Bool) (R : List (List Nat)) (W : World) (hp : FitP f) (hf0 : FlAt f a w0) (hm : m ≤ 20) (hV : VNew f a m w0 KB V E G bs L R W) (hL : GivesB (fun s => false = true ∧ s < f.terms.length) f.gr f.n L) (hR : StW f m R) :
    Calls Tryd.prog 46 #[a.val f, .func (.func 52) #[] #[.pointer (some ⟨KB, 0, none⟩)]] W fun e w' => (∃ v, e = .returned v) ∧ ∃ R', VNew f a m w0 KB V E G bs L R' w' ∧ StW f m R' ∧ ∀ q ∈ f.gr, ClosF f R' q := by
  have hVl := hV.ok.v.lt
  have hEl := hV.ok.e.lt
  have hGl := hV.ok.s.lt
  have hbl := hV.ok.s.blk
  have hKl := World.block_lt_of_cell? W _ hV.k
  have hn : f.n ≤ 600 := hp.size
  have hEmp : ∀ s, s < f.n → (onb L s = true ↔ EmpP f s) := fun s hs => by
    rw [onb_iff, hL.2 s hs]
    have e : (fun s => false = true ∧ s < f.terms.length) = fun _ => False := by funext s; simp
    rw [e]
    exact Iff.rfl
  have hcell : ∀ j (hj : j < f.prods.length) v, (∃ pb off, a.pa = some ⟨pb, off, none⟩ ∧ W.cell? ⟨pb, off + j * 3 + 1, none⟩ = some v) → SlT f.prods[j].right v w0 := fun j hj v ⟨pb, off, h1, h2⟩ => by
    obtain ⟨b, off', v', e, hb, _, k1, _, hv, _⟩ := hf0.2.2.1.at (Below.refl _ _) hj
    rw [h1] at e; cases e
    rw [hV.ok.below.cell (p := ⟨pb, off + j * 3 + 1, none⟩) hb, k1] at h2
    cases h2; exact hv
  refine (settle_any (σ := List (List Nat)) f a 52 #[.pointer (some ⟨KB, 0, none⟩)] (enters_of Tryd.func52 (by kernel_rfl) rfl)
    (fun R X => VNew f a m w0 KB V E G bs L R X ∧ StW f m R) (fun k => k ∈ bs) (fun R => f.n * (64 * m) - bulkW R) (fun j R => ∀ q, f.gr[j]? = some q → ClosF f R q) W hp (fun R X h => hf0.next h.1.ok.below)
    (fun R X X' h hb => ⟨h.1.keep hb hV.ok.below.size hKl hVl hEl hGl hbl, h.2⟩) (fun k hk => hbl k hk) ?hDa ?hg R ⟨hV, hR⟩).mono ?_
  case hDa =>
    intro hpos ad had hk
    obtain ⟨b, off, v, e, hb, _⟩ := hf0.2.2.1.at (Below.refl _ _) hpos
    rw [e] at had; cases had
    have := hV.ok.bl _ hk
    simp only at this
    omega
  case hg =>
    rintro j hj R X v ⟨hX, hR⟩ hv hz hpv
    have hv0 := hcell j hj v hpv
    have hlf := hp.left _ (List.getElem_mem hj)
    have hsy : ∀ x ∈ f.prods[j].right, 0 ≤ x.sym ∧ x.sym < (f.n : Int) := fun x hx => hp.sym _ (List.getElem_mem hj) x hx
    have hq : f.gr[j]? = some (f.prods[j].left.toNat, f.prods[j].syms) := by unfold Fl.gr; rw [List.getElem?_map, List.getElem?_eq_getElem hj]; rfl
    have hmem := gr_mem hj
    obtain ⟨l, hl⟩ : ∃ l : Nat, f.prods[j].left = l := ⟨f.prods[j].left.toNat, by omega⟩
    have hln : l < f.n := by unfold Fl.n; omega
    rw [hl, Int.toNat_natCast] at hq hmem
    rw [hl]
    have hlR : l < R.length := by rw [hR.ok.len]; exact hln
    refine (viewOf1_any f a V E G m KB l bs R L f.prods[j].right v X hn hm hX.k hX.ok.v hX.ok.e hX.ok.s hR.ok hln hv (hp.right _ (List.getElem_mem hj)) hX.kb hX.ok.vb hX.ok.eb (fun b ao e hne => ?_)).mono ?_
    · obtain ⟨ao', cap, e', hI, _⟩ := hv0
      rw [e] at e'
      cases e'
      intro hk
      obtain ⟨b', off', e2, hb', _⟩ := hI.at (Below.refl _ _) (j := 0) (List.length_pos_iff.2 hne)
      cases e2
      have := hX.ok.bl _ hk
      simp only at this
      omega
    · rintro e X' ⟨rfl, h1, h2⟩
      rw [symsN_all hsy] at h1 ⊢
      have hst := hR.step hEmp hmem hln (fun x hx => by
        obtain ⟨y, hy, rfl⟩ := List.mem_map.1 hx
        have := hsy y hy
        omega)
      have hsym : f.prods[j].syms = f.prods[j].right.map fun x => x.sym.toNat := rfl
      rw [hsym] at hst
      have hB : But (fun k => k ∈ bs) X X' := h2.mono (fun k _ hk => by rw [hk]; exact hX.ok.s.mem hlR)
      have hXX : VNew f a m w0 KB V E G bs L (R.set l (begW (WR R) (onb L) (WR R l) (f.prods[j].right.map fun x => x.sym.toNat)).1) X' := by
        have he := h1.each l (by rw [List.length_set]; exact hlR)
        rw [WR_set hlR, if_pos rfl] at he
        exact hX.turn hlR h2 he
      refine ⟨_, _, rfl, ⟨hXX, hst.1⟩, hB, fun hb => ?_, fun hb => ⟨(hst.2.2 hb).1, fun q hq' => ?_⟩⟩
      · have k1 := hst.2.1 hb
        have k2 := bulkW_max hst.1.ok
        omega
      · rw [hq] at hq'; cases hq'
        exact (hst.2.2 hb).2
  · rintro e X ⟨he, R', ⟨k1, k2⟩, hcl, _⟩
    refine ⟨he, R', k1, k2, fun q hq => ?_⟩
    obtain ⟨j, hj, rfl⟩ := List.getElem_of_mem hq
    exact hcl j (by simpa [Fl.gr] using hj) _ (List.getElem?_eq_getElem hj)

set_option maxRecDepth 100000 in
set_option maxHeartbeats 1000000 in
theorem viewOf_any (f : Fl) (a : FlA) (w : World) (hf : FlAt f a w) (hp : FitP f) :
    Calls Tryd.prog 30 #[a.val f] w fun e w' => ∃ V E G bs L R, e = .returned (.pointer (some ⟨V, 0, none⟩)) ∧ VOk f a (f.terms.length / 64 + 1) w V E G bs L R w' ∧ GivesB (fun s => false = true ∧ s < f.terms.length) f.gr f.n L ∧ StW f (f.terms.length / 64 + 1) R ∧ ∀ q ∈ f.gr, ClosF f R q := by
  have hn : f.n ≤ 600 := hp.size
  have HD : Hid (∀ W, Below w.heap.size w W → Calls Tryd.prog 27 #[a.val f, .bool false] W fun e w' => ∃ G L, e = .returned (.slice (some ⟨G, 0, none⟩) f.n f.n) ∧ W.heap.size ≤ G ∧ RowK G f.n L w' ∧ GivesB (fun s => false = true ∧ s < f.terms.length) f.gr f.n L ∧ Below W.heap.size W w') := fun W hb => derived_any f a false W (hf.next hb) hp
  have HNS : Hid (∀ W, Calls Tryd.prog 50 #[a.val f] W fun e w' => ∃ G bs, e = .returned (.slice (some ⟨G, 0, none⟩) f.n f.n) ∧ W.heap.size ≤ G ∧ (∀ b ∈ bs, W.heap.size ≤ b) ∧ SetsB G (f.terms.length / 64 + 1) bs (List.replicate f.n (List.replicate (f.terms.length / 64 + 1) 0)) w' ∧ Below W.heap.size W w') := fun W => newSets_any f a W hp
  obtain ⟨ta, tc, na, nc, pa, pc⟩ := a
  unfold FlA.val at HD HNS ⊢
  simp only at *
  have X0 := FBox.new f ⟨ta, tc, na, nc, pa, pc⟩ 25 w
  have B0 : Below w.heap.size w (w.alloc (fobj f ⟨ta, tc, na, nc, pa, pc⟩ 25)) := (Below.refl _ _).alloc (Nat.le_refl _) _
  unfold fobj at X0 B0
  simp only at X0 B0
  obtain ⟨W1, hW1⟩ : ∃ W1, (w.alloc (Obj.cells #[Value.slice ta f.terms.length tc, Value.slice na f.nons.length nc, Value.slice pa f.prods.length pc] 25)) = W1 := ⟨_, rfl⟩
  rw [hW1] at X0 B0
  have HW1 : Hid ((w.alloc (Obj.cells #[Value.slice ta f.terms.length tc, Value.slice na f.nons.length nc, Value.slice pa f.prods.length pc] 25)) = W1) := hW1
  clear hW1
  obtain ⟨x0, x1, x2, x3⟩ := X0
  simp only at x1 x2 x3
  have htn : f.terms.length ≤ f.n := by unfold Fl.n; omega
  have hm20 : f.terms.length / 64 + 1 ≤ 20 := by omega
  have hm64 : f.terms.length < 64 * (f.terms.length / 64 + 1) := by omega
  have HSET : Hid (∀ KB V E G bs L W, VNew f ⟨ta, tc, na, nc, pa, pc⟩ (f.terms.length / 64 + 1) W1 KB V E G bs L (putsTo (f.terms.length / 64 + 1) f.n f.terms.length) W → GivesB (fun s => false = true ∧ s < f.terms.length) f.gr f.n L → Calls Tryd.prog 46 #[.agg #[Value.slice ta f.terms.length tc, Value.slice na f.nons.length nc, Value.slice pa f.prods.length pc], .func (.func 52) #[] #[.pointer (some ⟨KB, 0, none⟩)]] W fun e w' => (∃ v, e = .returned v) ∧ ∃ R', VNew f ⟨ta, tc, na, nc, pa, pc⟩ (f.terms.length / 64 + 1) W1 KB V E G bs L R' w' ∧ StW f (f.terms.length / 64 + 1) R' ∧ ∀ q ∈ f.gr, ClosF f R' q) := fun KB V E G bs L W h1 h2 =>
    viewSettle f ⟨ta, tc, na, nc, pa, pc⟩ _ W1 KB V E G bs L _ W hp (hf.next B0) hm20 h1 h2 putsTo_ok
  generalize f.terms.length / 64 + 1 = m at *
  have HS0 : Hid ((fun W => W.cell? ⟨w.heap.size, 0, none⟩ = some (.slice ta f.terms.length tc) ∧ W.cell? ⟨w.heap.size, 1, none⟩ = some (.slice na f.nons.length nc) ∧ W.cell? ⟨w.heap.size, 2, none⟩ = some (.slice pa f.prods.length pc) ∧ Below W1.heap.size W1 W) W1.drew) := ⟨x1, x2, x3, (Below.refl _ _).drew⟩
  have hstep : ∀ W W', (fun W => W.cell? ⟨w.heap.size, 0, none⟩ = some (.slice ta f.terms.length tc) ∧ W.cell? ⟨w.heap.size, 1, none⟩ = some (.slice na f.nons.length nc) ∧ W.cell? ⟨w.heap.size, 2, none⟩ = some (.slice pa f.prods.length pc) ∧ Below W1.heap.size W1 W) W → Below W.heap.size W W' → (fun W => W.cell? ⟨w.heap.size, 0, none⟩ = some (.slice ta f.terms.length tc) ∧ W.cell? ⟨w.heap.size, 1, none⟩ = some (.slice na f.nons.length nc) ∧ W.cell? ⟨w.heap.size, 2, none⟩ = some (.slice pa f.prods.length pc) ∧ Below W1.heap.size W1 W) W' := by
    rintro W W' ⟨y0, y1, y2, y3⟩ hb'
    have hsz := y3.size
    exact ⟨(hb'.cell (p := ⟨w.heap.size, 0, none⟩) (by show w.heap.size < _; omega)).trans y0, (hb'.cell (p := ⟨w.heap.size, 1, none⟩) (by show w.heap.size < _; omega)).trans y1, (hb'.cell (p := ⟨w.heap.size, 2, none⟩) (by show w.heap.size < _; omega)).trans y2, below_then y3 hb' hsz⟩
  have cD : ∀ W, (fun W => W.cell? ⟨w.heap.size, 0, none⟩ = some (.slice ta f.terms.length tc) ∧ W.cell? ⟨w.heap.size, 1, none⟩ = some (.slice na f.nons.length nc) ∧ W.cell? ⟨w.heap.size, 2, none⟩ = some (.slice pa f.prods.length pc) ∧ Below W1.heap.size W1 W) W → Calls Tryd.prog 27 #[.agg #[Value.slice ta f.terms.length tc, Value.slice na f.nons.length nc, Value.slice pa f.prods.length pc], .bool false] W fun e w' => ∃ E L, e = .returned (.slice (some ⟨E, 0, none⟩) f.n f.n) ∧ Hid (W1.heap.size ≤ W.heap.size ∧ W.heap.size ≤ E ∧ RowK E f.n L w' ∧ GivesB (fun s => false = true ∧ s < f.terms.length) f.gr f.n L) ∧ Below W.heap.size W w' ∧ (fun W => W.cell? ⟨w.heap.size, 0, none⟩ = some (.slice ta f.terms.length tc) ∧ W.cell? ⟨w.heap.size, 1, none⟩ = some (.slice na f.nons.length nc) ∧ W.cell? ⟨w.heap.size, 2, none⟩ = some (.slice pa f.prods.length pc) ∧ Below W1.heap.size W1 W) w' := by
    intro W hS
    refine (HD.out W (below_then B0 hS.2.2.2 B0.size)).mono ?_
    rintro e w' ⟨E, L, rfl, h1, h2, h3, h4⟩
    exact ⟨E, L, rfl, ⟨hS.2.2.2.size, h1, h2, h3⟩, h4, hstep _ _ hS h4⟩
  have cN : ∀ W W2 E L K, (fun W => W.cell? ⟨w.heap.size, 0, none⟩ = some (.slice ta f.terms.length tc) ∧ W.cell? ⟨w.heap.size, 1, none⟩ = some (.slice na f.nons.length nc) ∧ W.cell? ⟨w.heap.size, 2, none⟩ = some (.slice pa f.prods.length pc) ∧ Below W1.heap.size W1 W) W → Hid (W1.heap.size ≤ K ∧ K ≤ E ∧ RowK E f.n L W2 ∧ GivesB (fun s => false = true ∧ s < f.terms.length) f.gr f.n L) → Below W2.heap.size W2 W → Calls Tryd.prog 50 #[.agg #[Value.slice ta f.terms.length tc, Value.slice na f.nons.length nc, Value.slice pa f.prods.length pc]] W fun e w' => ∃ G bs, e = .returned (.slice (some ⟨G, 0, none⟩) f.n f.n) ∧ Hid (W1.heap.size ≤ K ∧ K ≤ E ∧ E < W2.heap.size ∧ W2.heap.size ≤ W.heap.size ∧ W.heap.size ≤ G ∧ (∀ b ∈ bs, W.heap.size ≤ b) ∧ RowK E f.n L w' ∧ GivesB (fun s => false = true ∧ s < f.terms.length) f.gr f.n L ∧ SetsB G m bs (List.replicate f.n (List.replicate m 0)) w') ∧ Below W.heap.size W w' ∧ (fun W => W.cell? ⟨w.heap.size, 0, none⟩ = some (.slice ta f.terms.length tc) ∧ W.cell? ⟨w.heap.size, 1, none⟩ = some (.slice na f.nons.length nc) ∧ W.cell? ⟨w.heap.size, 2, none⟩ = some (.slice pa f.prods.length pc) ∧ Below W1.heap.size W1 W) w' := by
    intro W W2 E L K hS hG hb
    refine (HNS.out W).mono ?_
    rintro e w' ⟨G, bs, rfl, h1, h2, h3, h4⟩
    obtain ⟨k1, k2, k3, k4⟩ := hG.out
    exact ⟨G, bs, rfl, ⟨k1, k2, k3.lt, hb.size, h1, h2, (k3.next hb).next h4, k4, h3⟩, h4, hstep _ _ hS h4⟩
  have hal : ∀ W o, (fun W => W.cell? ⟨w.heap.size, 0, none⟩ = some (.slice ta f.terms.length tc) ∧ W.cell? ⟨w.heap.size, 1, none⟩ = some (.slice na f.nons.length nc) ∧ W.cell? ⟨w.heap.size, 2, none⟩ = some (.slice pa f.prods.length pc) ∧ Below W1.heap.size W1 W) W → (fun W => W.cell? ⟨w.heap.size, 0, none⟩ = some (.slice ta f.terms.length tc) ∧ W.cell? ⟨w.heap.size, 1, none⟩ = some (.slice na f.nons.length nc) ∧ W.cell? ⟨w.heap.size, 2, none⟩ = some (.slice pa f.prods.length pc) ∧ Below W1.heap.size W1 W) (World.alloc W o) := fun W o hS => hstep _ _ hS ((Below.refl _ _).alloc (Nat.le_refl _) _)
  have hset : ∀ W (p : Addr) v, (fun W => W.cell? ⟨w.heap.size, 0, none⟩ = some (.slice ta f.terms.length tc) ∧ W.cell? ⟨w.heap.size, 1, none⟩ = some (.slice na f.nons.length nc) ∧ W.cell? ⟨w.heap.size, 2, none⟩ = some (.slice pa f.prods.length pc) ∧ Below W1.heap.size W1 W) W → W1.heap.size ≤ p.block → (fun W => W.cell? ⟨w.heap.size, 0, none⟩ = some (.slice ta f.terms.length tc) ∧ W.cell? ⟨w.heap.size, 1, none⟩ = some (.slice na f.nons.length nc) ∧ W.cell? ⟨w.heap.size, 2, none⟩ = some (.slice pa f.prods.length pc) ∧ Below W1.heap.size W1 W) (World.setCell W p v) := by
    rintro W p v ⟨y0, y1, y2, y3⟩ hp'
    have e : ∀ {o u}, W.cell? ⟨w.heap.size, o, none⟩ = some u → (W.setCell p v).cell? ⟨w.heap.size, o, none⟩ = some u := fun {o u} hu => (World.cell?_of_block (w := W) (Below.heap_setCell W p v w.heap.size (by omega))).trans hu
    exact ⟨e y0, e y1, e y2, y3.setCell hp' _⟩
  clear hstep HD HNS
  go_enter Tryd.func30, Tryd.ntmps30
  go_wp2_with fail
  try rw [HW1.out]
  go_region_held3 (fun W => W.cell? ⟨w.heap.size, 0, none⟩ = some (.slice ta f.terms.length tc) ∧ W.cell? ⟨w.heap.size, 1, none⟩ = some (.slice na f.nons.length nc) ∧ W.cell? ⟨w.heap.size, 2, none⟩ = some (.slice pa f.prods.length pc) ∧ Below W1.heap.size W1 W) (first | exact HS0.out | assumption | exact hal _ _ HS0.out | exact hal _ _ (by assumption) | exact hal _ _ (hal _ _ (by assumption)) | exact hset _ _ _ (hal _ _ (by assumption)) (Nat.le_refl _) | exact hset _ _ _ (hal _ _ (by assumption)) (by show _ ≤ _; omega) | fail) (first
    | (go_at_call 27; refine (cD _ (by assumption)).mono ?_; rintro e w2 ⟨E, L, rfl, hG, hbD, hS⟩; have hz2 := hS.2.2.2.size; try (have q1 : w2.cell? ⟨W1.heap.size, 0, none⟩ = some (Value.pointer none) := (hbD.cell (p := ⟨W1.heap.size, 0, none⟩) (by first | (simp; done) | fail)).trans (by first | (simp; done) | fail); have q2 : w2.frozen? ⟨W1.heap.size, 0, none⟩ = false := (hbD.frozen (p := ⟨W1.heap.size, 0, none⟩) (by first | (simp; done) | fail)).trans (by first | (simp; done) | fail)))
    | (go_at_call 50; refine (cN _ _ _ _ _ (by assumption) hG (by first | exact Below.refl _ _ | exact (Below.refl _ _).alloc (Nat.le_refl _) _)).mono ?_; clear hG; rintro e w3 ⟨G, bs, rfl, hG, hbN, hS⟩; have hz3 := hS.2.2.2.size; have hS3 := hS; (try (have r1 := (hbN.cell (p := ⟨W1.heap.size, 0, none⟩) (World.block_lt_of_cell? _ _ q1)).trans q1; have r2 := (hbN.frozen (p := ⟨W1.heap.size, 0, none⟩) (World.block_lt_of_cell? _ _ q1)).trans q2; have r3 : W1.heap.size ≠ w3.heap.size := Nat.ne_of_lt (World.block_lt_of_cell? w3 ⟨W1.heap.size, 0, none⟩ r1); have r4 : ¬ w3.heap.size = W1.heap.size := fun e => r3 e.symm; have r5 : ∀ o, (World.alloc w3 o).cell? ⟨W1.heap.size, 0, none⟩ = some (Value.pointer none) := fun o => (((Below.refl _ w3).alloc (Nat.le_refl _) o).cell (p := ⟨W1.heap.size, 0, none⟩) (World.block_lt_of_cell? w3 ⟨W1.heap.size, 0, none⟩ r1)).trans r1; have r6 : ∀ o, (World.alloc w3 o).frozen? ⟨W1.heap.size, 0, none⟩ = false := fun o => (((Below.refl _ w3).alloc (Nat.le_refl _) o).frozen (p := ⟨W1.heap.size, 0, none⟩) (World.block_lt_of_cell? w3 ⟨W1.heap.size, 0, none⟩ r1)).trans r2)); (try (have r1 : w3.cell? ⟨w2.heap.size, 0, none⟩ = some (Value.pointer none) := (hbN.cell (p := ⟨w2.heap.size, 0, none⟩) (by first | (simp; done) | fail)).trans (by first | (simp; done) | fail); have r2 : w3.frozen? ⟨w2.heap.size, 0, none⟩ = false := (hbN.frozen (p := ⟨w2.heap.size, 0, none⟩) (by first | (simp; done) | fail)).trans (by first | (simp; done) | fail); have r3 : w2.heap.size ≠ w3.heap.size := Nat.ne_of_lt (World.block_lt_of_cell? w3 ⟨w2.heap.size, 0, none⟩ r1); have r4 : ¬ w3.heap.size = w2.heap.size := fun e => r3 e.symm; have r5 : ∀ o, (World.alloc w3 o).cell? ⟨w2.heap.size, 0, none⟩ = some (Value.pointer none) := fun o => (((Below.refl _ w3).alloc (Nat.le_refl _) o).cell (p := ⟨w2.heap.size, 0, none⟩) (World.block_lt_of_cell? w3 ⟨w2.heap.size, 0, none⟩ r1)).trans r1; have r6 : ∀ o, (World.alloc w3 o).frozen? ⟨w2.heap.size, 0, none⟩ = false := fun o => (((Below.refl _ w3).alloc (Nat.le_refl _) o).frozen (p := ⟨w2.heap.size, 0, none⟩) (World.block_lt_of_cell? w3 ⟨w2.heap.size, 0, none⟩ r1)).trans r2))))
  focus
    obtain ⟨h1, h2, h3, h4, h5, h6, h7, h8, h9⟩ := hG.out
    have HV : Hid (VNew f ⟨ta, tc, na, nc, pa, pc⟩ m W1 (w3.heap.size + 1) (w3.heap.size) E G bs L (List.replicate f.n (List.replicate m 0)) ((w3.alloc (Obj.cells #[Value.slice ta f.terms.length tc, Value.slice na f.nons.length nc, Value.slice pa f.prods.length pc, Value.slice (some ⟨E, 0, none⟩) f.n f.n, Value.slice (some ⟨G, 0, none⟩) f.n f.n] 54)).alloc (Obj.cells #[Value.pointer (some ⟨w3.heap.size, 0, none⟩)] 55)) ∧ GivesB (fun s => false = true ∧ s < f.terms.length) f.gr f.n L) := by
      refine ⟨view_made hS3.2.2.2 h1 h2 h3 h4 h5 h6 h7 h9 (But.of_next (((Below.refl _ w3).alloc (Nat.le_refl _) _).alloc (by simp) _)) ?_ ?_ (by omega) (by omega) (by omega) (.inl (by omega)), h8⟩
      · constructor <;> go_simp
      · go_simp
    generalize ((w3.alloc (Obj.cells #[Value.slice ta f.terms.length tc, Value.slice na f.nons.length nc, Value.slice pa f.prods.length pc, Value.slice (some ⟨E, 0, none⟩) f.n f.n, Value.slice (some ⟨G, 0, none⟩) f.n f.n] 54)).alloc (Obj.cells #[Value.pointer (some ⟨w3.heap.size, 0, none⟩)] 55)) = W4 at *
    obtain ⟨KB, hKB⟩ : ∃ KB, w3.heap.size + 1 = KB := ⟨_, rfl⟩
    obtain ⟨V, hVV⟩ : ∃ V, w3.heap.size = V := ⟨_, rfl⟩
    first | rw [hKB, hVV] at HV ⊢ | rw [hVV, hKB] at HV ⊢
    clear hKB hVV
  rotate_left
  focus
    obtain ⟨h1, h2, h3, h4, h5, h6, h7, h8, h9⟩ := hG.out
    have HV : Hid (VNew f ⟨ta, tc, na, nc, pa, pc⟩ m W1 (w3.heap.size) (w3.heap.size + 1) E G bs L (List.replicate f.n (List.replicate m 0)) ((w3.alloc (Obj.cells #[Value.pointer (some ⟨w3.heap.size + 1, 0, none⟩)] 55)).alloc (Obj.cells #[Value.slice ta f.terms.length tc, Value.slice na f.nons.length nc, Value.slice pa f.prods.length pc, Value.slice (some ⟨E, 0, none⟩) f.n f.n, Value.slice (some ⟨G, 0, none⟩) f.n f.n] 54)) ∧ GivesB (fun s => false = true ∧ s < f.terms.length) f.gr f.n L) := by
      refine ⟨view_made hS3.2.2.2 h1 h2 h3 h4 h5 h6 h7 h9 (But.of_next (((Below.refl _ w3).alloc (Nat.le_refl _) _).alloc (by simp) _)) ?_ ?_ (by omega) (by omega) (by omega) (.inl (by omega)), h8⟩
      · constructor <;> go_simp
      · go_simp
    generalize ((w3.alloc (Obj.cells #[Value.pointer (some ⟨w3.heap.size + 1, 0, none⟩)] 55)).alloc (Obj.cells #[Value.slice ta f.terms.length tc, Value.slice na f.nons.length nc, Value.slice pa f.prods.length pc, Value.slice (some ⟨E, 0, none⟩) f.n f.n, Value.slice (some ⟨G, 0, none⟩) f.n f.n] 54)) = W4 at *
    obtain ⟨KB, hKB⟩ : ∃ KB, w3.heap.size = KB := ⟨_, rfl⟩
    obtain ⟨V, hVV⟩ : ∃ V, w3.heap.size + 1 = V := ⟨_, rfl⟩
    first | rw [hKB, hVV] at HV ⊢ | rw [hVV, hKB] at HV ⊢
    clear hKB hVV
  rotate_left
  focus
    obtain ⟨h1, h2, h3, h4, h5, h6, h7, h8, h9⟩ := hG.out
    have HV : Hid (VNew f ⟨ta, tc, na, nc, pa, pc⟩ m W1 (w2.heap.size) (w3.heap.size) E G bs L (List.replicate f.n (List.replicate m 0)) ((w3.alloc (Obj.cells #[Value.slice ta f.terms.length tc, Value.slice na f.nons.length nc, Value.slice pa f.prods.length pc, Value.slice (some ⟨E, 0, none⟩) f.n f.n, Value.slice (some ⟨G, 0, none⟩) f.n f.n] 54)).setCell ⟨w2.heap.size, 0, none⟩ (Value.pointer (some ⟨w3.heap.size, 0, none⟩))) ∧ GivesB (fun s => false = true ∧ s < f.terms.length) f.gr f.n L) := by
      refine ⟨view_made hS3.2.2.2 h1 h2 h3 h4 h5 h6 h7 h9 ((But.of_next ((Below.refl _ w3).alloc (Nat.le_refl _) _)).setCell _ _ (.inr rfl)) ?_ ?_ (by omega) (by omega) (by omega) (.inr (.inr ⟨rfl, by simp⟩)), h8⟩
      · constructor <;> go_simp
      · go_simp
    generalize ((w3.alloc (Obj.cells #[Value.slice ta f.terms.length tc, Value.slice na f.nons.length nc, Value.slice pa f.prods.length pc, Value.slice (some ⟨E, 0, none⟩) f.n f.n, Value.slice (some ⟨G, 0, none⟩) f.n f.n] 54)).setCell ⟨w2.heap.size, 0, none⟩ (Value.pointer (some ⟨w3.heap.size, 0, none⟩))) = W4 at *
    obtain ⟨KB, hKB⟩ : ∃ KB, w2.heap.size = KB := ⟨_, rfl⟩
    obtain ⟨V, hVV⟩ : ∃ V, w3.heap.size = V := ⟨_, rfl⟩
    first | rw [hKB, hVV] at HV ⊢ | rw [hVV, hKB] at HV ⊢
    clear hKB hVV
  rotate_left
  focus
    obtain ⟨h1, h2, h3, h4, h5, h6, h7, h8, h9⟩ := hG.out
    have HV : Hid (VNew f ⟨ta, tc, na, nc, pa, pc⟩ m W1 (W1.heap.size) (w3.heap.size) E G bs L (List.replicate f.n (List.replicate m 0)) ((w3.alloc (Obj.cells #[Value.slice ta f.terms.length tc, Value.slice na f.nons.length nc, Value.slice pa f.prods.length pc, Value.slice (some ⟨E, 0, none⟩) f.n f.n, Value.slice (some ⟨G, 0, none⟩) f.n f.n] 54)).setCell ⟨W1.heap.size, 0, none⟩ (Value.pointer (some ⟨w3.heap.size, 0, none⟩))) ∧ GivesB (fun s => false = true ∧ s < f.terms.length) f.gr f.n L) := by
      refine ⟨view_made hS3.2.2.2 h1 h2 h3 h4 h5 h6 h7 h9 ((But.of_next ((Below.refl _ w3).alloc (Nat.le_refl _) _)).setCell _ _ (.inr rfl)) ?_ ?_ (by omega) (by omega) (by omega) (.inr (.inl ⟨rfl, by simp⟩)), h8⟩
      · constructor <;> go_simp
      · go_simp
    generalize ((w3.alloc (Obj.cells #[Value.slice ta f.terms.length tc, Value.slice na f.nons.length nc, Value.slice pa f.prods.length pc, Value.slice (some ⟨E, 0, none⟩) f.n f.n, Value.slice (some ⟨G, 0, none⟩) f.n f.n] 54)).setCell ⟨W1.heap.size, 0, none⟩ (Value.pointer (some ⟨w3.heap.size, 0, none⟩))) = W4 at *
    obtain ⟨KB, hKB⟩ : ∃ KB, W1.heap.size = KB := ⟨_, rfl⟩
    obtain ⟨V, hVV⟩ : ∃ V, w3.heap.size = V := ⟨_, rfl⟩
    first | rw [hKB, hVV] at HV ⊢ | rw [hVV, hKB] at HV ⊢
    clear hKB hVV
  rotate_left
  all_goals
    clear hG hS hS3 hbD hbN hz2 hz3 h1 h2 h3 h4 h5 h6 h7 h8 h9 cD cN hal hset HS0 HW1
    try clear r1
    try clear r2
    try clear r3
    try clear r4
    try clear r5
    try clear r6
    try clear q1
    try clear q2
    have HX : Hid (∀ W, Below W1.heap.size W1 W → W.cell? ⟨w.heap.size, 0, none⟩ = some (.slice ta f.terms.length tc) ∧ W.cell? ⟨w.heap.size, 1, none⟩ = some (.slice na f.nons.length nc) ∧ W.cell? ⟨w.heap.size, 2, none⟩ = some (.slice pa f.prods.length pc)) := fun W hb =>
      ⟨(hb.cell (p := ⟨w.heap.size, 0, none⟩) x0).trans x1, (hb.cell (p := ⟨w.heap.size, 1, none⟩) x0).trans x2, (hb.cell (p := ⟨w.heap.size, 2, none⟩) x0).trans x3⟩
    have HV0 : Hid (VNew f ⟨ta, tc, na, nc, pa, pc⟩ m W1 KB V E G bs L (putsTo m f.n 0) W4) := by show VNew _ _ _ _ _ _ _ _ _ _ _ _; rw [putsTo_zero]; exact HV.out.1
    have HGB : Hid (GivesB (fun s => false = true ∧ s < f.terms.length) f.gr f.n L) := HV.out.2
    obtain ⟨y0, y1, y2⟩ := HX.out _ HV0.out.ok.below
    clear HV
    go_wp2_with fail
    clear y0 y1 y2
    go_loopw [15] (fun i wr => ∃ (j : Nat), i = .int .i64 j ∧ j ≤ f.terms.length ∧ VNew f ⟨ta, tc, na, nc, pa, pc⟩ m W1 KB V E G bs L (putsTo m f.n j) wr) (fun i _ => f.terms.length - (intOf i).toNat)
    case atStart => exact ⟨0, rfl, Nat.zero_le _, HV0.out⟩
    case round =>
      clear HV0
      obtain ⟨j, rfl, hj, hN⟩ := hrel
      obtain ⟨y0, y1, y2⟩ := HX.out _ hN.ok.below
      have k1 := hN.k
      have k2 := hN.ok.v.c4
      by_cases hlt : j < f.terms.length
      · have hjn : j < f.n := by omega
        have hjl : j < (putsTo m f.n j).length := by rw [putsTo_len]; exact hjn
        have k3 := hN.ok.s.cell hjl
        have hsj := hN.ok.s.each j hjl
        rw [putsTo_get hjn, if_neg (by omega)] at hsj
        have HP : Hid (Calls Tryd.prog 51 #[.slice (some ⟨bs.getD j 0, 0, none⟩) m m, .int .i64 j] wr fun e w' => (∃ v, e = .returned v) ∧ VNew f ⟨ta, tc, na, nc, pa, pc⟩ m W1 KB V E G bs L (putsTo m f.n (j + 1)) w') := by
          refine (sput_any _ _ m j wr hsj (by omega) (by omega)).mono ?_
          rintro e w' ⟨he, h1, h2⟩
          refine ⟨he, ?_⟩
          rw [putsTo_succ]
          exact hN.turn hjl h2 h1
        clear hsj hN hjl
        generalize bs.getD j 0 = c at *
        go_wp2_with fail
        refine HP.out.mono ?_
        rintro e w5 ⟨⟨v, rfl⟩, hN⟩
        clear HP k1 k2 k3 y0 y1 y2
        go_wp2_with fail
        exact ⟨⟨j + 1, by go_num, by omega, hN⟩, by simp [intOf]; omega⟩
      · obtain rfl : j = f.terms.length := by omega
        have HSE := HSET.out _ _ _ _ _ _ _ hN HGB.out
        clear hN
        go_wp2_with fail
        refine HSE.mono ?_
        rintro e w5 ⟨⟨v, rfl⟩, R', g1, g2, g3⟩
        have k5 := g1.k
        have HF : Hid (VOk f ⟨ta, tc, na, nc, pa, pc⟩ m w V E G bs L R' w5 ∧ StW f m R' ∧ ∀ q ∈ f.gr, ClosF f R' q) := ⟨⟨g1.ok.v, g1.ok.e, g1.ok.s, g1.ok.vb, g1.ok.eb, by have := g1.ok.vl; omega, by have := g1.ok.el; omega, by have := g1.ok.gl; omega, fun b hb => by have := g1.ok.bl b hb; omega, g1.ok.ve, g1.ok.vg, g1.ok.eg, below_then B0 g1.ok.below B0.size⟩, g2, g3⟩
        clear g1 g2 g3 HSE k1 k2 y0 y1 y2
        go_wp2_with fail
        go_ret
        exact ⟨V, E, G, bs, L, R', rfl, HF.out.1, HGB.out, HF.out.2.1, HF.out.2.2⟩
end Go.Proofs.YtckbfiigbckmeaaDoor
