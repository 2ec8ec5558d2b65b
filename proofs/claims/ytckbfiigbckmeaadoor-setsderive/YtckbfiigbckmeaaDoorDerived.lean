/- derived of the program: which symbols derive a row, or the empty one. -/
import Derived.Test.YtckbfiigbckmeaaDoorSound
import Derived.Test.YtckbfiigbckmeaaDoorRefUse
import Derived.Test.YtckbfiigbckmeaaDoorSetOps
namespace Go.Proofs.YtckbfiigbckmeaaDoor
open Go.RowKit

/-- A row of truths in a block of its own. -/
def RowK (G N : Nat) (L : List Bool) (W : World) : Prop := W.heap[G]? = some (Obj.cells (L.map encB).toArray 4 (0, 0)) ∧ L.length = N
theorem RowK.lt {G N L W} (h : RowK G N L W) : G < W.heap.size := (Array.getElem?_eq_some_iff.1 h.1).1
theorem RowK.cell {G N L W} (h : RowK G N L W) {i : Nat} (hi : i < N) : W.cell? ⟨G, i, none⟩ = some (.bool (onb L i)) := by
  have hl : i < L.length := by rw [h.2]; exact hi
  rw [onb_get hl]
  have := h.1
  simp [World.cell?, this, hl, encB]
theorem RowK.frozen {G N L W} (h : RowK G N L W) (i : Nat) : W.frozen? ⟨G, i, none⟩ = false := by
  have := h.1
  simp [World.frozen?, this]
theorem RowK.set {G N L W} (h : RowK G N L W) (i : Nat) (x : Bool) : RowK G N (L.set i x) (W.setCell ⟨G, i, none⟩ (.bool x)) := by
  refine ⟨(block_set _ h.1).trans ?_, by rw [List.length_set]; exact h.2⟩
  simp [encB, List.map_set]
theorem RowK.but {G N L W W'} {D : Nat → Prop} (h : RowK G N L W) (hb : But D W W') (hd : ¬ D G) : RowK G N L W' := ⟨(hb.block G h.lt hd).trans h.1, h.2⟩
theorem RowK.next {G N L W W'} (h : RowK G N L W) (hb : Below W.heap.size W W') : RowK G N L W' := ⟨(hb.block G h.lt).trans h.1, h.2⟩
theorem rowK_made {W : World} {B g M : Nat} (h : W.ownsRow B 4 1 (.slice (some ⟨g, 0, none⟩) M M) M (madeCells #[Value.bool false] M).toList) : RowK g M (List.replicate M false) W := by
  refine ⟨?_, by simp⟩
  obtain ⟨h1, h2⟩ := h
  rcases h2 with ⟨h2, _⟩ | ⟨g', cap, cur, hv, hB, hg, hc, hm, hz, hx⟩
  · cases h2
  · cases hv
    rw [hg]
    have e : cur.toList = (List.replicate M false).map encB := by
      rw [Nat.mul_one] at hx hz
      rw [List.take_of_length_le (by simp [hz])] at hx
      rw [hx, made_false]
    rw [← e]
theorem RowK.slB {G N L W} (h : RowK G N L W) : SlB L (.slice (some ⟨G, 0, none⟩) N N) W := by
  refine ⟨some ⟨G, 0, none⟩, N, (by rw [h.2]), (fun i x hi => ?_), (fun e => by cases e), (by rw [h.2]; exact Nat.le_refl _)⟩
  obtain ⟨hl, rfl⟩ := List.getElem?_eq_some_iff.1 hi
  refine ⟨G, 0, rfl, h.lt, ?_⟩
  rw [Nat.zero_add, h.cell (by rw [← h.2]; exact hl), onb_get hl]
  rfl

set_option maxRecDepth 100000 in
set_option maxHeartbeats 800000 in
theorem derived11_any (L : List Bool) (G N KB : Nat) (x : It) (w : World) (hR : RowK G N L w) (hK : w.cell? ⟨KB, 0, none⟩ = some (.slice (some ⟨G, 0, none⟩) N N)) (hx : 0 ≤ x.sym ∧ x.sym < (N : Int)) :
    Calls Tryd.prog 49 #[.agg #[.int .i64 x.sym, .string x.fld, .string x.als], .pointer (some ⟨KB, 0, none⟩)] w fun e w' => e = .returned (.bool (!onb L x.sym.toNat)) ∧ Below w.heap.size w w' := by
  have hKl : KB < w.heap.size := World.block_lt_of_cell? w _ hK
  have hGl := hR.lt
  obtain ⟨xs, xf, xa⟩ := x
  simp only at *
  obtain ⟨q, rfl⟩ : ∃ q : Nat, xs = q := ⟨xs.toNat, by omega⟩
  rw [Int.toNat_natCast]
  have hc := hR.cell (i := q) (by omega)
  generalize onb L q = oq at *
  have h1 : KB ≠ w.heap.size := by omega
  have h2 : G ≠ w.heap.size := by omega
  clear hR
  go_enter Tryd.func49, Tryd.ntmps49
  go_wp2_with fail
  go_ret
  exact ⟨rfl, (Below.refl _ _).alloc (Nat.le_refl _) _⟩

/-- What one production does to a row of truths. -/
def grB (L : List Bool) (l : Nat) (sy : List Nat) : Bool := !onb L l && sy.all (onb L)

set_option maxRecDepth 100000 in
set_option maxHeartbeats 800000 in
theorem derived1_any (L : List Bool) (G N KB l : Nat) (r : List It) (v : Value) (w : World) (hR : RowK G N L w) (hK : w.cell? ⟨KB, 0, none⟩ = some (.slice (some ⟨G, 0, none⟩) N N)) (hl : l < N) (hv : SlT r v w) (hr : r.length ≤ 64) (hs : ∀ x ∈ r, 0 ≤ x.sym ∧ x.sym < (N : Int)) :
    Calls Tryd.prog 47 #[.int .i64 l, v, .pointer (some ⟨KB, 0, none⟩)] w fun e w' => e = .returned (.bool (grB L l (r.map fun x => x.sym.toNat))) ∧ RowK G N (if grB L l (r.map fun x => x.sym.toNat) then L.set l true else L) w' ∧ But (fun k => k = G) w w' := by
  have hC := fun W (hb : Below w.heap.size w W) => anyItems 49 #[.pointer (some ⟨KB, 0, none⟩)] (enters_of Tryd.func49 (by kernel_rfl) rfl) (fun x => !onb L x.sym.toNat) r v W (hv.next hb) (by omega)
    (fun W' x hx hb' => (derived11_any L G N KB x W' ((hR.next hb).next hb') ((hb'.cell (p := ⟨KB, 0, none⟩) (Nat.lt_of_lt_of_le (World.block_lt_of_cell? w _ hK) hb.size)).trans ((hb.cell (p := ⟨KB, 0, none⟩) (World.block_lt_of_cell? w _ hK)).trans hK)) (hs x hx)).mono fun e w' ⟨h1, h2⟩ => ⟨h1, below_then hb' h2 hb'.size⟩)
  have hany : r.any (fun x => !onb L x.sym.toNat) = !((r.map fun x => x.sym.toNat).all (onb L)) := by
    rw [List.all_map, List.any_eq_not_all_not]
    simp [Function.comp_def]
  rw [hany] at hC
  have HG : Hid (grB L l (r.map fun x => x.sym.toNat) = (!onb L l && (r.map fun x => x.sym.toNat).all (onb L))) := rfl
  have hcl := hR.cell hl
  have hfz := hR.frozen l
  have HS : Hid (RowK G N (L.set l true) (w.setCell ⟨G, l, none⟩ (.bool true))) := hR.set l true
  generalize (r.map fun x => x.sym.toNat).all (onb L) = al at *
  obtain ⟨va, vc, rfl, _⟩ := hv
  have HC : Hid (∀ W, Below w.heap.size w W → Calls Tryd.prog 48 #[.slice va r.length vc, .func (.func 49) #[] #[.pointer (some ⟨KB, 0, none⟩)]] W fun e w' => e = .returned (.bool (!al)) ∧ Below W.heap.size W w') := hC
  clear hC hany hs
  have HR : Hid (RowK G N L w) := hR
  have hne : KB ≠ G := fun e => by subst e; rw [show (⟨KB, 0, none⟩ : Addr) = ⟨KB, 0, none⟩ from rfl, hR.cell (Nat.lt_of_le_of_lt (Nat.zero_le _) hl)] at hK; cases hK
  cases ho : onb L l with
  | true =>
    rw [ho] at hcl HG
    rw [show grB L l (r.map fun x => x.sym.toNat) = false from HG.out]
    simp only [Bool.false_eq_true, if_false]
    clear HG
    go_enter Tryd.func47, Tryd.ntmps47
    go_wp2_with fail
    go_ret
    exact ⟨rfl, HR.out, But.refl _ _⟩
  | false =>
    rw [ho] at hcl HG
    cases al with
    | true =>
      rw [show grB L l (r.map fun x => x.sym.toNat) = true from HG.out]
      simp only [if_true]
      clear HG
      go_enter Tryd.func47, Tryd.ntmps47
      go_wp2_with fail
      refine (HC.out _ (Below.refl _ _)).mono ?_
      rintro e w1 ⟨rfl, hb1⟩
      have hz := hb1.size
      have R1 := HR.out.next hb1
      have hK1 := (hb1.cell (p := ⟨KB, 0, none⟩) (World.block_lt_of_cell? w _ hK)).trans hK
      have hc1 := R1.cell hl
      have hf1 := R1.frozen l
      have HF : Hid (RowK G N (L.set l true) (w1.setCell ⟨G, l, none⟩ (.bool true)) ∧ But (fun k => k = G) w (w1.setCell ⟨G, l, none⟩ (.bool true))) := ⟨R1.set l true, (But.of_next hb1).setCell _ _ (.inr rfl)⟩
      clear hb1 hcl hfz hK R1 HR HS HC hR
      go_wp2_with fail
      go_ret
      exact ⟨rfl, HF.out.1, HF.out.2⟩
    | false =>
      rw [show grB L l (r.map fun x => x.sym.toNat) = false from HG.out]
      simp only [Bool.false_eq_true, if_false]
      clear HG
      go_enter Tryd.func47, Tryd.ntmps47
      go_wp2_with fail
      refine (HC.out _ (Below.refl _ _)).mono ?_
      rintro e w1 ⟨rfl, hb1⟩
      have HF : Hid (RowK G N L w1 ∧ But (fun k => k = G) w w1) := ⟨HR.out.next hb1, But.of_next hb1⟩
      clear hb1 HR HS HC hR
      go_wp2_with fail
      go_ret
      exact ⟨rfl, HF.out.1, HF.out.2⟩

theorem below_but {w V V' : World} {D : Nat → Prop} (h : Below w.heap.size w V) (hb : But D V V') (hd : ∀ k, D k → w.heap.size ≤ k) : Below w.heap.size w V' := h.trans (hb.below h.size hd)
/-- The first k told t, the others false. -/
def upB (t : Bool) (N k : Nat) : List Bool := (List.range N).map fun i => t && decide (i < k)
theorem upB_len (t : Bool) (N k : Nat) : (upB t N k).length = N := by simp [upB]
theorem upB_zero (t : Bool) (N : Nat) : upB t N 0 = List.replicate N false := by
  unfold upB
  apply List.ext_getElem (by simp)
  intro i h1 h2
  simp
theorem upB_on {t : Bool} {N k s : Nat} : OnB (upB t N k) s ↔ s < N ∧ t = true ∧ s < k := by
  unfold OnB upB
  rw [List.getElem?_map]
  by_cases h : s < N
  · rw [List.getElem?_range h]; simp [h]
  · rw [List.getElem?_eq_none (by simp; omega)]; simp [h]
theorem upB_set {t : Bool} {N k : Nat} : (upB t N k).set k t = upB t N (k + 1) := by
  unfold upB
  apply List.ext_getElem (by simp)
  intro i h1 h2
  rw [List.getElem_set]
  split
  · rename_i h; subst h; simp
  · have e : decide (i < k) = decide (i < k + 1) := by rw [decide_eq_decide]; omega
    simp [e]

theorem grB_false {L : List Bool} {l : Nat} {sy : List Nat} (h : grB L l sy = false) : ClosedB L (l, sy) := by
  unfold grB at h
  intro hx
  rw [← onb_iff]
  cases ho : onb L l with
  | true => rfl
  | false =>
    rw [ho] at h
    have : sy.all (onb L) = true := List.all_eq_true.2 fun x hx' => onb_iff.2 (hx x hx')
    rw [this] at h
    cases h
theorem grB_true {L : List Bool} {l : Nat} {sy : List Nat} (h : grB L l sy = true) : ¬ OnB L l ∧ ∀ x ∈ sy, OnB L x := by
  unfold grB at h
  simp only [Bool.and_eq_true, Bool.not_eq_true', List.all_eq_true] at h
  exact ⟨(fun ho => by rw [← onb_iff, h.1] at ho; cases ho), fun x hx => onb_iff.1 (h.2 x hx)⟩

set_option maxRecDepth 100000 in
set_option maxHeartbeats 2000000 in
theorem derived_any (f : Fl) (a : FlA) (t : Bool) (w : World) (hf : FlAt f a w) (hp : FitP f) :
    Calls Tryd.prog 27 #[a.val f, .bool t] w fun e w' => ∃ G L, e = .returned (.slice (some ⟨G, 0, none⟩) f.n f.n) ∧ w.heap.size ≤ G ∧ RowK G f.n L w' ∧ GivesB (fun s => t = true ∧ s < f.terms.length) f.gr f.n L ∧ Below w.heap.size w w' := by
  have hn : f.n ≤ 600 := hp.size
  have hS := fun W => symbols_any f a W hn
  have HSET : Hid (∀ (W : World) (G KB : Nat) (L : List Bool), FlAt f a W → RowK G f.n L W → W.cell? ⟨KB, 0, none⟩ = some (.slice (some ⟨G, 0, none⟩) f.n f.n) → w.heap.size ≤ G → Below w.heap.size w W → SoundB (fun s => t = true ∧ s < f.terms.length) f.gr L → (∀ s, t = true ∧ s < f.terms.length → OnB L s) →
      Calls Tryd.prog 46 #[a.val f, .func (.func 47) #[] #[.pointer (some ⟨KB, 0, none⟩)]] W fun e w' => (∃ v, e = .returned v) ∧ w'.cell? ⟨KB, 0, none⟩ = some (.slice (some ⟨G, 0, none⟩) f.n f.n) ∧ ∃ L', RowK G f.n L' w' ∧ GivesB (fun s => t = true ∧ s < f.terms.length) f.gr f.n L' ∧ Below w.heap.size w w') := by
    intro W G KB L hfl hR hK hwG hB hs hb
    have hGl := hR.lt
    have hKl := World.block_lt_of_cell? W _ hK
    have hne : KB ≠ G := fun e => by
      subst e
      have := hR.cell (i := 0) (by have := hp.nons; unfold Fl.n; omega)
      rw [this] at hK; cases hK
    have hpa : ∀ ad, a.pa = some ad → f.prods.length ≠ 0 → ad.block < w.heap.size := fun ad h0 h1 => by
      obtain ⟨b, off, v, e, hb', _⟩ := hf.2.2.1.at (Below.refl _ _) (j := 0) (by omega)
      rw [e] at h0; cases h0; exact hb'
    refine (settle_any (σ := List Bool) f a 47 #[.pointer (some ⟨KB, 0, none⟩)] (enters_of Tryd.func47 (by kernel_rfl) rfl)
      (fun L V => FlAt f a V ∧ RowK G f.n L V ∧ V.cell? ⟨KB, 0, none⟩ = some (.slice (some ⟨G, 0, none⟩) f.n f.n) ∧ Below w.heap.size w V ∧ SoundB (fun s => t = true ∧ s < f.terms.length) f.gr L ∧ (∀ s, t = true ∧ s < f.terms.length → OnB L s)) (fun k => k = G) offs
      (fun j L => ∀ q, f.gr[j]? = some q → ClosedB L q) W hp (fun L V h => h.1) ?hS (fun k hk => by rw [hk]; exact hGl) ?hDa ?hg L ⟨hfl, hR, hK, hB, hs, hb⟩).mono ?_
    case hS =>
      rintro L V V' ⟨k1, k2, k3, k4, k5, k6⟩ hVV
      exact ⟨hf.next (k4.trans (hVV.mono hB.size)), ⟨(hVV.block G hGl).trans k2.1, k2.2⟩, (hVV.cell (p := ⟨KB, 0, none⟩) hKl).trans k3, k4.trans (hVV.mono hB.size), k5, k6⟩
    case hDa =>
      intro hpos ad had hk
      have := hpa ad had (by omega)
      omega
    case hg =>
      rintro j hj L V v ⟨k1, k2, k3, k4, k5, k6⟩ hv hz -
      have hlf := hp.left _ (List.getElem_mem hj)
      have hq : f.gr[j]? = some (f.prods[j].left.toNat, f.prods[j].syms) := by unfold Fl.gr; rw [List.getElem?_map, List.getElem?_eq_getElem hj]; rfl
      have hm := gr_mem hj
      have hln : (f.terms.length + f.nons.length : Nat) = f.n := rfl
      obtain ⟨l, hl⟩ : ∃ l : Nat, f.prods[j].left = l := ⟨f.prods[j].left.toNat, by omega⟩
      rw [hl, Int.toNat_natCast] at hq hm
      rw [hl]
      refine (derived1_any L G f.n KB l f.prods[j].right v V k2 k3 (by omega) hv (hp.right _ (List.getElem_mem hj)) (fun x hx => hp.sym _ (List.getElem_mem hj) x hx)).mono ?_
      rintro e V' ⟨rfl, h1, h2⟩
      have hb' := below_but k4 h2 (fun k hk => by rw [hk]; exact hwG)
      cases hgb : grB L l (f.prods[j].right.map fun x => x.sym.toNat) with
      | true =>
        rw [hgb] at h1
        simp only [if_true] at h1
        obtain ⟨g1, g2⟩ := grB_true hgb
        refine ⟨L.set l true, true, rfl, ⟨hf.next hb', h1, (h2.cell (p := ⟨KB, 0, none⟩) (World.block_lt_of_cell? V _ k3) hne).trans k3, hb', soundB_set k5 (by rw [k2.2]; omega) hm g2, fun s hs => onB_set (k6 s hs)⟩, h2, fun _ => offs_set (by rw [k2.2]; omega) g1, fun h => by cases h⟩
      | false =>
        rw [hgb] at h1
        simp only [Bool.false_eq_true, if_false] at h1
        exact ⟨L, false, rfl, ⟨hf.next hb', h1, (h2.cell (p := ⟨KB, 0, none⟩) (World.block_lt_of_cell? V _ k3) hne).trans k3, hb', k5, k6⟩, h2, (fun h => by cases h), fun _ => ⟨rfl, fun q hq' => by rw [hq] at hq'; cases hq'; exact grB_false hgb⟩⟩
    · rintro e W' ⟨he, L', ⟨k1, k2, k3, k4, k5, k6⟩, hcl, _⟩
      refine ⟨he, k3, L', k2, ⟨k2.2, fun s _ => ⟨k5 s, fun hd => complete_B k6 (fun q hq => ?_) hd⟩⟩, k4⟩
      obtain ⟨j, hj, rfl⟩ := List.getElem_of_mem hq
      exact hcl j (by simpa [Fl.gr] using hj) _ (List.getElem?_eq_getElem hj)
  obtain ⟨i0, hi0, hz0, hz1, hz2⟩ := info_parts info4
  have X0 := FBox.new f a 25 w
  have B0 : Below w.heap.size w (w.alloc (fobj f a 25)) := (Below.refl _ _).alloc (Nat.le_refl _) _
  have HFL : Hid (∀ W, Below w.heap.size w W → FlAt f a W) := fun W hb => hf.next hb
  obtain ⟨ta, tc, na, nc, pa, pc⟩ := a
  unfold fobj at X0 B0
  unfold FlA.val at hS HSET ⊢
  simp only at *
  have HS : Hid (∀ W, Calls Tryd.prog 42 #[.agg #[Value.slice ta f.terms.length tc, Value.slice na f.nons.length nc, Value.slice pa f.prods.length pc]] W fun e w' => e = .returned (.int .i64 f.n) ∧ Below W.heap.size W w') := hS
  have hpn := hp.nons
  clear hS hf hp
  have htN : f.terms.length ≤ f.n := by unfold Fl.n; omega
  obtain ⟨N, hN⟩ : ∃ N, f.n = N := ⟨_, rfl⟩
  rw [hN] at hn HS HSET htN ⊢
  have HNN : Hid (f.n = N) := hN
  clear hN
  go_enter Tryd.func27, Tryd.ntmps27
  go_wp2_with fail
  generalize (w.alloc (Obj.cells #[Value.slice ta f.terms.length tc, Value.slice na f.nons.length nc, Value.slice pa f.prods.length pc] 25)) = W1 at *
  refine (HS.out _).mono ?_
  rintro e w1 ⟨rfl, hb1⟩
  have X1 := X0.next hb1
  have B1 := below_then B0 hb1 B0.size
  clear X0 B0 hb1 HS
  go_wp2_with (at_make; refine wpList_make_full _ rfl _ _ 31 rfl w1.heap.size 4 i0 _ 1 Tryd.underlying31 hi0 hz0 hz1 _ _ _ _ N rfl rfl rfl rfl (by rw [hz2]; omega) (by unfold maxLen; omega) (Nat.le_refl _) ?_)
  intro w2 hown hg2
  have hown' : w2.ownsRow w1.heap.size 4 1 (.slice (some ⟨w1.heap.size, 0, none⟩) N N) N (madeCells #[Value.bool false] N).toList := by simpa using hown
  have R0 := rowK_made hown'
  have B2 : Below w1.heap.size w1 w2 := (Below.refl _ _).grown hg2 (Nat.le_refl _) (fun k e => by cases e)
  have X2 := X1.next B2
  have hGw : w.heap.size ≤ w1.heap.size := B1.size
  obtain ⟨G, hG⟩ : ∃ G, w1.heap.size = G := ⟨_, rfl⟩
  rw [hG] at R0 hGw ⊢
  have B3 := below_then B1 B2 B1.size
  have hGl := R0.lt
  have hXl := X1.1
  rw [hG] at hXl
  have hb3 : Below w2.heap.size w2 (w2.alloc (Obj.cells #[Value.slice (some ⟨G, 0, none⟩) N N] 31)) := (Below.refl _ _).alloc (Nat.le_refl _) _
  have X3 := X2.next hb3
  have R3 := R0.next hb3
  have B4 := below_then B3 hb3 B3.size
  have K3 : (w2.alloc (Obj.cells #[Value.slice (some ⟨G, 0, none⟩) N N] 31)).cell? ⟨w2.heap.size, 0, none⟩ = some (.slice (some ⟨G, 0, none⟩) N N) := by simp
  obtain ⟨x0, x1, x2, x3⟩ := id X3
  simp only at x1 x2 x3
  clear hown hown' hg2 X1 B1 B2 hG X2 R0 B3 hb3
  go_wp2_with fail
  generalize w2.alloc (Obj.cells #[Value.slice (some ⟨G, 0, none⟩) N N] 31) = W2 at *
  have hW2l : w2.heap.size < W2.heap.size := World.block_lt_of_cell? W2 _ K3
  have HN : Hid (∀ W, But (fun k => k = G) W2 W → W.cell? ⟨w.heap.size, 0, none⟩ = some (.slice ta f.terms.length tc) ∧ W.cell? ⟨w.heap.size, 1, none⟩ = some (.slice na f.nons.length nc) ∧ W.cell? ⟨w.heap.size, 2, none⟩ = some (.slice pa f.prods.length pc) ∧ W.cell? ⟨w2.heap.size, 0, none⟩ = some (.slice (some ⟨G, 0, none⟩) N N) ∧ Below w.heap.size w W) := fun W hb =>
    ⟨(hb.cell (p := ⟨w.heap.size, 0, none⟩) (by show w.heap.size < _; omega) (by show w.heap.size ≠ G; omega)).trans x1, (hb.cell (p := ⟨w.heap.size, 1, none⟩) (by show w.heap.size < _; omega) (by show w.heap.size ≠ G; omega)).trans x2, (hb.cell (p := ⟨w.heap.size, 2, none⟩) (by show w.heap.size < _; omega) (by show w.heap.size ≠ G; omega)).trans x3, (hb.cell (p := ⟨w2.heap.size, 0, none⟩) hW2l (by show w2.heap.size ≠ G; omega)).trans K3, below_but B4 hb (fun k hk => by rw [hk]; exact hGw)⟩
  have HR3 : Hid (RowK G N (upB t N 0) W2) := by show RowK _ _ _ _; rw [upB_zero]; exact R3
  clear x0 x1 x2 x3 X3 R3 B4 K3
  go_loopw [13] (fun i wr => ∃ (j : Nat), i = .int .i64 j ∧ j ≤ f.terms.length ∧ RowK G N (upB t N j) wr ∧ But (fun k => k = G) W2 wr) (fun i _ => f.terms.length - (intOf i).toNat)
  case atStart => exact ⟨0, rfl, Nat.zero_le _, HR3.out, But.refl _ _⟩
  case round =>
  clear HR3
  obtain ⟨j, rfl, hj, R, hb⟩ := hrel
  obtain ⟨d0, d1, d2, d3, d4⟩ := HN.out _ hb
  by_cases hlt : j < f.terms.length
  · have c1 := R.cell (i := j) (by omega)
    have fz := R.frozen j
    have HF : Hid (RowK G N (upB t N (j + 1)) (wr.setCell ⟨G, j, none⟩ (.bool t)) ∧ But (fun k => k = G) W2 (wr.setCell ⟨G, j, none⟩ (.bool t))) := ⟨by rw [← upB_set]; exact R.set j t, hb.setCell _ _ (.inr rfl)⟩
    generalize onb (upB t N j) j = o at *
    clear R hb d4
    go_wp2_with fail
    exact ⟨⟨j + 1, by go_num, by omega, HF.out.1, HF.out.2⟩, by simp [intOf]; omega⟩
  · obtain rfl : j = f.terms.length := by omega
    have HC := HSET.out wr G w2.heap.size (upB t N f.terms.length) (HFL.out _ d4) R d3 hGw d4 (fun s hs => .base ⟨(upB_on.1 hs).2.1, (upB_on.1 hs).2.2⟩) (fun s hs => upB_on.2 ⟨by omega, hs.1, hs.2⟩)
    clear HSET HFL HN R hb
    go_wp2_with fail
    refine HC.mono ?_
    rintro e w3 ⟨⟨v, rfl⟩, g1, L', g2, g3, g4⟩
    have HF : Hid (RowK G N L' w3 ∧ GivesB (fun s => t = true ∧ s < f.terms.length) f.gr N L' ∧ Below w.heap.size w w3) := ⟨g2, g3, g4⟩
    clear g2 g3 g4 HC d0 d1 d2 d3 d4
    go_wp2_with fail
    go_ret
    exact ⟨G, L', rfl, hGw, HF.out.1, HF.out.2.1, HF.out.2.2⟩
end Go.Proofs.YtckbfiigbckmeaaDoor
