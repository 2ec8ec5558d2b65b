/- newSets of the program: an empty set for each symbol. -/
import Derived.Test.YtckbfiigbckmeaaDoorSound
import Derived.Test.YtckbfiigbckmeaaDoorSetList
import Derived.Test.YtckbfiigbckmeaaDoorBegMath
import Derived.Test.YtckbfiigbckmeaaDoorHeld
namespace Go.Proofs.YtckbfiigbckmeaaDoor
open Go.RowKit

def slS (m b : Nat) : Value := .slice (some ⟨b, 0, none⟩) m m
/-- Sets, each in a block of its own, their slices in block G. -/
structure SetsB (G m : Nat) (bs : List Nat) (R : List (List Nat)) (W : World) : Prop where
  row : W.heap[G]? = some (Obj.cells (bs.map (slS m)).toArray 61 (0, 0))
  len : bs.length = R.length
  nodup : bs.Nodup
  out : G ∉ bs
  each : ∀ s, s < R.length → SetB (bs.getD s 0) m (WR R s) W

theorem block_cell {W : World} {G i : Nat} {cs : List Value} {t : TypeId} {v : Value} (h : W.heap[G]? = some (Obj.cells cs.toArray t (0, 0))) (hi : cs[i]? = some v) : W.cell? ⟨G, i, none⟩ = some v := by
  simp [World.cell?, h, hi]
theorem block_free {W : World} {G i : Nat} {cs : List Value} {t : TypeId} (h : W.heap[G]? = some (Obj.cells cs.toArray t (0, 0))) : W.frozen? ⟨G, i, none⟩ = false := by
  simp [World.frozen?, h]
/-- The sets that are made up to now. -/
structure NsI (N G m : Nat) (w1 : World) (bs : List Nat) (W : World) : Prop where
  row : W.heap[G]? = some (Obj.cells (bs.map (slS m) ++ List.replicate (N - bs.length) (Value.slice none 0 0)).toArray 61 (0, 0))
  nodup : bs.Nodup
  out : ∀ b ∈ bs, G < b
  each : ∀ b ∈ bs, SetB b m (List.replicate m 0) W
  below : Below G w1 W
theorem NsI.cell {N G m w1 bs W} (h : NsI N G m w1 bs W) (hj : bs.length < N) : W.cell? ⟨G, bs.length, none⟩ = some (.slice none 0 0) := by
  refine block_cell h.row ?_
  rw [List.getElem?_append_right (by simp), List.length_map, Nat.sub_self, List.getElem?_replicate]
  simp; omega
theorem NsI.step {N G m w1 bs W W' b} (h : NsI N G m w1 bs W) (hj : bs.length < N) (hb : Below W.heap.size W W') (hG : G < W.heap.size) (hbl : W.heap.size ≤ b) (hs : SetB b m (List.replicate m 0) W') : NsI N G m w1 (bs ++ [b]) (W'.setCell ⟨G, bs.length, none⟩ (slS m b)) := by
  have hlt : ∀ c ∈ bs, c < W.heap.size := fun c hc => (h.each c hc).lt
  have r1 := (hb.block G hG).trans h.row
  refine ⟨?_, ?_, ?_, ?_, ?_⟩
  · refine (block_set _ r1).trans ?_
    congr 2
    rw [List.setIfInBounds_toArray]
    congr 1
    rw [List.set_append_right _ _ (by simp)]
    simp only [List.length_map, Nat.sub_self, List.length_append, List.length_singleton, List.map_append, List.map_cons, List.map_nil, List.append_assoc]
    congr 1
    obtain ⟨d, hd⟩ : ∃ d, N - bs.length = d + 1 := ⟨N - bs.length - 1, by omega⟩
    rw [hd, show N - (bs.length + 1) = d by omega, List.replicate_succ]
    rfl
  · rw [List.nodup_append]
    refine ⟨h.nodup, by simp, fun x hx y hy => ?_⟩
    simp at hy
    subst hy
    have := hlt x hx
    omega
  · intro c hc
    rcases List.mem_append.1 hc with hc | hc
    · exact h.out c hc
    · simp at hc; omega
  · intro c hc
    rcases List.mem_append.1 hc with hc | hc
    · have h1 := h.each c hc
      have h2 := h.out c hc
      exact ⟨(Below.heap_setCell W' ⟨G, bs.length, none⟩ _ c (by simp only; omega)).trans ((hb.block c h1.lt).trans h1.1), h1.2⟩
    · simp at hc
      subst hc
      exact ⟨(Below.heap_setCell W' ⟨G, bs.length, none⟩ _ c (by simp only; omega)).trans hs.1, hs.2⟩
  · exact (h.below.trans (hb.mono (Nat.le_of_lt hG))).setCell (p := ⟨G, bs.length, none⟩) (Nat.le_refl _) _
theorem NsI.done {N G m w1 bs W} (h : NsI N G m w1 bs W) (hN : bs.length = N) : SetsB G m bs (List.replicate N (List.replicate m 0)) W := by
  refine ⟨?_, by simp [hN], h.nodup, fun hG => by have := h.out G hG; omega, fun s hs => ?_⟩
  · have := h.row
    rw [hN, Nat.sub_self] at this
    simpa using this
  · have hs' : s < N := by simpa using hs
    have e : WR (List.replicate N (List.replicate m 0)) s = List.replicate m 0 := by
      unfold WR
      rw [List.getD_eq_getElem?_getD, List.getElem?_replicate, if_pos hs']
      rfl
    have hl : s < bs.length := by omega
    rw [e, List.getD_eq_getElem?_getD, List.getElem?_eq_getElem hl]
    exact h.each _ (List.getElem_mem hl)

set_option maxRecDepth 100000 in
set_option maxHeartbeats 1000000 in
theorem newSets_any (f : Fl) (a : FlA) (w : World) (hp : FitP f) :
    Calls Tryd.prog 50 #[a.val f] w fun e w' => ∃ G bs, e = .returned (.slice (some ⟨G, 0, none⟩) f.n f.n) ∧ w.heap.size ≤ G ∧ (∀ b ∈ bs, w.heap.size ≤ b) ∧ SetsB G (f.terms.length / 64 + 1) bs (List.replicate f.n (List.replicate (f.terms.length / 64 + 1) 0)) w' ∧ Below w.heap.size w w' := by
  have hn : f.n ≤ 600 := hp.size
  have hS := fun W => symbols_any f a W hn
  have hNS := fun W => newSet_any f a W hn
  obtain ⟨i0, hi0, hz0, hz1, hz2⟩ := info_parts info61
  have X0 := FBox.new f a 25 w
  have B0 : Below w.heap.size w (w.alloc (fobj f a 25)) := (Below.refl _ _).alloc (Nat.le_refl _) _
  obtain ⟨ta, tc, na, nc, pa, pc⟩ := a
  unfold fobj at X0 B0
  unfold FlA.val at hS hNS ⊢
  simp only at *
  generalize f.terms.length / 64 + 1 = m at *
  have HS : Hid (∀ W, Calls Tryd.prog 42 #[.agg #[Value.slice ta f.terms.length tc, Value.slice na f.nons.length nc, Value.slice pa f.prods.length pc]] W fun e w' => e = .returned (.int .i64 f.n) ∧ Below W.heap.size W w') := hS
  have HNS : Hid (∀ W, Calls Tryd.prog 34 #[.agg #[Value.slice ta f.terms.length tc, Value.slice na f.nons.length nc, Value.slice pa f.prods.length pc]] W fun e w' => ∃ b, e = .returned (.slice (some ⟨b, 0, none⟩) m m) ∧ W.heap.size ≤ b ∧ SetB b m (List.replicate m 0) w' ∧ Below W.heap.size W w') := hNS
  clear hS hNS
  obtain ⟨N, hN⟩ : ∃ N, f.n = N := ⟨_, rfl⟩
  rw [hN] at hn HS ⊢
  clear hN hp
  go_enter Tryd.func50, Tryd.ntmps50
  go_wp2_with fail
  generalize (w.alloc (Obj.cells #[Value.slice ta f.terms.length tc, Value.slice na f.nons.length nc, Value.slice pa f.prods.length pc] 25)) = W1 at *
  refine (HS.out _).mono ?_
  rintro e w1 ⟨rfl, hb1⟩
  have X1 := X0.next hb1
  have B1 := below_then B0 hb1 B0.size
  clear X0 B0 hb1 HS
  go_wp2_with (at_make; refine wpList_make_full _ rfl _ _ 52 rfl w1.heap.size 61 i0 _ 1 Tryd.underlying52 hi0 hz0 hz1 _ _ _ _ N rfl rfl rfl rfl (by rw [hz2]; omega) (by unfold maxLen; omega) (Nat.le_refl _) ?_)
  intro w2 hown hg2
  have hown' : w2.ownsRow w1.heap.size 61 1 (.slice (some ⟨w1.heap.size, 0, none⟩) N N) N (madeCells #[Value.slice none 0 0] N).toList := by simpa using hown
  have R0 : NsI N w1.heap.size m w1 [] w2 := by
    refine ⟨?_, List.nodup_nil, by simp, by simp, (Below.refl _ _).grown hg2 (Nat.le_refl _) (fun k e => by cases e)⟩
    obtain ⟨_, h2⟩ := hown'
    rcases h2 with ⟨h2, _⟩ | ⟨g', cap, cur, hv, hB, hg, hc, hm, hz, hx⟩
    · cases h2
    · cases hv
      rw [hg]
      have e : cur.toList = List.replicate N (.slice none 0 0) := by
        rw [Nat.mul_one] at hx hz
        rw [List.take_of_length_le (by simp [hz])] at hx
        rw [hx, toList_madeCells_one]
      rw [show (List.map (slS m) [] ++ List.replicate (N - ([] : List Nat).length) (Value.slice none 0 0)) = List.replicate N (Value.slice none 0 0) by simp, ← e]
  have hGw : w.heap.size ≤ w1.heap.size := B1.size
  have hXl := X1.1
  obtain ⟨G, hG⟩ : ∃ G, w1.heap.size = G := ⟨_, rfl⟩
  have HX : Hid (∀ W, Below G w1 W → FBox f ⟨ta, tc, na, nc, pa, pc⟩ w.heap.size W) := fun W hb => X1.next (by rw [hG]; exact hb)
  have HB : Hid (∀ W, Below G w1 W → Below w.heap.size w W) := fun W hb => below_then B1 (by rw [hG]; exact hb) B1.size
  have HR0 : Hid (NsI N G m w1 [] w2) := by rw [← hG]; exact R0
  have HGL : Hid (∀ W, Below G w1 W → G ≤ W.heap.size) := fun W hb => by have := hb.size; omega
  rw [hG] at hGw hXl ⊢
  clear hown hown' hg2 R0 X1 B1 hG
  go_wp2_with fail
  go_loopw [10] (fun i wr => ∃ (bs : List Nat), i = .int .i64 bs.length ∧ bs.length ≤ N ∧ NsI N G m w1 bs wr) (fun i _ => N - (intOf i).toNat)
  case atStart => exact ⟨[], rfl, Nat.zero_le _, HR0.out⟩
  case round =>
  clear HR0
  obtain ⟨bs, rfl, hj, R⟩ := hrel
  obtain ⟨x0, x1, x2, x3⟩ := HX.out _ R.below
  simp only at x1 x2 x3
  have hGl : G < wr.heap.size := (Array.getElem?_eq_some_iff.1 R.row).1
  by_cases hlt : bs.length < N
  · have HST := fun W' b hb hbl hs => R.step (W' := W') (b := b) hlt hb hGl hbl hs
    have HC := HNS.out wr
    have hcl := R.cell hlt
    have hfr : wr.frozen? ⟨G, bs.length, none⟩ = false := block_free R.row
    have HST' : Hid (∀ W' b, Below wr.heap.size wr W' → wr.heap.size ≤ b → SetB b m (List.replicate m 0) W' → NsI N G m w1 (bs ++ [b]) (W'.setCell ⟨G, bs.length, none⟩ (slS m b))) := HST
    have HC' : Hid (Calls Tryd.prog 34 #[.agg #[Value.slice ta f.terms.length tc, Value.slice na f.nons.length nc, Value.slice pa f.prods.length pc]] wr fun e w' => ∃ b, e = .returned (.slice (some ⟨b, 0, none⟩) m m) ∧ wr.heap.size ≤ b ∧ SetB b m (List.replicate m 0) w' ∧ Below wr.heap.size wr w') := HC
    clear HST HC R
    go_wp2_with fail
    refine HC'.out.mono ?_
    rintro e w3 ⟨b, rfl, hbl, hs, hb3⟩
    have HF : Hid (NsI N G m w1 (bs ++ [b]) (w3.setCell ⟨G, bs.length, none⟩ (.slice (some ⟨b, 0, none⟩) m m))) := HST'.out w3 b hb3 hbl hs
    have c3 := (hb3.cell (p := ⟨G, bs.length, none⟩) hGl).trans hcl
    have f3 := (hb3.frozen (p := ⟨G, bs.length, none⟩) hGl).trans hfr
    clear HST' HC' hs hb3 hcl hfr x0 x1 x2 x3
    go_wp2_with fail
    exact ⟨⟨bs ++ [b], by simp, by simp; omega, HF.out⟩, by simp [intOf]; omega⟩
  · have hN' : bs.length = N := by omega
    have HF : Hid (SetsB G m bs (List.replicate N (List.replicate m 0)) wr ∧ (∀ b ∈ bs, G < b) ∧ Below w.heap.size w wr) := ⟨R.done hN', R.out, HB.out _ R.below⟩
    clear R
    go_wp2_with fail
    go_ret
    exact ⟨G, bs, rfl, hGw, fun b hb => by have := HF.out.2.1 b hb; omega, HF.out.1, HF.out.2.2⟩
end Go.Proofs.YtckbfiigbckmeaaDoor
