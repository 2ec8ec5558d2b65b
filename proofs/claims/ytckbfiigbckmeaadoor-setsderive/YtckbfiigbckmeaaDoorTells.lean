/- The law SetsTells, walked. -/
import Derived.Test.YtckbfiigbckmeaaDoorTellsWalk
namespace Go.Proofs.YtckbfiigbckmeaaDoor
open Go.RowKit

theorem bound_F {f : Fl} (hp : FitP f) {s : Nat} {t : Int} (h : FstP f s t) : 0 ≤ t ∧ t < (601 : Nat) := by
  have h1 := fst_lt h; have h2 := hp.size; omega
theorem bound_O {f : Fl} (hp : FitP f) {s : Nat} {t : Int} (h : FolP f s t) : 0 ≤ t ∧ t < (601 : Nat) := by
  have h1 := fol_le h; have h2 := hp.size; omega
theorem ahead_in {f : Fl} {l : List It} {bh : List Int} (hp : FitP f) (hb : bh.length ≤ 1000) : ∃ K : List Int, K.length ≤ 100000 ∧ ∀ t, AheadP f l bh t → t ∈ K := by
  refine ⟨(List.range 601).map (fun i : Nat => (i : Int)) ++ bh, by simp; omega, fun t ht => ?_⟩
  rcases beg_iff.1 ht with h | h
  · have h1 := beg_lt (n := f.terms.length) (fun s t h => fst_lt h) h
    have h2 := hp.size
    refine List.mem_append.2 (.inl (List.mem_map.2 ⟨t.toNat, List.mem_range.2 (by omega), by omega⟩))
  · exact List.mem_append.2 (.inr h.2)

set_option maxRecDepth 100000 in
set_option maxHeartbeats 6400000 in
theorem tells_any (hO : SetsOk) (hW : AwakeOk) (f : Fl) (a : FlA) (l : List It) (bh : List Int) (vl vb : Value) (w : World) (hf : FlAt f a w) (hl : SlT l vl w) (hb : SlI bh vb w) (hT : Tb w) :
    Calls Tryd.prog 3 #[a.val f, vl, vb] w fun e w' => e = .returned (.bool true) ∧ Below w.heap.size w w' := by
  have hfew := fun W (hb : Below w.heap.size w W) => few_any f a W (hf.next hb)
  have hff := fun W (hb : Below w.heap.size w W) => hf.next hb
  obtain ⟨ta, tc, na, nc, pa, pc⟩ := a
  have X0 := FBox.new f ⟨ta, tc, na, nc, pa, pc⟩ 25 w
  have B0 : Below w.heap.size w (w.alloc (fobj f ⟨ta, tc, na, nc, pa, pc⟩ 25)) := (Below.refl _ _).alloc (Nat.le_refl _) _
  obtain ⟨la, lc, rfl, _⟩ := id hl
  obtain ⟨ba, bc, rfl, _⟩ := id hb
  have HL : Hid (SlT l (.slice la l.length lc) w ∧ SlI bh (.slice ba bh.length bc) w) := ⟨hl, hb⟩
  clear hf hl hb
  unfold fobj at X0 B0
  unfold FlA.val at hfew ⊢
  simp only at X0 B0 hfew ⊢
  have HFW : Hid (∀ W, Below w.heap.size w W → Calls Tryd.prog 7 #[.agg #[.slice ta f.terms.length tc, .slice na f.nons.length nc, .slice pa f.prods.length pc]] W fun e w' => e = .returned (.bool (fewB f)) ∧ Below W.heap.size W w') := hfew
  have HFF : Hid (∀ W, Below w.heap.size w W → FlAt f ⟨ta, tc, na, nc, pa, pc⟩ W) := hff
  have HAW : Hid (∀ W, Below w.heap.size w W → Calls Tryd.prog 8 #[] W fun e w' => e = .returned (.bool true) ∧ Below W.heap.size W w') := fun W hb => hW W (hT.next hb)
  have HTB : Hid (∀ W, Below w.heap.size w W → Tb W) := fun W hb => hT.next hb
  have HOK : Hid SetsOk := hO
  clear hfew hff hW hO hT
  go_enter Tryd.func3, Tryd.ntmps3
  go_wp2_with fail
  refine (HFW.out _ B0).mono ?_
  rintro e w1 ⟨rfl, hb1⟩
  have X1 := X0.next hb1
  have B1 := below_then B0 hb1 B0.size
  clear X0 B0 hb1 HFW
  cases hfw : fewB f with
  | false =>
    clear hfw X1
    go_wp2_with fail
    refine (HAW.out _ B1).mono ?_
    rintro e w2 ⟨rfl, hb2⟩
    go_wp2_with fail
    go_ret
    exact ⟨rfl, below_then B1 hb2 B1.size⟩
  | true =>
  have HFP : Hid (FitP f) := (few_facts hfw).1
  have HN : Hid (f.n ≤ 600) := (few_facts hfw).1.size
  clear hfw
  by_cases g1 : 100 < l.length
  · clear X1
    go_wp2_with fail
    refine (HAW.out _ B1).mono ?_
    rintro e w2 ⟨rfl, hb2⟩
    go_wp2_with fail
    go_ret
    exact ⟨rfl, below_then B1 hb2 B1.size⟩
  by_cases g2 : 100 < bh.length
  · clear X1
    go_wp2_with fail
    refine (HAW.out _ B1).mono ?_
    rintro e w2 ⟨rfl, hb2⟩
    go_wp2_with fail
    go_ret
    exact ⟨rfl, below_then B1 hb2 B1.size⟩
  have HBB : ∀ W, Below w1.heap.size w1 W → Below w.heap.size w W := fun W hb => below_then B1 hb B1.size
  have hstep : ∀ W W', W.cell? ⟨w.heap.size, 0, none⟩ = some (.slice ta f.terms.length tc) ∧ W.cell? ⟨w.heap.size, 1, none⟩ = some (.slice na f.nons.length nc) ∧ W.cell? ⟨w.heap.size, 2, none⟩ = some (.slice pa f.prods.length pc) ∧ Below w1.heap.size w1 W → Below W.heap.size W W' → W'.cell? ⟨w.heap.size, 0, none⟩ = some (.slice ta f.terms.length tc) ∧ W'.cell? ⟨w.heap.size, 1, none⟩ = some (.slice na f.nons.length nc) ∧ W'.cell? ⟨w.heap.size, 2, none⟩ = some (.slice pa f.prods.length pc) ∧ Below w1.heap.size w1 W' := by
    rintro W W' ⟨_, _, _, h⟩ hb
    have h' := below_then h hb h.size
    obtain ⟨_, y0, y1, y2⟩ := X1.next h'
    exact ⟨y0, y1, y2, h'⟩
  have cE1 : ∀ W, W.cell? ⟨w.heap.size, 0, none⟩ = some (.slice ta f.terms.length tc) ∧ W.cell? ⟨w.heap.size, 1, none⟩ = some (.slice na f.nons.length nc) ∧ W.cell? ⟨w.heap.size, 2, none⟩ = some (.slice pa f.prods.length pc) ∧ Below w1.heap.size w1 W → Calls Tryd.prog 10 #[.agg #[.slice ta f.terms.length tc, .slice na f.nons.length nc, .slice pa f.prods.length pc]] W fun e w' => ∃ v, e = .returned v ∧ Hid (HoldB NoP f v w') ∧ w'.cell? ⟨w.heap.size, 0, none⟩ = some (.slice ta f.terms.length tc) ∧ w'.cell? ⟨w.heap.size, 1, none⟩ = some (.slice na f.nons.length nc) ∧ w'.cell? ⟨w.heap.size, 2, none⟩ = some (.slice pa f.prods.length pc) ∧ Below w1.heap.size w1 w' := by
    intro W hS
    refine (HOK.out.pE f ⟨ta, tc, na, nc, pa, pc⟩ W (HFF.out _ (HBB _ hS.2.2.2)) HFP.out).mono ?_
    rintro e w' ⟨v, rfl, h1, h2⟩
    exact ⟨v, rfl, h1, hstep _ _ hS h2⟩
  have cE2 : ∀ W v, W.cell? ⟨w.heap.size, 0, none⟩ = some (.slice ta f.terms.length tc) ∧ W.cell? ⟨w.heap.size, 1, none⟩ = some (.slice na f.nons.length nc) ∧ W.cell? ⟨w.heap.size, 2, none⟩ = some (.slice pa f.prods.length pc) ∧ Below w1.heap.size w1 W → Hid (HoldB NoP f v W) → Calls Tryd.prog 11 #[.agg #[.slice ta f.terms.length tc, .slice na f.nons.length nc, .slice pa f.prods.length pc]] W fun e w' => ∃ u, e = .returned u ∧ Hid (HoldB NoP f v w' ∧ HoldB NoP f u w') ∧ w'.cell? ⟨w.heap.size, 0, none⟩ = some (.slice ta f.terms.length tc) ∧ w'.cell? ⟨w.heap.size, 1, none⟩ = some (.slice na f.nons.length nc) ∧ w'.cell? ⟨w.heap.size, 2, none⟩ = some (.slice pa f.prods.length pc) ∧ Below w1.heap.size w1 w' := by
    intro W v hS hG
    refine (rE f ⟨ta, tc, na, nc, pa, pc⟩ W (HFF.out _ (HBB _ hS.2.2.2)) HFP.out).mono ?_
    rintro e w' ⟨u, rfl, h1, h2⟩
    exact ⟨u, rfl, ⟨hG.out.next h2, h1⟩, hstep _ _ hS h2⟩
  have cU1 : ∀ W, W.cell? ⟨w.heap.size, 0, none⟩ = some (.slice ta f.terms.length tc) ∧ W.cell? ⟨w.heap.size, 1, none⟩ = some (.slice na f.nons.length nc) ∧ W.cell? ⟨w.heap.size, 2, none⟩ = some (.slice pa f.prods.length pc) ∧ Below w1.heap.size w1 W → Calls Tryd.prog 12 #[.agg #[.slice ta f.terms.length tc, .slice na f.nons.length nc, .slice pa f.prods.length pc]] W fun e w' => ∃ v, e = .returned v ∧ Hid (HoldB (UseP f) f v w') ∧ w'.cell? ⟨w.heap.size, 0, none⟩ = some (.slice ta f.terms.length tc) ∧ w'.cell? ⟨w.heap.size, 1, none⟩ = some (.slice na f.nons.length nc) ∧ w'.cell? ⟨w.heap.size, 2, none⟩ = some (.slice pa f.prods.length pc) ∧ Below w1.heap.size w1 w' := by
    intro W hS
    refine (HOK.out.pU f ⟨ta, tc, na, nc, pa, pc⟩ W (HFF.out _ (HBB _ hS.2.2.2)) HFP.out).mono ?_
    rintro e w' ⟨v, rfl, h1, h2⟩
    exact ⟨v, rfl, h1, hstep _ _ hS h2⟩
  have cU2 : ∀ W v, W.cell? ⟨w.heap.size, 0, none⟩ = some (.slice ta f.terms.length tc) ∧ W.cell? ⟨w.heap.size, 1, none⟩ = some (.slice na f.nons.length nc) ∧ W.cell? ⟨w.heap.size, 2, none⟩ = some (.slice pa f.prods.length pc) ∧ Below w1.heap.size w1 W → Hid (HoldB (UseP f) f v W) → Calls Tryd.prog 13 #[.agg #[.slice ta f.terms.length tc, .slice na f.nons.length nc, .slice pa f.prods.length pc]] W fun e w' => ∃ u, e = .returned u ∧ Hid (HoldB (UseP f) f v w' ∧ HoldB (UseP f) f u w') ∧ w'.cell? ⟨w.heap.size, 0, none⟩ = some (.slice ta f.terms.length tc) ∧ w'.cell? ⟨w.heap.size, 1, none⟩ = some (.slice na f.nons.length nc) ∧ w'.cell? ⟨w.heap.size, 2, none⟩ = some (.slice pa f.prods.length pc) ∧ Below w1.heap.size w1 w' := by
    intro W v hS hG
    refine (rU f ⟨ta, tc, na, nc, pa, pc⟩ W (HFF.out _ (HBB _ hS.2.2.2)) HFP.out).mono ?_
    rintro e w' ⟨u, rfl, h1, h2⟩
    exact ⟨u, rfl, ⟨hG.out.next h2, h1⟩, hstep _ _ hS h2⟩
  have cF1 : ∀ W, W.cell? ⟨w.heap.size, 0, none⟩ = some (.slice ta f.terms.length tc) ∧ W.cell? ⟨w.heap.size, 1, none⟩ = some (.slice na f.nons.length nc) ∧ W.cell? ⟨w.heap.size, 2, none⟩ = some (.slice pa f.prods.length pc) ∧ Below w1.heap.size w1 W → Calls Tryd.prog 15 #[.agg #[.slice ta f.terms.length tc, .slice na f.nons.length nc, .slice pa f.prods.length pc]] W fun e w' => ∃ v, e = .returned v ∧ Hid (HoldR (FstP f) f v w') ∧ w'.cell? ⟨w.heap.size, 0, none⟩ = some (.slice ta f.terms.length tc) ∧ w'.cell? ⟨w.heap.size, 1, none⟩ = some (.slice na f.nons.length nc) ∧ w'.cell? ⟨w.heap.size, 2, none⟩ = some (.slice pa f.prods.length pc) ∧ Below w1.heap.size w1 w' := by
    intro W hS
    refine (HOK.out.pF f ⟨ta, tc, na, nc, pa, pc⟩ W (HFF.out _ (HBB _ hS.2.2.2)) HFP.out (HTB.out _ (HBB _ hS.2.2.2))).mono ?_
    rintro e w' ⟨v, rfl, h1, h2⟩
    exact ⟨v, rfl, h1, hstep _ _ hS h2⟩
  have cF2 : ∀ W v, W.cell? ⟨w.heap.size, 0, none⟩ = some (.slice ta f.terms.length tc) ∧ W.cell? ⟨w.heap.size, 1, none⟩ = some (.slice na f.nons.length nc) ∧ W.cell? ⟨w.heap.size, 2, none⟩ = some (.slice pa f.prods.length pc) ∧ Below w1.heap.size w1 W → Hid (HoldR (FstP f) f v W) → Calls Tryd.prog 16 #[.agg #[.slice ta f.terms.length tc, .slice na f.nons.length nc, .slice pa f.prods.length pc]] W fun e w' => ∃ u, e = .returned u ∧ Hid ((∀ (s : Nat) (t : Int), FstP f s t → 0 ≤ t ∧ t < ((601 : Nat) : Int)) ∧ HoldR (FstP f) f v w' ∧ HoldR (FstP f) f u w') ∧ w'.cell? ⟨w.heap.size, 0, none⟩ = some (.slice ta f.terms.length tc) ∧ w'.cell? ⟨w.heap.size, 1, none⟩ = some (.slice na f.nons.length nc) ∧ w'.cell? ⟨w.heap.size, 2, none⟩ = some (.slice pa f.prods.length pc) ∧ Below w1.heap.size w1 w' := by
    intro W v hS hG
    refine (rF f ⟨ta, tc, na, nc, pa, pc⟩ W (HFF.out _ (HBB _ hS.2.2.2)) HFP.out).mono ?_
    rintro e w' ⟨u, rfl, h1, h2⟩
    exact ⟨u, rfl, ⟨fun s t h => bound_F HFP.out h, hG.out.next h2, h1⟩, hstep _ _ hS h2⟩
  have cO1 : ∀ W, W.cell? ⟨w.heap.size, 0, none⟩ = some (.slice ta f.terms.length tc) ∧ W.cell? ⟨w.heap.size, 1, none⟩ = some (.slice na f.nons.length nc) ∧ W.cell? ⟨w.heap.size, 2, none⟩ = some (.slice pa f.prods.length pc) ∧ Below w1.heap.size w1 W → Calls Tryd.prog 17 #[.agg #[.slice ta f.terms.length tc, .slice na f.nons.length nc, .slice pa f.prods.length pc]] W fun e w' => ∃ v, e = .returned v ∧ Hid (HoldR (FolP f) f v w') ∧ w'.cell? ⟨w.heap.size, 0, none⟩ = some (.slice ta f.terms.length tc) ∧ w'.cell? ⟨w.heap.size, 1, none⟩ = some (.slice na f.nons.length nc) ∧ w'.cell? ⟨w.heap.size, 2, none⟩ = some (.slice pa f.prods.length pc) ∧ Below w1.heap.size w1 w' := by
    intro W hS
    refine (HOK.out.pO f ⟨ta, tc, na, nc, pa, pc⟩ W (HFF.out _ (HBB _ hS.2.2.2)) HFP.out (HTB.out _ (HBB _ hS.2.2.2))).mono ?_
    rintro e w' ⟨v, rfl, h1, h2⟩
    exact ⟨v, rfl, h1, hstep _ _ hS h2⟩
  have cO2 : ∀ W v, W.cell? ⟨w.heap.size, 0, none⟩ = some (.slice ta f.terms.length tc) ∧ W.cell? ⟨w.heap.size, 1, none⟩ = some (.slice na f.nons.length nc) ∧ W.cell? ⟨w.heap.size, 2, none⟩ = some (.slice pa f.prods.length pc) ∧ Below w1.heap.size w1 W → Hid (HoldR (FolP f) f v W) → Calls Tryd.prog 18 #[.agg #[.slice ta f.terms.length tc, .slice na f.nons.length nc, .slice pa f.prods.length pc]] W fun e w' => ∃ u, e = .returned u ∧ Hid ((∀ (s : Nat) (t : Int), FolP f s t → 0 ≤ t ∧ t < ((601 : Nat) : Int)) ∧ HoldR (FolP f) f v w' ∧ HoldR (FolP f) f u w') ∧ w'.cell? ⟨w.heap.size, 0, none⟩ = some (.slice ta f.terms.length tc) ∧ w'.cell? ⟨w.heap.size, 1, none⟩ = some (.slice na f.nons.length nc) ∧ w'.cell? ⟨w.heap.size, 2, none⟩ = some (.slice pa f.prods.length pc) ∧ Below w1.heap.size w1 w' := by
    intro W v hS hG
    refine (rO f ⟨ta, tc, na, nc, pa, pc⟩ W (HFF.out _ (HBB _ hS.2.2.2)) HFP.out).mono ?_
    rintro e w' ⟨u, rfl, h1, h2⟩
    exact ⟨u, rfl, ⟨fun s t h => bound_O HFP.out h, hG.out.next h2, h1⟩, hstep _ _ hS h2⟩
  have cB : ∀ (base : Nat → Prop) W v u, W.cell? ⟨w.heap.size, 0, none⟩ = some (.slice ta f.terms.length tc) ∧ W.cell? ⟨w.heap.size, 1, none⟩ = some (.slice na f.nons.length nc) ∧ W.cell? ⟨w.heap.size, 2, none⟩ = some (.slice pa f.prods.length pc) ∧ Below w1.heap.size w1 W → Hid (HoldB base f v W ∧ HoldB base f u W) → Calls Tryd.prog 9 #[v, u] W fun e w' => e = .returned (.bool true) ∧ w'.cell? ⟨w.heap.size, 0, none⟩ = some (.slice ta f.terms.length tc) ∧ w'.cell? ⟨w.heap.size, 1, none⟩ = some (.slice na f.nons.length nc) ∧ w'.cell? ⟨w.heap.size, 2, none⟩ = some (.slice pa f.prods.length pc) ∧ Below w1.heap.size w1 w' := by
    intro base W v u hS hG
    refine (same_B HN.out hG.out.1 hG.out.2).mono ?_
    rintro e w' ⟨rfl, h2⟩
    exact ⟨rfl, hstep _ _ hS h2⟩
  have cR : ∀ (P : Nat → Int → Prop) W v u, W.cell? ⟨w.heap.size, 0, none⟩ = some (.slice ta f.terms.length tc) ∧ W.cell? ⟨w.heap.size, 1, none⟩ = some (.slice na f.nons.length nc) ∧ W.cell? ⟨w.heap.size, 2, none⟩ = some (.slice pa f.prods.length pc) ∧ Below w1.heap.size w1 W → Hid ((∀ (s : Nat) (t : Int), P s t → 0 ≤ t ∧ t < ((601 : Nat) : Int)) ∧ HoldR P f v W ∧ HoldR P f u W) → Calls Tryd.prog 14 #[v, u] W fun e w' => e = .returned (.bool true) ∧ w'.cell? ⟨w.heap.size, 0, none⟩ = some (.slice ta f.terms.length tc) ∧ w'.cell? ⟨w.heap.size, 1, none⟩ = some (.slice na f.nons.length nc) ∧ w'.cell? ⟨w.heap.size, 2, none⟩ = some (.slice pa f.prods.length pc) ∧ Below w1.heap.size w1 w' := by
    intro P W v u hS hG
    refine (same_R HN.out hG.out.1 hG.out.2.1 hG.out.2.2).mono ?_
    rintro e w' ⟨rfl, h2⟩
    exact ⟨rfl, hstep _ _ hS h2⟩
  have cA1 : ∀ W, W.cell? ⟨w.heap.size, 0, none⟩ = some (.slice ta f.terms.length tc) ∧ W.cell? ⟨w.heap.size, 1, none⟩ = some (.slice na f.nons.length nc) ∧ W.cell? ⟨w.heap.size, 2, none⟩ = some (.slice pa f.prods.length pc) ∧ Below w1.heap.size w1 W → Calls Tryd.prog 20 #[.agg #[.slice ta f.terms.length tc, .slice na f.nons.length nc, .slice pa f.prods.length pc], .slice la l.length lc, .slice ba bh.length bc] W fun e w' => ∃ v, e = .returned v ∧ Hid (HoldL (AheadP f l bh) v w') ∧ w'.cell? ⟨w.heap.size, 0, none⟩ = some (.slice ta f.terms.length tc) ∧ w'.cell? ⟨w.heap.size, 1, none⟩ = some (.slice na f.nons.length nc) ∧ w'.cell? ⟨w.heap.size, 2, none⟩ = some (.slice pa f.prods.length pc) ∧ Below w1.heap.size w1 w' := by
    intro W hS
    have hb := HBB _ hS.2.2.2
    refine (HOK.out.pA f ⟨ta, tc, na, nc, pa, pc⟩ l bh _ _ W (HFF.out _ hb) HFP.out (HTB.out _ hb) (HL.out.1.next hb) (HL.out.2.next hb) (by omega) (by omega)).mono ?_
    rintro e w' ⟨v, rfl, h1, h2⟩
    exact ⟨v, rfl, h1, hstep _ _ hS h2⟩
  have cA2 : ∀ W v, W.cell? ⟨w.heap.size, 0, none⟩ = some (.slice ta f.terms.length tc) ∧ W.cell? ⟨w.heap.size, 1, none⟩ = some (.slice na f.nons.length nc) ∧ W.cell? ⟨w.heap.size, 2, none⟩ = some (.slice pa f.prods.length pc) ∧ Below w1.heap.size w1 W → Hid (HoldL (AheadP f l bh) v W) → Calls Tryd.prog 21 #[.agg #[.slice ta f.terms.length tc, .slice na f.nons.length nc, .slice pa f.prods.length pc], .slice la l.length lc, .slice ba bh.length bc] W fun e w' => ∃ u, e = .returned u ∧ Hid (HoldL (AheadP f l bh) v w' ∧ HoldL (AheadP f l bh) u w') ∧ w'.cell? ⟨w.heap.size, 0, none⟩ = some (.slice ta f.terms.length tc) ∧ w'.cell? ⟨w.heap.size, 1, none⟩ = some (.slice na f.nons.length nc) ∧ w'.cell? ⟨w.heap.size, 2, none⟩ = some (.slice pa f.prods.length pc) ∧ Below w1.heap.size w1 w' := by
    intro W v hS hG
    have hb := HBB _ hS.2.2.2
    refine (rA f ⟨ta, tc, na, nc, pa, pc⟩ l bh _ _ W (HFF.out _ hb) HFP.out (HL.out.1.next hb) (HL.out.2.next hb) (by omega) (by omega)).mono ?_
    rintro e w' ⟨u, rfl, h1, h2⟩
    exact ⟨u, rfl, ⟨hG.out.next h2, h1⟩, hstep _ _ hS h2⟩
  have cI : ∀ W v u, W.cell? ⟨w.heap.size, 0, none⟩ = some (.slice ta f.terms.length tc) ∧ W.cell? ⟨w.heap.size, 1, none⟩ = some (.slice na f.nons.length nc) ∧ W.cell? ⟨w.heap.size, 2, none⟩ = some (.slice pa f.prods.length pc) ∧ Below w1.heap.size w1 W → Hid (HoldL (AheadP f l bh) v W ∧ HoldL (AheadP f l bh) u W) → Calls Tryd.prog 19 #[v, u] W fun e w' => e = .returned (.bool true) ∧ w'.cell? ⟨w.heap.size, 0, none⟩ = some (.slice ta f.terms.length tc) ∧ w'.cell? ⟨w.heap.size, 1, none⟩ = some (.slice na f.nons.length nc) ∧ w'.cell? ⟨w.heap.size, 2, none⟩ = some (.slice pa f.prods.length pc) ∧ Below w1.heap.size w1 w' := by
    intro W v u hS hG
    refine (same_L (ahead_in HFP.out (by omega)) hG.out.1 hG.out.2).mono ?_
    rintro e w' ⟨rfl, h2⟩
    exact ⟨rfl, hstep _ _ hS h2⟩
  have cW : ∀ W, W.cell? ⟨w.heap.size, 0, none⟩ = some (.slice ta f.terms.length tc) ∧ W.cell? ⟨w.heap.size, 1, none⟩ = some (.slice na f.nons.length nc) ∧ W.cell? ⟨w.heap.size, 2, none⟩ = some (.slice pa f.prods.length pc) ∧ Below w1.heap.size w1 W → Calls Tryd.prog 8 #[] W fun e w' => e = .returned (.bool true) ∧ w'.cell? ⟨w.heap.size, 0, none⟩ = some (.slice ta f.terms.length tc) ∧ w'.cell? ⟨w.heap.size, 1, none⟩ = some (.slice na f.nons.length nc) ∧ w'.cell? ⟨w.heap.size, 2, none⟩ = some (.slice pa f.prods.length pc) ∧ Below w1.heap.size w1 w' := by
    intro W hS
    refine (HAW.out W (HBB _ hS.2.2.2)).mono ?_
    rintro e w' ⟨rfl, h2⟩
    exact ⟨rfl, hstep _ _ hS h2⟩
  obtain ⟨x1, d0, d1, d2⟩ := id X1
  simp only at d0 d1 d2
  have HS0 : Hid (w1.drew.cell? ⟨w.heap.size, 0, none⟩ = some (.slice ta f.terms.length tc) ∧ w1.drew.cell? ⟨w.heap.size, 1, none⟩ = some (.slice na f.nons.length nc) ∧ w1.drew.cell? ⟨w.heap.size, 2, none⟩ = some (.slice pa f.prods.length pc) ∧ Below w1.heap.size w1 w1.drew) := ⟨d0, d1, d2, (Below.refl _ _).drew⟩
  have HBX : Hid (∀ W, Below w1.heap.size w1 W → Below w.heap.size w W) := HBB
  clear HBB hstep HOK HFF HAW HTB HL HFP HN X1
  go_wp2_with fail
  go_region_held3 (fun W => W.cell? ⟨w.heap.size, 0, none⟩ = some (.slice ta f.terms.length tc) ∧ W.cell? ⟨w.heap.size, 1, none⟩ = some (.slice na f.nons.length nc) ∧ W.cell? ⟨w.heap.size, 2, none⟩ = some (.slice pa f.prods.length pc) ∧ Below w1.heap.size w1 W) (first | exact HS0.out | assumption) (first
    | (go_at_call 10; refine (cE1 _ (by assumption)).mono ?_; rintro e w' ⟨v, rfl, hG, hS⟩)
    | (go_at_call 11; refine (cE2 _ _ (by assumption) hG).mono ?_; clear hG; rintro e w' ⟨u, rfl, hG, hS⟩)
    | (go_at_call 12; refine (cU1 _ (by assumption)).mono ?_; rintro e w' ⟨v, rfl, hG, hS⟩)
    | (go_at_call 13; refine (cU2 _ _ (by assumption) hG).mono ?_; clear hG; rintro e w' ⟨u, rfl, hG, hS⟩)
    | (go_at_call 9; refine (cB _ _ _ _ (by assumption) hG).mono ?_; clear hG; rintro e w' ⟨rfl, hS⟩)
    | (go_at_call 15; refine (cF1 _ (by assumption)).mono ?_; rintro e w' ⟨v, rfl, hG, hS⟩)
    | (go_at_call 16; refine (cF2 _ _ (by assumption) hG).mono ?_; clear hG; rintro e w' ⟨u, rfl, hG, hS⟩)
    | (go_at_call 17; refine (cO1 _ (by assumption)).mono ?_; rintro e w' ⟨v, rfl, hG, hS⟩)
    | (go_at_call 18; refine (cO2 _ _ (by assumption) hG).mono ?_; clear hG; rintro e w' ⟨u, rfl, hG, hS⟩)
    | (go_at_call 14; refine (cR _ _ _ _ (by assumption) hG).mono ?_; clear hG; rintro e w' ⟨rfl, hS⟩)
    | (go_at_call 20; refine (cA1 _ (by assumption)).mono ?_; rintro e w' ⟨v, rfl, hG, hS⟩)
    | (go_at_call 21; refine (cA2 _ _ (by assumption) hG).mono ?_; clear hG; rintro e w' ⟨u, rfl, hG, hS⟩)
    | (go_at_call 19; refine (cI _ _ _ (by assumption) hG).mono ?_; clear hG; rintro e w' ⟨rfl, hS⟩)
    | (go_at_call 8; refine (cW _ (by assumption)).mono ?_; rintro e w' ⟨rfl, hS⟩))
  all_goals
    have HBf : Hid (Below w.heap.size w _) := HBX.out _ hS.2.2.2
    clear hS
    go_wp2_with fail
    go_ret
    exact ⟨rfl, HBf.out⟩
end Go.Proofs.YtckbfiigbckmeaaDoor
