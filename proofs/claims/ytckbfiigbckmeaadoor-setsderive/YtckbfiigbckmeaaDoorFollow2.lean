/- The rounds of Follow, over all productions. -/
import Derived.Test.YtckbfiigbckmeaaDoorFollow1
namespace Go.Proofs.YtckbfiigbckmeaaDoor
open Go.RowKit Go.Shelf

theorem emp_of {f : Fl} {L : List Bool} (hL : GivesB (fun s => false = true ∧ s < f.terms.length) f.gr f.n L) : ∀ s, s < f.n → (onb L s = true ↔ EmpP f s) := fun s hs => by
  rw [onb_iff, hL.2 s hs]
  have e : (fun s => false = true ∧ s < f.terms.length) = fun _ => False := by funext s; simp
  rw [e]
  exact Iff.rfl
theorem fst_of {f : Fl} {m : Nat} {R : List (List Nat)} (hR : StW f m R) (hc : ∀ q ∈ f.gr, ClosF f R q) : ∀ s, s < f.n → ∀ t, t ∈ listW (WR R s) ↔ FstP f s t := fun s hs t => by
  have h := (hR.gives hc).2.2 s hs t
  have hs' : s < R.length := by rw [hR.ok.len]; exact hs
  rw [inR_get (by simpa using hs'), List.getElem_map] at h
  have e : WR R s = R[s] := by unfold WR; rw [List.getD_eq_getElem?_getD, List.getElem?_eq_getElem hs']; rfl
  rw [e]
  exact h

set_option maxHeartbeats 1000000 in
theorem followSettle (f : Fl) (a : FlA) (m X : Nat) (w0 : World) (V E G : Nat) (bs : List Nat) (L : List Bool) (R : List (List Nat)) (K1 K2 K3 H c : Nat) (bo : List Nat) (O : List (List Nat)) (B : List Nat) (W : World) (hp : FitP f) (hf0 : FlAt f a w0) (hm : m ≤ 20) (hm0 : 0 < m) (hF : FAt f a m X w0 V E G bs L R K1 K2 K3 H c bo O B W)
    (hL : GivesB (fun s => false = true ∧ s < f.terms.length) f.gr f.n L) (hR : StW f m R) (hc : ∀ q ∈ f.gr, ClosF f R q) (hO : StO2 f m O) :
    Calls Tryd.prog 46 #[a.val f, .func (.func 54) #[] #[.pointer (some ⟨K1, 0, none⟩), .pointer (some ⟨K2, 0, none⟩), .pointer (some ⟨K3, 0, none⟩)]] W fun e w' => (∃ v, e = .returned v) ∧ ∃ O' B', FAt f a m X w0 V E G bs L R K1 K2 K3 H c bo O' B' w' ∧ StO2 f m O' ∧ (∀ q ∈ f.gr, ClosO f O' q) ∧ But (Dk bo c) W w' := by
  have hcw : c < W.heap.size := hF.b.lt
  have hbow := hF.s.blk
  have hK1w : K1 < W.heap.size := World.block_lt_of_cell? W _ hF.k1
  have hK2w : K2 < W.heap.size := World.block_lt_of_cell? W _ hF.k2
  have hK3w : K3 < W.heap.size := World.block_lt_of_cell? W _ hF.k3
  have hHw := hF.s.lt
  have hXc := hF.xc
  have hcell : ∀ j (hj : j < f.prods.length) v, (∃ pb off, a.pa = some ⟨pb, off, none⟩ ∧ W.cell? ⟨pb, off + j * 3 + 1, none⟩ = some v) → SlT f.prods[j].right v w0 := fun j hj v ⟨pb, off, h1, h2⟩ => by
    obtain ⟨b, off', v', e, hb, _, k1, _, hv, _⟩ := hf0.2.2.1.at (Below.refl _ _) hj
    rw [h1] at e; cases e
    rw [hF.ok.below.cell (p := ⟨pb, off + j * 3 + 1, none⟩) hb, k1] at h2
    cases h2; exact hv
  refine (settle_any (σ := List (List Nat)) f a 54 #[.pointer (some ⟨K1, 0, none⟩), .pointer (some ⟨K2, 0, none⟩), .pointer (some ⟨K3, 0, none⟩)] (enters_of Tryd.func54 (by kernel_rfl) rfl)
    (fun O Y => (∃ B, FAt f a m X w0 V E G bs L R K1 K2 K3 H c bo O B Y) ∧ StO2 f m O) (Dk bo c) (fun O => f.n * (64 * m) - bulkW O) (fun j O => ∀ q, f.gr[j]? = some q → ClosO f O q) W hp (fun O Y h => hf0.next h.1.choose_spec.ok.below)
    ?hS (fun k hk => by rcases hk with h | h; exact hbow k h; omega) ?hDa ?hg O ⟨⟨B, hF⟩, hO⟩).mono ?_
  case hS =>
    rintro O Y Y' ⟨⟨B, h⟩, h2⟩ hb
    refine ⟨⟨B, h.but (But.of_below hb) (fun k hk => by omega) ?_ ?_ ?_ ?_ ?_ (fun b hb' => ?_)⟩, h2⟩
    all_goals try omega
    have := hbow b hb'
    omega
  case hDa =>
    intro hpos ad had hk
    obtain ⟨b, off, v, e, hb, _⟩ := hf0.2.2.1.at (Below.refl _ _) hpos
    rw [e] at had; cases had
    have h1 := hF.xl
    rcases hk with hk | hk
    · have := hF.xo _ hk
      simp only at this
      omega
    · simp only at hk
      omega
  case hg =>
    rintro j hj O Y v ⟨⟨B, hY⟩, hO⟩ hv hz hpv
    have hv0 := hcell j hj v hpv
    have hlf := hp.left _ (List.getElem_mem hj)
    have hsy : ∀ x ∈ f.prods[j].right, 0 ≤ x.sym ∧ x.sym < (f.n : Int) := fun x hx => hp.sym _ (List.getElem_mem hj) x hx
    have hq : f.gr[j]? = some (f.prods[j].left.toNat, f.prods[j].syms) := by unfold Fl.gr; rw [List.getElem?_map, List.getElem?_eq_getElem hj]; rfl
    have hmem := gr_mem hj
    obtain ⟨l, hl⟩ : ∃ l : Nat, f.prods[j].left = l := ⟨f.prods[j].left.toNat, by omega⟩
    have hln : l < f.n := by unfold Fl.n; omega
    rw [hl, Int.toNat_natCast] at hq hmem
    rw [hl]
    have hsym : f.prods[j].syms = f.prods[j].right.map fun x => x.sym.toNat := rfl
    rw [hsym] at hq hmem
    have hc1 := follow1_in 6 (Nat.le_refl _) f a m X w0 V E G bs L R K1 K2 K3 H c bo O B l f.prods[j].right v Y hp hm hm0 hY hO hR.ok (fst_of hR hc) (emp_of hL) hln hmem hsy hv (hp.right _ (List.getElem_mem hj)) (fun k ao e hne => by
      obtain ⟨ao', cap, e', hI, _⟩ := hv0
      rw [e] at e'
      cases e'
      obtain ⟨b', off', e2, hb', _⟩ := hI.at (Below.refl _ _) (j := 0) (List.length_pos_iff.2 hne)
      cases e2
      have := hF.xl
      simp only
      omega)
    refine (callsIn_wide.1 hc1).mono ?_
    rintro e Y' ⟨O', B', g, rfl, h1, h2, h3⟩
    refine ⟨O', g, rfl, ⟨⟨B', h1⟩, h2.st⟩, h3, fun hb => ?_, fun hb => ?_⟩
    · have k1 := h2.yes hb
      have k2 := bulkW_max h2.st.ok
      omega
    · subst hb
      have h2' : FI f m O l (f.prods[j].right.map fun x => x.sym.toNat) (f.prods[j].right.map fun x => x.sym.toNat).length O' B' false := by rw [List.length_map]; exact h2
      refine ⟨h2'.done.1, fun q hq' => ?_⟩
      rw [hq] at hq'; cases hq'
      exact h2'.done.2
  · rintro e w' ⟨hv, O', ⟨⟨B', h1⟩, h2⟩, h3, h4⟩
    refine ⟨hv, O', B', h1, h2, fun q hq => ?_, h4⟩
    obtain ⟨j, hj, rfl⟩ := List.getElem_of_mem hq
    refine h3 j ?_ _ (List.getElem?_eq_getElem hj)
    have : f.gr.length = f.prods.length := by simp [Fl.gr]
    omega
end Go.Proofs.YtckbfiigbckmeaaDoor
