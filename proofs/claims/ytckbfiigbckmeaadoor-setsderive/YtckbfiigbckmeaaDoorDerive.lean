/- The law SetsDerive, walked. -/
import Derived.Test.YtckbfiigbckmeaaDoorDeriveRow
import Derived.Test.YtckbfiigbckmeaaDoorTells
namespace Go.Proofs.YtckbfiigbckmeaaDoor
open Go.RowKit

set_option maxRecDepth 100000 in
set_option maxHeartbeats 6400000 in
theorem derive_any (hO : SetsOk) (hW : AwakeOk) (f : Fl) (a : FlA) (sym : Int) (picks : List Int) (pv : Value) (w : World) (hf : FlAt f a w) (hpk : SlI picks pv w) (hT : Tb w) :
    Calls Tryd.prog 4 #[a.val f, .int .i64 sym, pv] w fun e w' => e = .returned (.bool true) ∧ Below w.heap.size w w' := by
  have hfew := fun W (hb : Below w.heap.size w W) => few_any f a W (hf.next hb)
  have hff := fun W (hb : Below w.heap.size w W) => hf.next hb
  have hrow := fun (hp : FitP f) (hpl : picks.length ≤ 1000) (FB : Nat) (hFB : w.heap.size ≤ FB) => row_any f a picks pv FB w hp hf hpk hpl hFB
  obtain ⟨ta, tc, na, nc, pa, pc⟩ := a
  obtain ⟨ka, kc, rfl, _⟩ := id hpk
  have X0 := FBox.new f ⟨ta, tc, na, nc, pa, pc⟩ 25 w
  have B0 : Below w.heap.size w (w.alloc (fobj f ⟨ta, tc, na, nc, pa, pc⟩ 25)) := (Below.refl _ _).alloc (Nat.le_refl _) _
  unfold fobj at X0 B0
  unfold FlA.val at hfew hrow ⊢
  simp only at X0 B0 hfew hrow ⊢
  have HFW : Hid (∀ W, Below w.heap.size w W → Calls Tryd.prog 7 #[.agg #[.slice ta f.terms.length tc, .slice na f.nons.length nc, .slice pa f.prods.length pc]] W fun e w' => e = .returned (.bool (fewB f)) ∧ Below W.heap.size W w') := hfew
  have HFF : Hid (∀ W, Below w.heap.size w W → FlAt f ⟨ta, tc, na, nc, pa, pc⟩ W) := hff
  have HRW : Hid (FitP f → picks.length ≤ 1000 → ∀ (FB : Nat), w.heap.size ≤ FB → ∀ (n s : Nat) (m : Int) (W : World), s < f.n → Below w.heap.size w W → W.cell? ⟨FB, 0, none⟩ = some (.int .i64 m) → W.frozen? ⟨FB, 0, none⟩ = false → 0 ≤ m → m ≤ n → m ≤ 60 → Calls Tryd.prog 22 #[.agg #[.slice ta f.terms.length tc, .slice na f.nons.length nc, .slice pa f.prods.length pc], .int .i64 s, .slice ka picks.length kc, .pointer (some ⟨FB, 0, none⟩)] W fun e w' => RowRes f FB s m W e w') := hrow
  have HAW : Hid (∀ W, Below w.heap.size w W → Calls Tryd.prog 8 #[] W fun e w' => e = .returned (.bool true) ∧ Below W.heap.size W w') := fun W hb => hW W (hT.next hb)
  have HTB : Hid (∀ W, Below w.heap.size w W → Tb W) := fun W hb => hT.next hb
  have HOK : Hid SetsOk := hO
  clear hfew hff hW hO hf hT hrow hpk
  go_enter Tryd.func4, Tryd.ntmps4
  go_wp2_with fail
  generalize (w.alloc (Obj.cells #[Value.slice ta f.terms.length tc, Value.slice na f.nons.length nc, Value.slice pa f.prods.length pc] 25)) = W1 at *
  refine (HFW.out _ B0).mono ?_
  rintro e w1 ⟨rfl, hb1⟩
  have X1 := X0.next hb1
  have B1 := below_then B0 hb1 B0.size
  clear X0 B0 hb1 HFW
  cases hfw : fewB f with
  | false =>
    clear hfw X1
    go_wp2_with fail
    refine (HAW.out _ B1).mono ?_
    rintro e w2 ⟨rfl, hb2⟩
    go_wp2_with fail
    go_ret
    exact ⟨rfl, below_then B1 hb2 B1.size⟩
  | true =>
  have HFP : Hid (FitP f) := (few_facts hfw).1
  clear hfw
  by_cases g1 : 1000 < picks.length
  · clear X1
    go_wp2_with fail
    refine (HAW.out _ B1).mono ?_
    rintro e w2 ⟨rfl, hb2⟩
    go_wp2_with fail
    go_ret
    exact ⟨rfl, below_then B1 hb2 B1.size⟩
  have hn6 : f.terms.length + f.nons.length ≤ 600 := HFP.out.size
  have hn0 : 0 < f.nons.length := HFP.out.nons
  have hni : (0 : Int) < (f.terms.length : Int) + (f.nons.length : Int) := by omega
  obtain ⟨s, hs, hsl⟩ := pick_lt sym (f.terms.length + f.nons.length) (by omega) (by omega)
  have hs' : wrap64 ((IntKind.u64.wrap sym).tmod ((f.terms.length : Int) + (f.nons.length : Int))) = s := by rw [← Int.natCast_add]; exact hs
  clear hs
  obtain ⟨x0, x1, x2, x3⟩ := id X1
  simp only at x1 x2 x3
  go_wp2_with fail
  simp only [hs']
  clear hs'
  have b2 : Below w1.heap.size w1 (w1.alloc (Obj.cells #[Value.int .i64 60] 3)) := (Below.refl _ _).alloc (Nat.le_refl _) _
  have c2 : (w1.alloc (Obj.cells #[Value.int .i64 60] 3)).cell? ⟨w1.heap.size, 0, none⟩ = some (.int .i64 60) := by simp
  have z2 : (w1.alloc (Obj.cells #[Value.int .i64 60] 3)).frozen? ⟨w1.heap.size, 0, none⟩ = false := by simp
  have X2 := X1.next b2
  have B2 := below_then B1 b2 B1.size
  have hw1 := B1.size
  have hcall := HRW.out HFP.out (by omega) w1.heap.size hw1 60 s 60 _ hsl B2 c2 z2 (by omega) (by omega) (by omega)
  generalize (w1.alloc (Obj.cells #[Value.int .i64 60] 3)) = W2 at *
  refine hcall.mono ?_
  rintro e w3 ⟨va, vn, vc, ok, m', rfl, hok, _, _, _, _, hb3⟩
  have B3 := below_but B2 hb3 (fun k hk => by omega)
  have hne : w.heap.size ≠ w1.heap.size := by have := X1.1; omega
  have X3 : W2.cell? ⟨w.heap.size, 0, none⟩ = some (.slice ta f.terms.length tc) ∧ W2.cell? ⟨w.heap.size, 1, none⟩ = some (.slice na f.nons.length nc) ∧ W2.cell? ⟨w.heap.size, 2, none⟩ = some (.slice pa f.prods.length pc) ∧ w.heap.size < W2.heap.size := ⟨X2.2.1, X2.2.2.1, X2.2.2.2, X2.1⟩
  have y0 := (hb3.cell (p := ⟨w.heap.size, 0, none⟩) X3.2.2.2 hne).trans X3.1
  have y1 := (hb3.cell (p := ⟨w.heap.size, 1, none⟩) X3.2.2.2 hne).trans X3.2.1
  have y2 := (hb3.cell (p := ⟨w.heap.size, 2, none⟩) X3.2.2.2 hne).trans X3.2.2.1
  clear hcall X1 X2 X3 x0 x1 x2 x3 c2 z2 b2 HRW B1 hb3
  cases ok with
  | false =>
    clear hok
    go_wp2_with fail
    refine (HAW.out _ B3).mono ?_
    rintro e w4 ⟨rfl, hb4⟩
    go_wp2_with fail
    go_ret
    exact ⟨rfl, below_then B3 hb4 B3.size⟩
  | true =>
    obtain ⟨_, L, rfl, hLs, hdr, _⟩ := hok rfl
    clear hok
    have HDR : Hid (Drv f.terms.length f.gr s L) := hdr
    have HLS : Hid (∀ W, Below w3.heap.size w3 W → SlI L (.slice va L.length vc) W) := fun W hb => hLs.next hb
    have HBB : ∀ W, Below w3.heap.size w3 W → Below w.heap.size w W := fun W hb => below_then B3 hb B3.size
    have hwl : w.heap.size < w3.heap.size := World.block_lt_of_cell? w3 _ y0
    have hstep : ∀ W W', W.cell? ⟨w.heap.size, 0, none⟩ = some (.slice ta f.terms.length tc) ∧ W.cell? ⟨w.heap.size, 1, none⟩ = some (.slice na f.nons.length nc) ∧ W.cell? ⟨w.heap.size, 2, none⟩ = some (.slice pa f.prods.length pc) ∧ Below w3.heap.size w3 W → Below W.heap.size W W' → W'.cell? ⟨w.heap.size, 0, none⟩ = some (.slice ta f.terms.length tc) ∧ W'.cell? ⟨w.heap.size, 1, none⟩ = some (.slice na f.nons.length nc) ∧ W'.cell? ⟨w.heap.size, 2, none⟩ = some (.slice pa f.prods.length pc) ∧ Below w3.heap.size w3 W' := by
      rintro W W' ⟨_, _, _, h⟩ hb
      have h' := below_then h hb h.size
      exact ⟨(h'.cell (p := ⟨w.heap.size, 0, none⟩) hwl).trans y0, (h'.cell (p := ⟨w.heap.size, 1, none⟩) hwl).trans y1, (h'.cell (p := ⟨w.heap.size, 2, none⟩) hwl).trans y2, h'⟩
    have c1 : ∀ W, W.cell? ⟨w.heap.size, 0, none⟩ = some (.slice ta f.terms.length tc) ∧ W.cell? ⟨w.heap.size, 1, none⟩ = some (.slice na f.nons.length nc) ∧ W.cell? ⟨w.heap.size, 2, none⟩ = some (.slice pa f.prods.length pc) ∧ Below w3.heap.size w3 W → Calls Tryd.prog 12 #[.agg #[.slice ta f.terms.length tc, .slice na f.nons.length nc, .slice pa f.prods.length pc]] W fun e w' => ∃ v L1, e = .returned v ∧ Hid (GivesB (UseP f) f.gr f.n L1 ∧ SlB L1 v w') ∧ w'.cell? ⟨w.heap.size, 0, none⟩ = some (.slice ta f.terms.length tc) ∧ w'.cell? ⟨w.heap.size, 1, none⟩ = some (.slice na f.nons.length nc) ∧ w'.cell? ⟨w.heap.size, 2, none⟩ = some (.slice pa f.prods.length pc) ∧ Below w3.heap.size w3 w' := by
      intro W hS
      refine (HOK.out.pU f ⟨ta, tc, na, nc, pa, pc⟩ W (HFF.out _ (HBB _ hS.2.2.2)) HFP.out).mono ?_
      rintro e w' ⟨v, rfl, ⟨L1, h1, h1'⟩, h2⟩
      exact ⟨v, L1, rfl, ⟨h1, h1'⟩, hstep _ _ hS h2⟩
    have c2 : ∀ W v L1, W.cell? ⟨w.heap.size, 0, none⟩ = some (.slice ta f.terms.length tc) ∧ W.cell? ⟨w.heap.size, 1, none⟩ = some (.slice na f.nons.length nc) ∧ W.cell? ⟨w.heap.size, 2, none⟩ = some (.slice pa f.prods.length pc) ∧ Below w3.heap.size w3 W → Hid (GivesB (UseP f) f.gr f.n L1 ∧ SlB L1 v W) → Calls Tryd.prog 10 #[.agg #[.slice ta f.terms.length tc, .slice na f.nons.length nc, .slice pa f.prods.length pc]] W fun e w' => ∃ u L2, e = .returned u ∧ Hid ((GivesB (UseP f) f.gr f.n L1 ∧ SlB L1 v w') ∧ GivesB NoP f.gr f.n L2 ∧ SlB L2 u w') ∧ w'.cell? ⟨w.heap.size, 0, none⟩ = some (.slice ta f.terms.length tc) ∧ w'.cell? ⟨w.heap.size, 1, none⟩ = some (.slice na f.nons.length nc) ∧ w'.cell? ⟨w.heap.size, 2, none⟩ = some (.slice pa f.prods.length pc) ∧ Below w3.heap.size w3 w' := by
      intro W v L1 hS hG
      refine (HOK.out.pE f ⟨ta, tc, na, nc, pa, pc⟩ W (HFF.out _ (HBB _ hS.2.2.2)) HFP.out).mono ?_
      rintro e w' ⟨u, rfl, ⟨L2, h1, h1'⟩, h2⟩
      exact ⟨u, L2, rfl, ⟨⟨hG.out.1, hG.out.2.next h2⟩, h1, h1'⟩, hstep _ _ hS h2⟩
    have c3 : ∀ W v L1 u L2, W.cell? ⟨w.heap.size, 0, none⟩ = some (.slice ta f.terms.length tc) ∧ W.cell? ⟨w.heap.size, 1, none⟩ = some (.slice na f.nons.length nc) ∧ W.cell? ⟨w.heap.size, 2, none⟩ = some (.slice pa f.prods.length pc) ∧ Below w3.heap.size w3 W → Hid ((GivesB (UseP f) f.gr f.n L1 ∧ SlB L1 v W) ∧ GivesB NoP f.gr f.n L2 ∧ SlB L2 u W) → Calls Tryd.prog 15 #[.agg #[.slice ta f.terms.length tc, .slice na f.nons.length nc, .slice pa f.prods.length pc]] W fun e w' => ∃ x R3, e = .returned x ∧ Hid ((GivesB (UseP f) f.gr f.n L1 ∧ SlB L1 v w') ∧ (GivesB NoP f.gr f.n L2 ∧ SlB L2 u w') ∧ GivesR (FstP f) f.n R3 ∧ SlR R3 x w') ∧ w'.cell? ⟨w.heap.size, 0, none⟩ = some (.slice ta f.terms.length tc) ∧ w'.cell? ⟨w.heap.size, 1, none⟩ = some (.slice na f.nons.length nc) ∧ w'.cell? ⟨w.heap.size, 2, none⟩ = some (.slice pa f.prods.length pc) ∧ Below w3.heap.size w3 w' := by
      intro W v L1 u L2 hS hG
      refine (HOK.out.pF f ⟨ta, tc, na, nc, pa, pc⟩ W (HFF.out _ (HBB _ hS.2.2.2)) HFP.out (HTB.out _ (HBB _ hS.2.2.2))).mono ?_
      rintro e w' ⟨x, rfl, ⟨R3, h1, h1'⟩, h2⟩
      exact ⟨x, R3, rfl, ⟨⟨hG.out.1.1, hG.out.1.2.next h2⟩, ⟨hG.out.2.1, hG.out.2.2.next h2⟩, h1, h1'⟩, hstep _ _ hS h2⟩
    have HS0 : Hid (w3.drew.cell? ⟨w.heap.size, 0, none⟩ = some (.slice ta f.terms.length tc) ∧ w3.drew.cell? ⟨w.heap.size, 1, none⟩ = some (.slice na f.nons.length nc) ∧ w3.drew.cell? ⟨w.heap.size, 2, none⟩ = some (.slice pa f.prods.length pc) ∧ Below w3.heap.size w3 w3.drew) := ⟨y0, y1, y2, (Below.refl _ _).drew⟩
    clear hLs hdr
    go_wp2_with fail
    go_region_held3 (fun W => W.cell? ⟨w.heap.size, 0, none⟩ = some (.slice ta f.terms.length tc) ∧ W.cell? ⟨w.heap.size, 1, none⟩ = some (.slice na f.nons.length nc) ∧ W.cell? ⟨w.heap.size, 2, none⟩ = some (.slice pa f.prods.length pc) ∧ Below w3.heap.size w3 W) (first | exact HS0.out | assumption) (first
      | (go_at_call 12; refine (c1 _ (by assumption)).mono ?_; rintro e w' ⟨vu, L1, rfl, hG, hS⟩)
      | (go_at_call 10; refine (c2 _ _ _ (by assumption) hG).mono ?_; clear hG; rintro e w' ⟨ve, L2, rfl, hG, hS⟩)
      | (go_at_call 15; refine (c3 _ _ _ _ _ (by assumption) hG).mono ?_; clear hG; rintro e w' ⟨vf, R3, rfl, hG, hS⟩))
    clear c1 c2 c3 HS0 hstep
    obtain ⟨⟨hgu, hsu⟩, ⟨hge, hse⟩, hgf, hsf⟩ := hG.out
    obtain ⟨ua, uc, rfl, hur, _⟩ := hsu
    obtain ⟨ea, ec, rfl, her, _⟩ := hse
    obtain ⟨fa, fc, rfl, hfr, _⟩ := hsf
    have hl1 : s < L1.length := by rw [hgu.1]; exact hsl
    have hl2 : s < L2.length := by rw [hge.1]; exact hsl
    have hl3 : s < R3.length := by rw [hgf.1]; exact hsl
    obtain ⟨ub, uo, rfl, _, cu⟩ := hur s _ (List.getElem?_eq_getElem hl1)
    obtain ⟨eb, eo, rfl, _, ce⟩ := her s _ (List.getElem?_eq_getElem hl2)
    obtain ⟨fb, fo, vr, rfl, hfb, cf, hvr⟩ := hfr s _ (List.getElem?_eq_getElem hl3)
    have hu1 : L1[s] = true := by
      have := (hgu.2 s hsl).2 HDR.out.useful
      unfold OnB at this
      rw [List.getElem?_eq_getElem hl1] at this
      exact Option.some.inj this
    have he1 : L = [] → L2[s] = true := fun h => by
      have := (hge.2 s hsl).2 (HDR.out.empty h)
      unfold OnB at this
      rw [List.getElem?_eq_getElem hl2] at this
      exact Option.some.inj this
    have hf1 : ∀ t rest, L = t :: rest → t ∈ R3[s] := fun t rest h => by
      have := (hgf.2.2 s hsl t).2 (HDR.out.first t rest h)
      exact (inR_get hl3).1 this
    rw [hu1] at cu
    have hL1' : (s : Int) < L1.length := by omega
    have hL2' : (s : Int) < L2.length := by omega
    have hL3' : (s : Int) < R3.length := by omega
    have hB' := HBB _ hS.2.2.2
    have hLs := HLS.out _ hS.2.2.2
    unfold encB at cu ce
    have hR3l : R3[s].length ≤ 601 := rising_length (hgf.2.1 _ (List.getElem_mem hl3)) (fun t ht => bound_F HFP.out ((hgf.2.2 s hsl t).1 ((inR_get hl3).2 ht)))
    clear hG hgu hge hgf hur her hfr hu1 HDR HLS hS HBB y0 y1 y2 HFF HOK HTB
    have HF1 : Hid (∀ t rest, L = t :: rest → t ∈ R3[s]) := hf1
    have HE1 : Hid (L = [] → L2[s] = true) := he1
    clear hf1 he1
    generalize R3[s] = F at *
    generalize L2[s] = eb2 at *
    obtain ⟨ra, rc, rfl, hrr, _⟩ := hvr
    cases L with
    | nil =>
      have hE := HE1.out rfl
      subst hE
      clear HF1 HE1 hLs hrr
      simp only [List.length_nil]
      go_wp2_with fail
      refine (HAW.out _ hB').mono ?_
      rintro e w9 ⟨rfl, hb9⟩
      go_wp2_with fail
      go_ret
      exact ⟨rfl, below_then hB' hb9 hB'.size⟩
    | cons t rest =>
      have hin := HF1.out t rest rfl
      obtain ⟨_, _, e, hlr, _⟩ := hLs
      cases e
      obtain ⟨lb, lo, rfl, _, cl⟩ := hlr 0 t rfl
      rw [Nat.add_zero] at cl
      unfold encI at cl
      have HIN : Hid (t ∈ F) := hin
      have HRR : Hid (RowAt encI F ra w') := hrr
      have hLl : (rest.length : Int) + 1 ≠ 0 := by omega
      clear HF1 HE1 hlr hin hrr
      simp only [List.length_cons]
      have hlbl : lb < w'.heap.size := World.block_lt_of_cell? w' _ cl
      have HBW : Hid (∀ W, Below w'.heap.size w' W → Below w.heap.size w W) := fun W hb => below_then hB' hb hB'.size
      go_wp2_with fail
      go_loopw [91] (fun i W => ∃ (j : Nat), i = .int .i64 j ∧ j ≤ F.length ∧ t ∉ F.take j ∧ Below w'.heap.size w' W) (fun i _ => F.length - (intOf i).toNat)
      case atStart => exact ⟨0, rfl, Nat.zero_le _, by simp, by first | exact Below.refl _ _ | exact (Below.refl _ _).drew | exact (Below.refl _ _).drewN _⟩
      case round =>
      obtain ⟨j, rfl, hj, hnot, hbr⟩ := hrel
      by_cases hlt : j < F.length
      · obtain ⟨rb, ro, rfl, _, cj⟩ := (HRR.out.next hbr) j _ (List.getElem?_eq_getElem hlt)
        unfold encI at cj
        have cl2 := (hbr.cell (p := ⟨lb, lo, none⟩) hlbl).trans cl
        have HN : Hid (F[j] ≠ t → t ∉ F.take (j + 1)) := fun h hm => by
          rw [List.take_succ_eq_append_getElem hlt] at hm
          rcases List.mem_append.1 hm with hm | hm
          · exact hnot hm
          · exact h (List.mem_singleton.1 hm).symm
        generalize F[j] = x at *
        clear cl hnot
        by_cases hx : x = t
        · have hxb : (x == t) = true := by simpa using hx
          clear HN hx
          go_wp2_with fail
          refine (HAW.out _ (HBW.out _ hbr)).mono ?_
          rintro e w9 ⟨rfl, hb9⟩
          have hF9 := HBW.out _ (below_then hbr hb9 hbr.size)
          go_wp2_with fail
          go_ret
          exact ⟨rfl, hF9⟩
        · have hxb : (x == t) = false := by simpa using hx
          have hN := HN.out hx
          clear HN
          go_wp2_with fail
          exact ⟨⟨j + 1, by go_num, by omega, hN, hbr⟩, by simp [intOf]; omega⟩
      · obtain rfl : j = F.length := by omega
        exact absurd HIN.out (by rw [List.take_length] at hnot; exact hnot)
end Go.Proofs.YtckbfiigbckmeaaDoor
