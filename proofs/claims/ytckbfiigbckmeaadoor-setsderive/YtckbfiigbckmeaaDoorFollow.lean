/- Follow of the program. -/
import Derived.Test.YtckbfiigbckmeaaDoorFollow2
import Derived.Test.YtckbfiigbckmeaaDoorLists
namespace Go.Proofs.YtckbfiigbckmeaaDoor
open Go.RowKit Go.Shelf

theorem zeros_ok (m N : Nat) : WOk m N (List.replicate N (List.replicate m 0)) := ⟨by simp, fun s hs => by
  unfold WR
  rw [List.getD_eq_getElem?_getD, List.getElem?_replicate, if_pos hs]
  exact words_zero m⟩
theorem zeros_get (m N s : Nat) (hs : s < N) : WR (List.replicate N (List.replicate m 0)) s = List.replicate m 0 := by
  unfold WR
  rw [List.getD_eq_getElem?_getD, List.getElem?_replicate, if_pos hs]
  rfl
theorem putEnd_ok {f : Fl} (hT : f.terms.length < f.n) : StO2 f (f.terms.length / 64 + 1) ((List.replicate f.n (List.replicate (f.terms.length / 64 + 1) 0)).set f.terms.length (putW (List.replicate (f.terms.length / 64 + 1) 0) f.terms.length)) := by
  generalize hM : f.terms.length / 64 + 1 = m at *
  have hl : listW (putW (List.replicate m 0) f.terms.length) = [(f.terms.length : Int)] := by
    rw [listW_put (by rw [List.length_replicate]; omega), listW_zero]
    rfl
  have hlen : f.terms.length < (List.replicate f.n (List.replicate m 0)).length := by rw [List.length_replicate]; exact hT
  refine ⟨(zeros_ok m f.n).set hT ((words_zero m).put _), fun s hs t ht => ?_, ?_⟩
  · rw [WR_set hlen] at ht
    split at ht
    · rename_i e
      subst e
      rw [hl] at ht
      obtain rfl : t = (f.terms.length : Int) := by simpa using ht
      exact .last
    · rw [zeros_get m f.n s hs, listW_zero] at ht
      cases ht
  · rw [WR_set hlen, if_pos rfl, hl]
    simp

set_option maxRecDepth 100000 in
set_option maxHeartbeats 1000000 in
theorem followM_any (f : Fl) (a : FlA) (w0 : World) (V E G : Nat) (bs : List Nat) (L : List Bool) (R : List (List Nat)) (w : World) (hp : FitP f) (hf0 : FlAt f a w0) (hV : VOk f a (f.terms.length / 64 + 1) w0 V E G bs L R w)
    (hL : GivesB (fun s => false = true ∧ s < f.terms.length) f.gr f.n L) (hR : StW f (f.terms.length / 64 + 1) R) (hc : ∀ q ∈ f.gr, ClosF f R q) :
    Calls Tryd.prog 32 #[.pointer (some ⟨V, 0, none⟩)] w fun e w' => ∃ H bo O, e = .returned (.slice (some ⟨H, 0, none⟩) f.n f.n) ∧ SetsB H (f.terms.length / 64 + 1) bo O w' ∧ StO2 f (f.terms.length / 64 + 1) O ∧ (∀ q ∈ f.gr, ClosO f O q) ∧ Below w.heap.size w w' := by
  have hm20 : f.terms.length / 64 + 1 ≤ 20 := by have := hp.size; omega
  obtain ⟨v0, v1, v2, v3, v4⟩ := id hV.v
  obtain ⟨ta, tc, na, nc, pa, pc⟩ := a
  simp only at v0 v1 v2 v3 v4
  have hVl := hV.v.lt
  have hVn : w.heap.size ≠ V := by omega
  have HH : Hid (FitP f ∧ FlAt f ⟨ta, tc, na, nc, pa, pc⟩ w0 ∧ VOk f ⟨ta, tc, na, nc, pa, pc⟩ (f.terms.length / 64 + 1) w0 V E G bs L R w ∧ GivesB (fun s => false = true ∧ s < f.terms.length) f.gr f.n L ∧ StW f (f.terms.length / 64 + 1) R ∧ ∀ q ∈ f.gr, ClosF f R q) := ⟨hp, hf0, hV, hL, hR, hc⟩
  clear hp hf0 hV hL hR hc
  go_enter Tryd.func32, Tryd.ntmps32
  go_wp2_with fail
  have hbk : Below w.heap.size w (w.alloc (Obj.cells #[.pointer (some ⟨V, 0, none⟩)] 55)) := (Below.refl _ _).alloc (Nat.le_refl _) _
  have hkc : (w.alloc (Obj.cells #[.pointer (some ⟨V, 0, none⟩)] 55)).cell? ⟨w.heap.size, 0, none⟩ = some (.pointer (some ⟨V, 0, none⟩)) := by simp
  have hkz : (w.alloc (Obj.cells #[.pointer (some ⟨V, 0, none⟩)] 55)).heap.size = w.heap.size + 1 := by simp
  have HNS := newSets_any f ⟨ta, tc, na, nc, pa, pc⟩ (w.alloc (Obj.cells #[.pointer (some ⟨V, 0, none⟩)] 55)) HH.out.1
  generalize (w.alloc (Obj.cells #[.pointer (some ⟨V, 0, none⟩)] 55)) = Wk at *
  refine HNS.mono ?_
  rintro e w1 ⟨H, bo, rfl, q1, q2, q3, q4⟩
  clear HNS
  have c1 := fun {o u} (h : w.cell? ⟨V, o, none⟩ = some u) => (q4.cell (p := ⟨V, o, none⟩) (by show V < _; omega)).trans ((hbk.cell (p := ⟨V, o, none⟩) hVl).trans h)
  have k1 := (q4.cell (p := ⟨w.heap.size, 0, none⟩) (by show w.heap.size < _; omega)).trans hkc
  have w10 := c1 v0
  have w11 := c1 v1
  have w12 := c1 v2
  have hz1 := q4.size
  clear c1
  have hT : f.terms.length < f.n := by have := HH.out.1.nons; unfold Fl.n; omega
  have hTl : f.terms.length < (List.replicate f.n (List.replicate (f.terms.length / 64 + 1) 0)).length := by rw [List.length_replicate]; exact hT
  have d1 := q3.cell hTl
  have hHl := q3.lt
  have hmT := q3.mem hTl
  have hHo := q3.out
  have hea := q3.each _ hTl
  rw [zeros_get _ _ _ hT] at hea
  have ba : Below w1.heap.size w1 (w1.alloc (Obj.cells #[.slice (some ⟨H, 0, none⟩) f.n f.n] 52)) := (Below.refl _ _).alloc (Nat.le_refl _) _
  have hza : (w1.alloc (Obj.cells #[.slice (some ⟨H, 0, none⟩) f.n f.n] 52)).heap.size = w1.heap.size + 1 := by simp
  have ka : (w1.alloc (Obj.cells #[.slice (some ⟨H, 0, none⟩) f.n f.n] 52)).cell? ⟨w1.heap.size, 0, none⟩ = some (.slice (some ⟨H, 0, none⟩) f.n f.n) := by simp
  have hbw1 : ∀ b ∈ bo, b < w1.heap.size := q3.blk
  have hbT := hbw1 _ hmT
  have hTb := q2 _ hmT
  have HP : Hid (Calls Tryd.prog 51 #[.slice (some ⟨bo.getD f.terms.length 0, 0, none⟩) (f.terms.length / 64 + 1) (f.terms.length / 64 + 1), .int .i64 f.terms.length] (w1.alloc (Obj.cells #[.slice (some ⟨H, 0, none⟩) f.n f.n] 52)) fun e w' => (∃ v, e = .returned v) ∧ SetsB H (f.terms.length / 64 + 1) bo ((List.replicate f.n (List.replicate (f.terms.length / 64 + 1) 0)).set f.terms.length (putW (List.replicate (f.terms.length / 64 + 1) 0) f.terms.length)) w' ∧ But (fun k => k = bo.getD f.terms.length 0) w1 w' ∧ But (fun k => k = bo.getD f.terms.length 0) (w1.alloc (Obj.cells #[.slice (some ⟨H, 0, none⟩) f.n f.n] 52)) w') := by
    refine (sput_any _ _ _ f.terms.length _ (hea.but (D := fun _ => False) (But.of_next ba) (fun h => h)) (by omega) (by omega)).mono ?_
    rintro e w' ⟨he, h1, h2⟩
    have h3 : But (fun k => k = bo.getD f.terms.length 0) w1 w' := (But.of_next ba).trans h2
    exact ⟨he, q3.turn hTl h3 h1, h3, h2⟩
  generalize bo.getD f.terms.length 0 = bT at *
  have HO : Hid (StO2 f (f.terms.length / 64 + 1) ((List.replicate f.n (List.replicate (f.terms.length / 64 + 1) 0)).set f.terms.length (putW (List.replicate (f.terms.length / 64 + 1) 0) f.terms.length))) := putEnd_ok hT
  have HN : Hid (∀ W, Calls Tryd.prog 34 #[.agg #[.slice ta f.terms.length tc, .slice na f.nons.length nc, .slice pa f.prods.length pc]] W fun e w' => ∃ b, e = .returned (.slice (some ⟨b, 0, none⟩) (f.terms.length / 64 + 1) (f.terms.length / 64 + 1)) ∧ W.heap.size ≤ b ∧ SetB b (f.terms.length / 64 + 1) (List.replicate (f.terms.length / 64 + 1) 0) w' ∧ Below W.heap.size W w') := fun W => newSet_any f ⟨ta, tc, na, nc, pa, pc⟩ W HH.out.1.size
  have hM0 : 0 < f.terms.length / 64 + 1 := by omega
  obtain ⟨M, hM⟩ : ∃ M, M = f.terms.length / 64 + 1 := ⟨_, rfl⟩
  rw [← hM] at HO HP hm20 d1 HH HN hM0
  have HM : Hid (M = f.terms.length / 64 + 1) := hM
  clear hM q3 hea hTl
  generalize (List.replicate f.n (List.replicate M 0)).set f.terms.length (putW (List.replicate M 0) f.terms.length) = O at *
  go_wp2_with fail
  generalize (w1.alloc (Obj.cells #[.slice (some ⟨H, 0, none⟩) f.n f.n] 52)) = Wa at *
  refine HP.out.mono ?_
  rintro e w2 ⟨⟨v, rfl⟩, p1, p2, p3⟩
  clear HP
  have hz2 := p3.size
  have e2 : ∀ {b o u}, b < w1.heap.size → b ≠ bT → w1.cell? ⟨b, o, none⟩ = some u → w2.cell? ⟨b, o, none⟩ = some u := fun {b o u} h1 h2 h3 => (p2.cell (p := ⟨b, o, none⟩) h1 h2).trans h3
  have k2 := e2 (by omega) (by omega) k1
  have ka2 := (p3.cell (p := ⟨w1.heap.size, 0, none⟩) (by show w1.heap.size < _; omega) (by show w1.heap.size ≠ bT; omega)).trans ka
  have w20 := e2 (by omega) (by omega) w10
  have w21 := e2 (by omega) (by omega) w11
  have w22 := e2 (by omega) (by omega) w12
  clear e2 w10 w11 w12 k1 ka d1
  go_wp2_with fail
  refine (HN.out _).mono ?_
  rintro e w3 ⟨c, rfl, n1, n2, n3⟩
  clear HN
  have k3 := (n3.cell (p := ⟨w.heap.size, 0, none⟩) (by show w.heap.size < _; omega)).trans k2
  have ka3 := (n3.cell (p := ⟨w1.heap.size, 0, none⟩) (by show w1.heap.size < _; omega)).trans ka2
  have w30 := (n3.cell (p := ⟨V, 0, none⟩) (by show V < _; omega)).trans w20
  have w31 := (n3.cell (p := ⟨V, 1, none⟩) (by show V < _; omega)).trans w21
  have w32 := (n3.cell (p := ⟨V, 2, none⟩) (by show V < _; omega)).trans w22
  have hz3 := n3.size
  have hcl := n2.lt
  have b3 : Below w.heap.size w w3 := by
    have h1 := below_then hbk q4 hbk.size
    have h2 := below_but h1 p2 (fun k hk => by omega)
    exact below_then h2 n3 h2.size
  have b4 : Below w3.heap.size w3 (w3.alloc (Obj.cells #[.slice (some ⟨c, 0, none⟩) M M] 61)) := (Below.refl _ _).alloc (Nat.le_refl _) _
  have k4 : (w3.alloc (Obj.cells #[.slice (some ⟨c, 0, none⟩) M M] 61)).cell? ⟨w3.heap.size, 0, none⟩ = some (.slice (some ⟨c, 0, none⟩) M M) := by simp
  have HF : Hid (FAt f ⟨ta, tc, na, nc, pa, pc⟩ M w.heap.size w0 V E G bs L R w3.heap.size w1.heap.size w.heap.size H c bo O (List.replicate M 0) (w3.alloc (Obj.cells #[.slice (some ⟨c, 0, none⟩) M M] 61))) := by
    have hV := HH.out.2.2.1
    have hbs := hV.s.blk
    refine ⟨hV.next (b3.trans (b4.mono b3.size)), k4, ?_, ?_, ?_, ?_, hVl, hV.e.lt, hV.s.lt, hbs, fun b hb => ?_, by omega, hV.below.size, ⟨fun h => ?_, by omega⟩, ⟨fun h => ?_, by omega⟩, ⟨fun h => ?_, by omega⟩, by omega, fun h => ?_⟩
    · exact (b4.cell (p := ⟨w1.heap.size, 0, none⟩) (by show w1.heap.size < _; omega)).trans ka3
    · exact (b4.cell (p := ⟨w.heap.size, 0, none⟩) (by show w.heap.size < _; omega)).trans k3
    · exact (p1.but (D := fun _ => False) (But.of_next n3) (fun h => h) (fun _ _ h => h)).but (D := fun _ => False) (But.of_next b4) (fun h => h) (fun _ _ h => h)
    · exact n2.but (D := fun _ => False) (But.of_next b4) (fun h => h)
    · have := q2 b hb; omega
    · have := hbw1 _ h; omega
    · have := hbw1 _ h; omega
    · have := q2 _ h; omega
    · have := hbw1 _ h; omega
  have HSE := followSettle f ⟨ta, tc, na, nc, pa, pc⟩ M w.heap.size w0 V E G bs L R _ _ _ H c bo O _ _ HH.out.1 HH.out.2.1 hm20 hM0 HF.out HH.out.2.2.2.1 HH.out.2.2.2.2.1 HH.out.2.2.2.2.2 HO.out
  unfold FlA.val at HSE
  simp only at HSE
  have hDk : ∀ k, Dk bo c k → w.heap.size ≤ k := fun k hk => by
    rcases hk with h | h
    · have := q2 k h; omega
    · omega
  have hn2 : w3.heap.size ≠ w1.heap.size := by omega
  have hn3 : w3.heap.size ≠ w.heap.size := by omega
  have hn4 : w3.heap.size ≠ V := by omega
  have hl3 : w.heap.size < w3.heap.size := by omega
  have hl4 : V < w3.heap.size := by omega
  clear k2 ka2 w20 w21 w22 HF n2 p1 p2 p3
  have HS4 : Hid (Calls Tryd.prog 46 #[.agg #[.slice ta f.terms.length tc, .slice na f.nons.length nc, .slice pa f.prods.length pc], .func (.func 54) #[] #[.pointer (some ⟨w3.heap.size, 0, none⟩), .pointer (some ⟨w1.heap.size, 0, none⟩), .pointer (some ⟨w.heap.size, 0, none⟩)]] (w3.alloc (Obj.cells #[.slice (some ⟨c, 0, none⟩) M M] 61)) fun e w' => (∃ v, e = .returned v) ∧ ∃ O' B', FAt f ⟨ta, tc, na, nc, pa, pc⟩ M w.heap.size w0 V E G bs L R w3.heap.size w1.heap.size w.heap.size H c bo O' B' w' ∧ StO2 f M O' ∧ (∀ q ∈ f.gr, ClosO f O' q) ∧ But (Dk bo c) (w3.alloc (Obj.cells #[.slice (some ⟨c, 0, none⟩) M M] 61)) w') := HSE
  clear HSE
  go_wp2_with fail
  refine HS4.out.mono ?_
  rintro e w5 ⟨⟨v, rfl⟩, O', B', g1, g2, g3, g4⟩
  have ka5 := g1.k2
  have HFIN : Hid (SetsB H M bo O' w5 ∧ StO2 f M O' ∧ (∀ q ∈ f.gr, ClosO f O' q) ∧ Below w.heap.size w w5) := ⟨g1.s, g2, g3, below_but (b3.trans (b4.mono b3.size)) g4 hDk⟩
  clear HS4 g1 g2 g3 g4 k3 ka3 w30 w31 w32 k4
  go_wp2_with fail
  go_ret
  rw [← HM.out]
  exact ⟨H, bo, O', rfl, HFIN.out.1, HFIN.out.2.1, HFIN.out.2.2.1, HFIN.out.2.2.2⟩

set_option maxRecDepth 100000 in
set_option maxHeartbeats 1000000 in
theorem follow_any (f : Fl) (a : FlA) (w : World) (hf : FlAt f a w) (hp : FitP f) (hT : Tb w) :
    Calls Tryd.prog 17 #[a.val f] w fun e w' => ∃ v R, e = .returned v ∧ GivesR (FolP f) f.n R ∧ SlR R v w' ∧ Below w.heap.size w w' := by
  have HSO : Hid (∀ W, Below w.heap.size w W → Calls Tryd.prog 26 #[a.val f] W fun e w' => e = .returned (.bool true) ∧ Below W.heap.size W w') := fun W hb => sound_any f a W (hf.next hb) hp
  have HVO : Hid (∀ W, Below w.heap.size w W → Calls Tryd.prog 30 #[a.val f] W fun e w' => ∃ V E G bs L R, e = .returned (.pointer (some ⟨V, 0, none⟩)) ∧ VOk f a (f.terms.length / 64 + 1) W V E G bs L R w' ∧ GivesB (fun s => false = true ∧ s < f.terms.length) f.gr f.n L ∧ StW f (f.terms.length / 64 + 1) R ∧ ∀ q ∈ f.gr, ClosF f R q) := fun W hb => viewOf_any f a W (hf.next hb) hp
  have HFO : Hid (∀ W V E G bs L R w', Below w.heap.size w W → VOk f a (f.terms.length / 64 + 1) W V E G bs L R w' → GivesB (fun s => false = true ∧ s < f.terms.length) f.gr f.n L → StW f (f.terms.length / 64 + 1) R → (∀ q ∈ f.gr, ClosF f R q) → Calls Tryd.prog 32 #[.pointer (some ⟨V, 0, none⟩)] w' fun e w2 => ∃ H bo O, e = .returned (.slice (some ⟨H, 0, none⟩) f.n f.n) ∧ SetsB H (f.terms.length / 64 + 1) bo O w2 ∧ StO2 f (f.terms.length / 64 + 1) O ∧ (∀ q ∈ f.gr, ClosO f O q) ∧ Below w'.heap.size w' w2) := fun W V E G bs L R w' hb h1 h2 h3 h4 => followM_any f a W V E G bs L R w' hp (hf.next hb) h1 h2 h3 h4
  have X0 := FBox.new f a 25 w
  have B0 : Below w.heap.size w (w.alloc (fobj f a 25)) := (Below.refl _ _).alloc (Nat.le_refl _) _
  have hm20 : f.terms.length / 64 + 1 ≤ 20 := by have := hp.size; omega
  have hn : f.n ≤ 600 := hp.size
  obtain ⟨ta, tc, na, nc, pa, pc⟩ := a
  unfold fobj at X0 B0
  unfold FlA.val at HSO HVO ⊢
  simp only at *
  clear hf hp
  go_enter Tryd.func17, Tryd.ntmps17
  go_wp2_with fail
  generalize (w.alloc (Obj.cells #[Value.slice ta f.terms.length tc, Value.slice na f.nons.length nc, Value.slice pa f.prods.length pc] 25)) = W1 at *
  refine (HSO.out _ B0).mono ?_
  rintro e w1 ⟨rfl, hb1⟩
  have X1 := X0.next hb1
  have B1 := below_then B0 hb1 B0.size
  obtain ⟨x0, x1, x2, x3⟩ := X1
  simp only at x1 x2 x3
  clear X0 B0 hb1 HSO
  go_wp2_with fail
  refine (HVO.out _ B1).mono ?_
  rintro e w2 ⟨V, E, G, bs, L, R, rfl, hV, hL, hR, hc⟩
  have HF := HFO.out _ _ _ _ _ _ _ _ B1 hV hL hR hc
  have B2 := below_then B1 hV.below B1.size
  clear HVO B1 hV hL hR hc x0 x1 x2 x3 HFO
  go_wp2_with fail
  refine HF.mono ?_
  rintro e w3 ⟨H, bo, O, rfl, s1, s2, s3, s4⟩
  have B3 := below_then B2 s4 B2.size
  have hOl : O.length = f.n := s2.ok.len
  have HGI : Hid (GivesR (FolP f) f.n (O.map listW)) := s2.gives s3
  have HLI := lists_any H _ bo O w3 s1 hm20 (by omega) (hT.next B3)
  rw [hOl] at HLI
  clear HF B2 s1 s2 s3 s4 hT
  go_wp2_with fail
  refine HLI.mono ?_
  rintro e w4 ⟨v, rfl, g1, g2⟩
  obtain ⟨ao, cap, rfl, g4⟩ := g1
  have e2 : (O.map listW).length = f.n := by rw [List.length_map]; exact hOl
  rw [e2] at g4 ⊢
  have HF : Hid (SlR (O.map listW) (.slice ao f.n cap) w4 ∧ Below w.heap.size w w4) := ⟨⟨ao, cap, by rw [e2], by rw [e2]; exact g4⟩, below_then B3 g2 B3.size⟩
  clear g2 B3 HLI
  go_wp2_with fail
  go_ret
  exact ⟨_, _, rfl, HGI.out, HF.out.1, HF.out.2⟩
end Go.Proofs.YtckbfiigbckmeaaDoor
