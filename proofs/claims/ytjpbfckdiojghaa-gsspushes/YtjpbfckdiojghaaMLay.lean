/- Stacks: the program's lay: a stack's nodes and links put to those that are there. -/
import Derived.Test.YtjpbfckdiojghaaMLay0
import Derived.Test.YtjpbfckdiojghaaRound
import Derived.Test.YtjpbfckdiojghaaPRows
namespace Go.Proofs.Ytjpbfckdiojghaa
open Go.RowKit Go.Maps

set_option maxRecDepth 100000 in
set_option maxHeartbeats 8000000 in
theorem lay_any (B gm n mb : Nat) (S : List Sp) (g : List Gn) (gv : Value) (L : List GnV) (V : Sp → Prop) (E : Sp → Sp → Prop) (Kb : Nat) (w : World) (hO : OwnS B L (.slice (some ⟨gm, 0, none⟩) n n) w) (hn : n = S.length) (hI : InvM S V E (L.map Prod.fst)) (hup : S.Pairwise ltS) (hM : MapN mb S (fun s => posS S s) w) (hmb : mb < B) (hB : B ≤ w.heap.size) (w0 : World) (hs0 : w0.heap.size = B) (hbw : Below B w0 w) (hg0 : SlN g gv w0) (hf : fitP g) (hgl : g.length ≤ 400) (hsub : ∀ s, VG g s → s ∈ S) (hK : ∀ p ∈ L, p.1.links.length ≤ Kb) (hK2 : Kb ≤ 500000) (hSl : S.length ≤ 2000) :
    Calls Try.prog 50 #[.agg #[.slice (some ⟨gm, 0, none⟩) n n], .agg #[gv], .map (some mb)] w fun e w' => e = .returned (.tuple #[]) ∧ ∃ L', OwnS B L' (.slice (some ⟨gm, 0, none⟩) n n) w' ∧ InvM S (fun s => V s ∨ VG g s) (fun s t => E s t ∨ EG g s t) (L'.map Prod.fst) ∧ (∀ p ∈ L', p.1.links.length ≤ Kb + g.length * 400) ∧ Below B w w' ∧ ∀ (k : Nat) cs, w.heap[k]? = some (Obj.cells cs 24) → w'.heap[k]? = some (Obj.cells cs 24) := by
  obtain ⟨ii, hii, hi0, hi1, hi2⟩ := info_parts info3
  have hg : ∀ W, Below B w W → SlN g gv W := fun W hW => hg0.next (by rw [hs0]; exact hbw.trans hW)
  have HG : Hid (∀ W, Below B w W → SlN g gv W) := hg
  have HFT : Hid (fitP g) := hf
  have HSB : Hid (∀ x ∈ g, spG x ∈ S) := fun x hx => hsub _ ⟨x, hx, rfl⟩
  have HUP : Hid (S.Nodup) := up_nodup hup
  have HM : Hid (∀ W, Below B w W → MapN mb S (fun s => posS S s) W) := fun W hW => hM.kept (hW.block _ hmb)
  have HO : Hid (OwnS B L (.slice (some ⟨gm, 0, none⟩) n n) w) := hO
  have HI : Hid (InvM S V E (L.map Prod.fst)) := hI
  have HK : Hid (∀ p ∈ L, p.1.links.length ≤ Kb) := hK
  have HNS : Hid (n = S.length) := hn
  have hn2 : n ≤ 2000 := by omega
  have HGM : Hid (B ≤ gm ∧ gm < w.heap.size ∧ ∃ cs, w.heap[gm]? = some (.cells cs 35 (0, 0))) := by
    have h1 := World.ownsRow.lt hO.nodes gm rfl
    refine ⟨h1.1, h1.2, ?_⟩
    rcases hO.nodes.2 with ⟨e, _⟩ | ⟨g', c', cur, e, _, hg', _⟩
    · simp at e
    · simp at e
      obtain ⟨rfl, _⟩ := e
      exact ⟨cur, hg'⟩
  obtain ⟨ga, gc, rfl, _⟩ := hg w (Below.refl _ _)
  have HGJ : Hid (∀ j (hj : j < g.length), ∃ b o u, ga = some ⟨b, o, none⟩ ∧ i64B g[j].st ∧ i64B g[j].pl ∧ ∀ W, Below B w W → W.cell? ⟨b, o + j * 3, none⟩ = some (.int .i64 g[j].st) ∧ W.cell? ⟨b, o + j * 3 + 1, none⟩ = some (.int .i64 g[j].pl) ∧ W.cell? ⟨b, o + j * 3 + 2, none⟩ = some u ∧ SlI g[j].links u W) := fun j hj => by
    obtain ⟨_, _, e, hgn, _⟩ := hg0
    cases e
    obtain ⟨b, o, u, e, hb, q0, q1, q2, hs, i1, i2, _⟩ := hgn.at (Below.refl _ _) hj
    refine ⟨b, o, u, e, i1, i2, fun W hW => ?_⟩
    have hw : Below w0.heap.size w0 W := by rw [hs0]; exact hbw.trans hW
    exact ⟨(hw.cell (p := ⟨b, o + j * 3, none⟩) hb).trans q0, (hw.cell (p := ⟨b, o + j * 3 + 1, none⟩) hb).trans q1, (hw.cell (p := ⟨b, o + j * 3 + 2, none⟩) hb).trans q2, hs.next hw⟩
  clear hO hI hM hg hf hsub hK hup hn hg0 hbw hs0
  have B0 : Below w.heap.size w ((w.alloc (Obj.cells #[.slice (some ⟨gm, 0, none⟩) n n] 24)).alloc (Obj.cells #[.slice ga g.length gc] 24)) := ((Below.refl _ _).alloc (Nat.le_refl _) _).alloc (by simp) _
  have k0 : ((w.alloc (Obj.cells #[.slice (some ⟨gm, 0, none⟩) n n] 24)).alloc (Obj.cells #[.slice ga g.length gc] 24)).heap[w.heap.size]? = some (Obj.cells #[.slice (some ⟨gm, 0, none⟩) n n] 24) := blk_new (heap_alloc_new _ _)
  have k1 : ((w.alloc (Obj.cells #[.slice (some ⟨gm, 0, none⟩) n n] 24)).alloc (Obj.cells #[.slice ga g.length gc] 24)).heap[w.heap.size + 1]? = some (Obj.cells #[.slice ga g.length gc] 24) := by simpa using heap_alloc_new (w.alloc (Obj.cells #[.slice (some ⟨gm, 0, none⟩) n n] 24)) (Obj.cells #[.slice ga g.length gc] 24)
  have hs0 : ((w.alloc (Obj.cells #[.slice (some ⟨gm, 0, none⟩) n n] 24)).alloc (Obj.cells #[.slice ga g.length gc] 24)).heap.size = w.heap.size + 2 := by simp
  have HS0 : Hid (((w.alloc (Obj.cells #[.slice (some ⟨gm, 0, none⟩) n n] 24)).alloc (Obj.cells #[.slice ga g.length gc] 24)).heap.size = w.heap.size + 2) := hs0
  clear hs0
  go_enter Try.func50, Try.ntmps50
  go_wp2_with (at_make; refine wpList_make_full _ rfl _ _ 33 rfl (w.heap.size + 2) 3 ii _ 1 Try.underlying33 hii hi0 hi1 _ _ _ _ g.length rfl rfl rfl rfl (by rw [hi2]; omega) (by unfold maxLen; omega) (by simp) ?_)
  generalize ((w.alloc (Obj.cells #[.slice (some ⟨gm, 0, none⟩) n n] 24)).alloc (Obj.cells #[.slice ga g.length gc] 24)) = wa at *
  rintro w2 hown hg2
  obtain ⟨ab, hab⟩ : ∃ ab, ab = w.heap.size + 1 + 1 := ⟨_, rfl⟩
  have HAB : Hid (ab = w.heap.size + 2) := hab
  have hown' : OwnI (w.heap.size + 2) (List.replicate g.length 0) (.slice (some ⟨ab, 0, none⟩) g.length g.length) w2 := by
    unfold OwnI
    simp only [List.length_replicate, List.map_replicate]
    have : (madeCells #[Value.int .i64 0] g.length).toList = List.replicate g.length (encI 0) := toList_madeCells_one _ _
    rw [← this, hab]
    simpa using hown
  rw [← hab]
  have HO0 : Hid (OwnI (w.heap.size + 2) (List.replicate g.length 0) (.slice (some ⟨ab, 0, none⟩) g.length g.length) w2) := hown'
  have B2 : Below w.heap.size w w2 := B0.grown hg2 B0.size (fun k e => by cases e)
  have k02 : w2.heap[w.heap.size]? = some (Obj.cells #[.slice (some ⟨gm, 0, none⟩) n n] 24) := (hg2.block _ (blk_lt k0) (fun e => by cases e)).trans k0
  have k12 : w2.heap[w.heap.size + 1]? = some (Obj.cells #[.slice ga g.length gc] 24) := (hg2.block _ (blk_lt k1) (fun e => by cases e)).trans k1
  have HT : Hid (∀ W, But (fun k => k = ab) w2 W → W.heap[w.heap.size]? = some (Obj.cells #[.slice (some ⟨gm, 0, none⟩) n n] 24) ∧ W.heap[w.heap.size + 1]? = some (Obj.cells #[.slice ga g.length gc] 24) ∧ Below w.heap.size w W) := fun W hW => by
    have hb := B2.trans (hW.below B2.size (fun k e => by omega))
    exact ⟨but_blk hW k02 (by omega), but_blk hW k12 (by omega), hb⟩
  have c12 : w2.cell? ⟨w.heap.size + 1, 0, none⟩ = some (.slice ga g.length gc) := by rw [Lib.cell_of_heap k12]; rfl
  clear hown hown' hg2 B0 B2 k0 k02 k1 k12 hab hii hi0 hi1 hi2
  go_wp2_with fail
  clear c12
  go_loopw [21] (fun iv wr => ∃ (i : Nat) (A : List Int), iv = .int .i64 i ∧ i ≤ g.length ∧ Hid (A.length = g.length) ∧ Hid (OwnI (w.heap.size + 2) A (.slice (some ⟨ab, 0, none⟩) g.length g.length) wr) ∧ Hid (∀ (k : Nat) (x : Gn), k < i → g[k]? = some x → A[k]? = some (posS S (spG x) : Int)) ∧ Hid (But (fun k => k = ab) w2 wr)) (fun i _ => g.length - (intOf i).toNat)
  case atStart => exact ⟨0, _, rfl, Nat.zero_le _, by show _ = _; simp, HO0, fun k x hk => by omega, But.refl _ _⟩
  case round =>
  obtain ⟨i, A, rfl, hi, HAL, HOA, HAA, HBR⟩ := hrel
  obtain ⟨t0, t1, tB⟩ := HT.out wr HBR.out
  have tBB : Below B w wr := tB.mono hB
  by_cases hlt : i < g.length
  case neg =>
    obtain rfl : i = g.length := by omega
    have HAF : Hid (∀ (k : Nat) (x : Gn), g[k]? = some x → A[k]? = some (posS S (spG x) : Int)) := fun k x hx => HAA.out k x (List.getElem?_eq_some_iff.1 hx).1 hx
    have c1 : wr.cell? ⟨w.heap.size + 1, 0, none⟩ = some (.slice ga g.length gc) := by rw [Lib.cell_of_heap t1]; rfl
    have HO2 : Hid (OwnS B L (.slice (some ⟨gm, 0, none⟩) n n) wr) := HO.out.next tB
    have HAP : Hid (∀ p ∈ L, ∀ k, p.2.ownBlock = some k → k ≠ ab) := fun p hp k hk e => by
      have := (World.ownsRow.lt (HO.out.links p hp).own k hk).2
      have := HAB.out
      omega
    obtain ⟨Kp, hKp⟩ : ∃ Kp : World → Prop, Kp = fun W => (∀ (k : Nat) cs, wr.heap[k]? = some (Obj.cells cs 24) → W.heap[k]? = some (Obj.cells cs 24)) ∧ W.heap[ab]? = wr.heap[ab]? ∧ Below B w W ∧ w.heap.size + 3 ≤ W.heap.size := ⟨_, rfl⟩
    have habl : ab < wr.heap.size := by
      have := World.ownsRow.lt (HOA.out) ab rfl
      exact this.2
    have hK0 : Kp wr := by rw [hKp]; exact ⟨fun _ _ h => h, rfl, tBB, by have := HAB.out; omega⟩
    have HKB : Hid (∀ W W' (D : Nat → Prop), Kp W → But D W W' → (∀ (k : Nat) cs, W.heap[k]? = some (Obj.cells cs 24) → ¬ D k) → ¬ D ab → (∀ k, D k → B ≤ k) → Kp W') := fun W W' D hk hb n0 n2 hd => by
      rw [hKp] at hk ⊢
      obtain ⟨a1, a3, a4, a5⟩ := hk
      refine ⟨fun k cs hk => but_blk hb (a1 k cs hk) (n0 k cs (a1 k cs hk)), (hb.block ab (by have := HAB.out; omega) n2).trans a3, a4.trans (hb.below (Nat.le_trans hB a4.size) hd), Nat.le_trans a5 hb.size⟩
    have HKX : Hid (∀ W, Kp W → W.cell? ⟨w.heap.size, 0, none⟩ = some (.slice (some ⟨gm, 0, none⟩) n n) ∧ W.cell? ⟨w.heap.size + 1, 0, none⟩ = some (.slice ga g.length gc) ∧ Below B w W ∧ w.heap.size + 3 ≤ W.heap.size ∧ ∀ (k : Nat) (x : Gn), g[k]? = some x → W.cell? ⟨ab, k, none⟩ = some (.int .i64 (posS S (spG x) : Nat))) := fun W hk => by
      rw [hKp] at hk
      obtain ⟨a1, a3, a4, a5⟩ := hk
      refine ⟨by rw [Lib.cell_of_heap (a1 _ _ t0)]; rfl, by rw [Lib.cell_of_heap (a1 _ _ t1)]; rfl, a4, a5, fun k x hx => ?_⟩
      have hAl := HAL.out
      have hx2 := HAF.out k x hx
      have h0 : wr.ownsRow (w.heap.size + 2) 3 1 (.slice (some ⟨ab, 0, none⟩) g.length g.length) g.length (A.map encI) := by
        have h9 := HOA.out
        unfold OwnI at h9
        rw [hAl] at h9
        exact h9
      have h1 := World.ownsRow.cellAt h0 k (by have := (List.getElem?_eq_some_iff.1 hx).1; omega)
      rw [List.getElem?_map, hx2] at h1
      rw [← show wr.cell? ⟨ab, k, none⟩ = W.cell? ⟨ab, k, none⟩ from World.cell?_of_block a3.symm]
      exact h1
    have HKP : Hid (∀ W, Kp W → ∀ (k : Nat) cs, w.heap[k]? = some (Obj.cells cs 24) → W.heap[k]? = some (Obj.cells cs 24)) := fun W hk k cs hcs => by rw [hKp] at hk; exact hk.1 k cs ((tB.block _ (blk_lt hcs)).trans hcs)
    have HK0 : Hid (Kp wr) := hK0
    clear hKp hK0 HT HAA HOA HAL HBR HAF HO0 HO t0 t1 tB tBB HM habl HG
    go_wp2_with fail
    clear c1
    go_loopw [37] (fun iv wq => ∃ (i : Nat) (L' : List GnV), iv = .int .i64 i ∧ i ≤ g.length ∧ Hid (OwnS B L' (.slice (some ⟨gm, 0, none⟩) n n) wq) ∧ Hid (InvM S (fun s => V s ∨ ∃ x ∈ g.take i, spG x = s) (fun s t => E s t ∨ EdN g i s t) (L'.map Prod.fst)) ∧ Hid (∀ p ∈ L', p.1.links.length ≤ Kb + i * 400) ∧ Hid (∀ p ∈ L', ∀ k, p.2.ownBlock = some k → k ≠ ab) ∧ Hid (Kp wq)) (fun i _ => g.length - (intOf i).toNat)
    case atStart => exact ⟨0, L, rfl, Nat.zero_le _, HO2, HI.out.congr (fun s h => h.elim id (fun ⟨x, hx, _⟩ => by simp at hx)) (fun s t => ⟨.inl, fun h => h.elim id (fun ⟨x, hx, _⟩ => by simp at hx)⟩), fun p hp => by have := HK.out p hp; omega, HAP, HK0⟩
    case round =>
    clear HO2 HI HK HAP HK0
    obtain ⟨i, L1, rfl, hi1, HO1, HI1, HK1, HA1, HP1⟩ := hrel
    by_cases hlt1 : i < g.length
    case neg =>
      obtain rfl : i = g.length := by omega
      have HE : Hid (∃ L', OwnS B L' (.slice (some ⟨gm, 0, none⟩) n n) wr ∧ InvM S (fun s => V s ∨ VG g s) (fun s t => E s t ∨ EG g s t) (L'.map Prod.fst) ∧ (∀ p ∈ L', p.1.links.length ≤ Kb + g.length * 400) ∧ Below B w wr ∧ ∀ (k : Nat) cs, w.heap[k]? = some (Obj.cells cs 24) → wr.heap[k]? = some (Obj.cells cs 24)) := ⟨L1, HO1.out, HI1.out.congr (fun s h => by rw [List.take_length]; exact h) (fun s t => by rw [EdN.all HFT.out]), HK1.out, (HKX.out wr HP1.out).2.2.1, HKP.out wr HP1.out⟩
      clear HO1 HI1 HK1 HA1 HP1 HGJ HKB HKX HKP
      go_wp2_with fail
      go_end0
      exact ⟨rfl, HE.out⟩
    obtain ⟨k0, _, kB, kS, kA⟩ := HKX.out wr HP1.out
    obtain ⟨b2, o2, u, rfl, x64, y64, hcells⟩ := HGJ.out i hlt1
    obtain ⟨q0, q1, q2, hsx⟩ := hcells wr kB
    have HXL : Hid (∀ W, Below B w W → SlI g[i].links u W) := fun W hW => (hcells W hW).2.2.2
    have HGI : Hid (g[i]? = some g[i]) := List.getElem?_eq_getElem hlt1
    have HTK : Hid (g.take (i + 1) = g.take i ++ [g[i]]) := List.take_succ_eq_append_getElem hlt1
    have HFX : Hid (∀ j ∈ g[i].links, 0 ≤ j ∧ j < g.length) := HFT.out.links _ (List.getElem_mem hlt1)
    have HXC : Hid (g[i].links.length ≤ 400) := by
      have := up_len (HFT.out.linkUp (List.getElem_mem hlt1)) (HFT.out.links _ (List.getElem_mem hlt1))
      show _ ≤ _; omega
    have hxc := HXC.out
    obtain ⟨p0, hp0⟩ : ∃ p0, p0 = posS S (spG g[i]) := ⟨_, rfl⟩
    have HPS : Hid (S[p0]? = some (spG g[i])) := by rw [hp0]; exact posS_mem (HSB.out _ (List.getElem_mem hlt1))
    have hpn : p0 < n := by rw [HNS.out]; exact (List.getElem?_eq_some_iff.1 HPS.out).1
    have ka := kA i _ HGI.out
    rw [← hp0] at ka
    clear hcells hp0 kA HXC
    generalize g[i] = x at *
    obtain ⟨xs, xp, xk⟩ := x
    simp only at *
    obtain ⟨xa, xc, rfl⟩ : ∃ xa xc, u = .slice xa xk.length xc := hsx.imp fun _ h => h.imp fun _ h => h.1
    have hmk : (k : Nat) → k ≠ gm → wr.heap[k]? = wr.heap[k]? := fun _ _ => rfl
    clear hsx hmk
    have hBN : Below wr.heap.size wr (wr.alloc (Obj.cells #[.int .i64 xs, .int .i64 xp, .slice xa xk.length xc] 35)) := (Below.refl _ _).alloc (Nat.le_refl _) _
    have hk0n : (wr.alloc (Obj.cells #[.int .i64 xs, .int .i64 xp, .slice xa xk.length xc] 35)).cell? ⟨w.heap.size, 0, none⟩ = some (.slice (some ⟨gm, 0, none⟩) n n) := cell_new k0
    have hkan : (wr.alloc (Obj.cells #[.int .i64 xs, .int .i64 xp, .slice xa xk.length xc] 35)).cell? ⟨ab, i, none⟩ = some (.int .i64 p0) := cell_new ka
    have hnb : (wr.alloc (Obj.cells #[.int .i64 xs, .int .i64 xp, .slice xa xk.length xc] 35)).heap[wr.heap.size]? = some (Obj.cells #[.int .i64 xs, .int .i64 xp, .slice xa xk.length xc] 35) := heap_alloc_new _ _
    have HON : Hid (OwnS B L1 (.slice (some ⟨gm, 0, none⟩) n n) (wr.alloc (Obj.cells #[.int .i64 xs, .int .i64 xp, .slice xa xk.length xc] 35))) := HO1.out.next hBN
    have HPN : Hid (Kp (wr.alloc (Obj.cells #[.int .i64 xs, .int .i64 xp, .slice xa xk.length xc] 35))) := HKB.out _ _ (fun _ => False) HP1.out (But.of_next hBN) (fun _ _ _ h => h) id (fun _ h => h.elim)
    have hgml : gm < wr.heap.size := Nat.lt_of_lt_of_le HGM.out.2.1 kB.size
    go_upto_region 10 with fail
    obtain ⟨nb, hnbe⟩ : ∃ nb, nb = wr.heap.size := ⟨_, rfl⟩
    rw [← hnbe] at hnb hgml ⊢
    clear q0 q1 q2 k0 ka kB hBN hnbe
    generalize wr.alloc (Obj.cells #[.int .i64 xs, .int .i64 xp, .slice xa xk.length xc] 35) = wn at *
    refine wp_region_L (fun W => W.cell? ⟨w.heap.size, 0, none⟩ = some (.slice (some ⟨gm, 0, none⟩) n n) ∧ W.cell? ⟨ab, i, none⟩ = some (.int .i64 p0)) 8 (by kernel_rfl) 8 rfl ?_
    refine wpAnyL_take' (i := 0) (v := ?_) (oi := { dst := some 42, op := Op.fieldAddr 24 (Operand.tmp 3) 0, type := 0, pos := "merge.go:47", after := #[], guard := none }) rfl (by kernel_rfl) (by kernel_rfl) (by kernel_rfl) (by kernel_rfl) rfl (fun _ _ _ h => h) (Or.inl ⟨by rfl, ?_⟩) ⟨hk0n, hkan⟩ ?_
    rotate_left
    · intro W hSW
      go_simp
      try with_reducible rfl
    simp only [Act.put, List.setIfInBounds_toArray, List.set_cons_zero, List.set_cons_succ]
    refine wpAnyL_take' (i := 1) (v := ?_) (oi := { dst := some 43, op := Op.load 22 (Operand.tmp 42), type := 22, pos := "merge.go:47", after := #[{ on := 0, ground := Ground.data }], guard := none }) rfl (by kernel_rfl) (by kernel_rfl) (by kernel_rfl) (by kernel_rfl) rfl (fun _ _ _ h => h) (Or.inl ⟨by rfl, ?_⟩) ⟨hk0n, hkan⟩ ?_
    rotate_left
    · intro W hSW
      go_simp
      try with_reducible rfl
    simp only [Act.put, List.setIfInBounds_toArray, List.set_cons_zero, List.set_cons_succ]
    refine wpAnyL_take' (i := 2) (v := ?_) (oi := { dst := some 44, op := Op.move (Operand.tmp 6), type := 33, pos := "merge.go:47", after := #[], guard := none }) rfl (by kernel_rfl) (by kernel_rfl) (by kernel_rfl) (by kernel_rfl) rfl (fun _ _ _ h => h) (Or.inl ⟨by rfl, ?_⟩) ⟨hk0n, hkan⟩ ?_
    rotate_left
    · intro W hSW
      go_simp
      try with_reducible rfl
    simp only [Act.put, List.setIfInBounds_toArray, List.set_cons_zero, List.set_cons_succ]
    refine wpAnyL_take' (i := 3) (v := ?_) (oi := { dst := some 45, op := Op.move (Operand.tmp 9), type := 3, pos := "merge.go:47", after := #[], guard := none }) rfl (by kernel_rfl) (by kernel_rfl) (by kernel_rfl) (by kernel_rfl) rfl (fun _ _ _ h => h) (Or.inl ⟨by rfl, ?_⟩) ⟨hk0n, hkan⟩ ?_
    rotate_left
    · intro W hSW
      go_simp
      try with_reducible rfl
    simp only [Act.put, List.setIfInBounds_toArray, List.set_cons_zero, List.set_cons_succ]
    refine wpAnyL_take' (i := 4) (v := ?_) (oi := { dst := some 46, op := Op.indexAddr 33 (Operand.tmp 44) (Operand.tmp 45), type := 0, pos := "merge.go:47", after := #[{ on := 2, ground := Ground.data }, { on := 3, ground := Ground.data }], guard := none }) rfl (by kernel_rfl) (by kernel_rfl) (by kernel_rfl) (by kernel_rfl) rfl (fun _ _ _ h => h) (Or.inl ⟨by rfl, ?_⟩) ⟨hk0n, hkan⟩ ?_
    rotate_left
    · intro W hSW
      go_simp
      try with_reducible rfl
    simp only [Act.put, List.setIfInBounds_toArray, List.set_cons_zero, List.set_cons_succ]
    refine wpAnyL_take' (i := 5) (v := ?_) (oi := { dst := some 47, op := Op.load 3 (Operand.tmp 46), type := 3, pos := "merge.go:47", after := #[{ on := 4, ground := Ground.data }], guard := none }) rfl (by kernel_rfl) (by kernel_rfl) (by kernel_rfl) (by kernel_rfl) rfl (fun _ _ _ h => h) (Or.inl ⟨by rfl, ?_⟩) ⟨hk0n, hkan⟩ ?_
    rotate_left
    · intro W hSW
      go_simp
      try with_reducible rfl
    simp only [Act.put, List.setIfInBounds_toArray, List.set_cons_zero, List.set_cons_succ]
    refine wpAnyL_take' (i := 6) (v := ?_) (oi := { dst := some 48, op := Op.indexAddr 22 (Operand.tmp 43) (Operand.tmp 47), type := 0, pos := "merge.go:47", after := #[{ on := 1, ground := Ground.data }, { on := 5, ground := Ground.data }], guard := none }) rfl (by kernel_rfl) (by kernel_rfl) (by kernel_rfl) (by kernel_rfl) rfl (fun _ _ _ h => h) (Or.inl ⟨by rfl, ?_⟩) ⟨hk0n, hkan⟩ ?_
    rotate_left
    · intro W hSW
      go_simp
      try with_reducible rfl
    simp only [Act.put, List.setIfInBounds_toArray, List.set_cons_zero, List.set_cons_succ]
    refine wpAnyL_take' (i := 7) (v := ?_) (oi := { dst := some 11, op := Op.assign (Operand.tmp 48), type := 52, pos := "merge.go:47", after := #[{ on := 6, ground := Ground.data }, { on := 0, ground := Ground.phase }, { on := 1, ground := Ground.phase }, { on := 2, ground := Ground.phase }, { on := 3, ground := Ground.phase }, { on := 4, ground := Ground.phase }, { on := 5, ground := Ground.phase }, { on := 6, ground := Ground.phase }], guard := none }) rfl (by kernel_rfl) (by kernel_rfl) (by kernel_rfl) (by kernel_rfl) rfl (fun _ _ _ h => h) (Or.inl ⟨by rfl, ?_⟩) ⟨hk0n, hkan⟩ ?_
    rotate_left
    · intro W hSW
      go_simp
      try with_reducible rfl
    simp only [Act.put, List.setIfInBounds_toArray, List.set_cons_zero, List.set_cons_succ]
    refine wpAnyL_done (by kernel_rfl) ?_ _

    clear hk0n hkan
    have HBD : Hid (Below wn.heap.size wn wn.drew.drew) := below_drewN (below_drewN (Below.refl _ _) 1) 1
    have HL1 : Hid (L1.length = n) := by
      have h9 := HI1.out.len
      rw [List.length_map] at h9
      show _ = _
      rw [h9, HNS.out]
    obtain ⟨⟨⟨ys, yp, yk0⟩, yu⟩, hy⟩ : ∃ p, L1[p0]? = some p := ⟨_, List.getElem?_eq_getElem (by have := HL1.out; omega)⟩
    have HY : Hid (L1[p0]? = some (⟨ys, yp, yk0⟩, yu)) := hy
    have HOD : Hid (OwnS B L1 (.slice (some ⟨gm, 0, none⟩) n n) wn.drew.drew) := HON.out.next HBD.out
    have HPD : Hid (Kp wn.drew.drew) := HKB.out _ _ (fun _ => False) HPN.out (But.of_next HBD.out) (fun _ _ _ h => h) id (fun _ h => h.elim)
    have e0 : wn.drew.drew.cell? ⟨nb, 0, none⟩ = some (.int .i64 xs) := by rw [Lib.cell_of_heap (show wn.drew.drew.heap[nb]? = _ from hnb)]; rfl
    have e1 : wn.drew.drew.cell? ⟨nb, 1, none⟩ = some (.int .i64 xp) := by rw [Lib.cell_of_heap (show wn.drew.drew.heap[nb]? = _ from hnb)]; rfl
    have hnd : wn.drew.drew.heap[nb]? = some (Obj.cells #[.int .i64 xs, .int .i64 xp, .slice xa xk.length xc] 35) := hnb
    obtain ⟨s0, s1, f0, f1⟩ : wn.drew.drew.cell? ⟨gm, p0 * 3, none⟩ = some (.int .i64 ys) ∧ wn.drew.drew.cell? ⟨gm, p0 * 3 + 1, none⟩ = some (.int .i64 yp) ∧ wn.drew.drew.frozen? ⟨gm, p0 * 3, none⟩ = false ∧ wn.drew.drew.frozen? ⟨gm, p0 * 3 + 1, none⟩ = false := by
      obtain ⟨g', cap', e', _, _, hc⟩ := own_cells encG_len HOD.out.nodes (by have := HL1.out; omega)
      simp at e'
      obtain ⟨rfl, _⟩ := e'
      have h9 := HOD.out.nodes
      rw [HL1.out] at h9
      exact ⟨by simpa using hc p0 0 _ _ hy (by omega) rfl, hc p0 1 _ _ hy (by omega) rfl, World.ownsRow.frozenAt h9 _, World.ownsRow.frozenAt h9 _⟩
    clear hy HPN HON HBD hnb
    go_upto_region 11 with fail
    refine wp_region_L (fun W => W.cell? ⟨nb, 0, none⟩ = some (.int .i64 xs) ∧ W.cell? ⟨nb, 1, none⟩ = some (.int .i64 xp)) 12 (by kernel_rfl) 12 rfl ?_
    generalize wn.drew.drew = we at *
    refine wpAnyL_take' (i := 0) (v := ?_) (oi := { dst := some 49, op := Op.move (Operand.tmp 11), type := 52, pos := "merge.go:48", after := #[], guard := none }) rfl (by kernel_rfl) (by kernel_rfl) (by kernel_rfl) (by kernel_rfl) rfl (fun _ _ _ h => h) (Or.inl ⟨by rfl, ?_⟩) ⟨e0, e1⟩ ?_
    rotate_left
    · intro W hSW
      go_simp
      try with_reducible rfl
    simp only [Act.put, List.setIfInBounds_toArray, List.set_cons_zero, List.set_cons_succ]
    refine wpAnyL_take' (i := 1) (v := ?_) (oi := { dst := some 50, op := Op.move (Operand.tmp 11), type := 52, pos := "merge.go:48", after := #[{ on := 8, ground := Ground.gcOnly Departure.lateStores }], guard := none }) rfl (by kernel_rfl) (by kernel_rfl) (by kernel_rfl) (by kernel_rfl) rfl (fun _ _ _ h => h) (Or.inl ⟨by rfl, ?_⟩) ⟨e0, e1⟩ ?_
    rotate_left
    · intro W hSW
      go_simp
      try with_reducible rfl
    simp only [Act.put, List.setIfInBounds_toArray, List.set_cons_zero, List.set_cons_succ]
    refine wpAnyL_take' (i := 2) (v := ?_) (oi := { dst := some 51, op := Op.fieldAddr 35 (Operand.tmp 10) 0, type := 0, pos := "merge.go:48", after := #[], guard := none }) rfl (by kernel_rfl) (by kernel_rfl) (by kernel_rfl) (by kernel_rfl) rfl (fun _ _ _ h => h) (Or.inl ⟨by rfl, ?_⟩) ⟨e0, e1⟩ ?_
    rotate_left
    · intro W hSW
      go_simp
      try with_reducible rfl
    simp only [Act.put, List.setIfInBounds_toArray, List.set_cons_zero, List.set_cons_succ]
    refine wpAnyL_take' (i := 3) (v := ?_) (oi := { dst := some 52, op := Op.load 3 (Operand.tmp 51), type := 3, pos := "merge.go:48", after := #[{ on := 2, ground := Ground.data }], guard := none }) rfl (by kernel_rfl) (by kernel_rfl) (by kernel_rfl) (by kernel_rfl) rfl (fun _ _ _ h => h) (Or.inl ⟨by rfl, ?_⟩) ⟨e0, e1⟩ ?_
    rotate_left
    · intro W hSW
      go_simp
      try with_reducible rfl
    simp only [Act.put, List.setIfInBounds_toArray, List.set_cons_zero, List.set_cons_succ]
    refine wpAnyL_take' (i := 4) (v := ?_) (oi := { dst := some 53, op := Op.fieldAddr 35 (Operand.tmp 10) 1, type := 0, pos := "merge.go:48", after := #[{ on := 8, ground := Ground.gcOnly Departure.lateStores }], guard := none }) rfl (by kernel_rfl) (by kernel_rfl) (by kernel_rfl) (by kernel_rfl) rfl (fun _ _ _ h => h) (Or.inl ⟨by rfl, ?_⟩) ⟨e0, e1⟩ ?_
    rotate_left
    · intro W hSW
      go_simp
      try with_reducible rfl
    simp only [Act.put, List.setIfInBounds_toArray, List.set_cons_zero, List.set_cons_succ]
    refine wpAnyL_take' (i := 5) (v := ?_) (oi := { dst := some 54, op := Op.load 3 (Operand.tmp 53), type := 3, pos := "merge.go:48", after := #[{ on := 4, ground := Ground.data }, { on := 8, ground := Ground.gcOnly Departure.lateStores }], guard := none }) rfl (by kernel_rfl) (by kernel_rfl) (by kernel_rfl) (by kernel_rfl) rfl (fun _ _ _ h => h) (Or.inl ⟨by rfl, ?_⟩) ⟨e0, e1⟩ ?_
    rotate_left
    · intro W hSW
      go_simp
      try with_reducible rfl
    simp only [Act.put, List.setIfInBounds_toArray, List.set_cons_zero, List.set_cons_succ]
    refine wpAnyL_take' (i := 6) (v := ?_) (oi := { dst := some 55, op := Op.nilCheck (Operand.tmp 49), type := 0, pos := "merge.go:48", after := #[{ on := 0, ground := Ground.data }, { on := 0, ground := Ground.phase }, { on := 1, ground := Ground.textOnly Departure.lateStores }, { on := 2, ground := Ground.phase }, { on := 3, ground := Ground.phase }, { on := 4, ground := Ground.textOnly Departure.lateStores }, { on := 5, ground := Ground.textOnly Departure.lateStores }], guard := none }) rfl (by kernel_rfl) (by kernel_rfl) (by kernel_rfl) (by kernel_rfl) rfl (fun _ _ _ h => h) (Or.inl ⟨by rfl, ?_⟩) ⟨e0, e1⟩ ?_
    rotate_left
    · intro W hSW
      go_simp
      try with_reducible rfl
    simp only [Act.put, List.setIfInBounds_toArray, List.set_cons_zero, List.set_cons_succ]
    refine wpAnyL_take' (i := 7) (v := ?_) (oi := { dst := some 56, op := Op.fieldAddr 35 (Operand.tmp 55) 0, type := 0, pos := "merge.go:48", after := #[{ on := 6, ground := Ground.data }, { on := 0, ground := Ground.phase }, { on := 1, ground := Ground.textOnly Departure.lateStores }, { on := 2, ground := Ground.phase }, { on := 3, ground := Ground.phase }, { on := 4, ground := Ground.textOnly Departure.lateStores }, { on := 5, ground := Ground.textOnly Departure.lateStores }], guard := none }) rfl (by kernel_rfl) (by kernel_rfl) (by kernel_rfl) (by kernel_rfl) rfl (fun _ _ _ h => h) (Or.inl ⟨by rfl, ?_⟩) ⟨e0, e1⟩ ?_
    rotate_left
    · intro W hSW
      go_simp
      try with_reducible rfl
    simp only [Act.put, List.setIfInBounds_toArray, List.set_cons_zero, List.set_cons_succ]
    refine wpAnyL_one' (i := 8) (o := { dst := none, op := Op.store 3 (Operand.tmp 56) (Operand.tmp 52), type := 0, pos := "merge.go:48", after := #[{ on := 7, ground := Ground.data }, { on := 3, ground := Ground.data }, { on := 0, ground := Ground.phase }, { on := 1, ground := Ground.textOnly Departure.lateStores }, { on := 2, ground := Ground.phase }, { on := 3, ground := Ground.phase }, { on := 4, ground := Ground.textOnly Departure.lateStores }, { on := 5, ground := Ground.textOnly Departure.lateStores }], guard := none }) (by kernel_rfl) rfl rfl (fun K hK => ?_)
    go_simp
    refine hK.out _ _ (fun _ => ⟨(cell_set_other we gm (p0 * 3) nb 0 _ (by omega)).trans e0, (cell_set_other we gm (p0 * 3) nb 1 _ (by omega)).trans e1⟩) ?_
    clear hK
    have g1 : (we.setCell ⟨gm, p0 * 3, none⟩ (.int .i64 xs)).cell? ⟨gm, p0 * 3 + 1, none⟩ = some (.int .i64 yp) := (cell_set_ne we gm (p0 * 3) (p0 * 3 + 1) _ (by omega)).trans s1
    have g2 : (we.setCell ⟨gm, p0 * 3, none⟩ (.int .i64 xs)).frozen? ⟨gm, p0 * 3 + 1, none⟩ = false := (frozen_set we ⟨gm, p0 * 3, none⟩ _ ⟨gm, p0 * 3 + 1, none⟩).trans f1
    refine wpAnyL_take' (i := 9) (v := ?_) (oi := { dst := some 57, op := Op.nilCheck (Operand.tmp 50), type := 0, pos := "merge.go:48", after := #[{ on := 1, ground := Ground.data }, { on := 0, ground := Ground.phase }, { on := 1, ground := Ground.phase }, { on := 2, ground := Ground.phase }, { on := 3, ground := Ground.phase }, { on := 4, ground := Ground.phase }, { on := 5, ground := Ground.phase }, { on := 6, ground := Ground.phase }, { on := 7, ground := Ground.phase }, { on := 8, ground := Ground.phase }], guard := none }) rfl (by kernel_rfl) (by kernel_rfl) (by kernel_rfl) (by kernel_rfl) rfl (fun _ _ _ h => h) (Or.inl ⟨by rfl, ?_⟩) ⟨(cell_set_other we gm (p0 * 3) nb 0 _ (by omega)).trans e0, (cell_set_other we gm (p0 * 3) nb 1 _ (by omega)).trans e1⟩ ?_
    rotate_left
    · intro W hSW
      go_simp
      try with_reducible rfl
    simp only [Act.put, List.setIfInBounds_toArray, List.set_cons_zero, List.set_cons_succ]
    refine wpAnyL_take' (i := 10) (v := ?_) (oi := { dst := some 58, op := Op.fieldAddr 35 (Operand.tmp 57) 1, type := 0, pos := "merge.go:48", after := #[{ on := 9, ground := Ground.data }, { on := 0, ground := Ground.phase }, { on := 1, ground := Ground.phase }, { on := 2, ground := Ground.phase }, { on := 3, ground := Ground.phase }, { on := 4, ground := Ground.phase }, { on := 5, ground := Ground.phase }, { on := 6, ground := Ground.phase }, { on := 7, ground := Ground.phase }, { on := 8, ground := Ground.phase }], guard := none }) rfl (by kernel_rfl) (by kernel_rfl) (by kernel_rfl) (by kernel_rfl) rfl (fun _ _ _ h => h) (Or.inl ⟨by rfl, ?_⟩) ⟨(cell_set_other we gm (p0 * 3) nb 0 _ (by omega)).trans e0, (cell_set_other we gm (p0 * 3) nb 1 _ (by omega)).trans e1⟩ ?_
    rotate_left
    · intro W hSW
      go_simp
      try with_reducible rfl
    simp only [Act.put, List.setIfInBounds_toArray, List.set_cons_zero, List.set_cons_succ]
    refine wpAnyL_one' (i := 11) (o := { dst := none, op := Op.store 3 (Operand.tmp 58) (Operand.tmp 54), type := 0, pos := "merge.go:48", after := #[{ on := 10, ground := Ground.data }, { on := 5, ground := Ground.data }, { on := 8, ground := Ground.chain }, { on := 0, ground := Ground.phase }, { on := 1, ground := Ground.phase }, { on := 2, ground := Ground.phase }, { on := 3, ground := Ground.phase }, { on := 4, ground := Ground.phase }, { on := 5, ground := Ground.phase }, { on := 6, ground := Ground.phase }, { on := 7, ground := Ground.phase }, { on := 8, ground := Ground.phase }], guard := none }) (by kernel_rfl) rfl rfl (fun K hK => ?_)
    go_simp
    refine hK.out _ _ (fun _ => ⟨(cell_set_other _ gm (p0 * 3 + 1) nb 0 _ (by omega)).trans ((cell_set_other we gm (p0 * 3) nb 0 _ (by omega)).trans e0), (cell_set_other _ gm (p0 * 3 + 1) nb 1 _ (by omega)).trans ((cell_set_other we gm (p0 * 3) nb 1 _ (by omega)).trans e1)⟩) ?_
    clear hK
    refine wpAnyL_done (by kernel_rfl) ?_ _

    clear s0 s1 f0 f1 e0 e1 g1 g2
    have HOF : Hid (OwnS B (L1.set p0 (⟨xs, xp, yk0⟩, yu)) (.slice (some ⟨gm, 0, none⟩) n n) ((we.setCell ⟨gm, p0 * 3, none⟩ (.int .i64 xs)).setCell ⟨gm, p0 * 3 + 1, none⟩ (.int .i64 xp))) := HOD.out.setHead HY.out x64 y64
    have HBF : Hid (But (fun k => k = gm) we ((we.setCell ⟨gm, p0 * 3, none⟩ (.int .i64 xs)).setCell ⟨gm, p0 * 3 + 1, none⟩ (.int .i64 xp))) := But.setCell (But.setCell (But.refl (fun j => j = gm) we) _ _ (.inr rfl)) _ _ (.inr rfl)
    generalize (we.setCell ⟨gm, p0 * 3, none⟩ (.int .i64 xs)).setCell ⟨gm, p0 * 3 + 1, none⟩ (.int .i64 xp) = wf at *
    have HIF : Hid (InvM S (fun s => V s ∨ ∃ x ∈ g.take (i + 1), spG x = s) (fun s t => (E s t ∨ EdN g i s t) ∨ EdK g ⟨xs, xp, xk⟩ 0 s t) ((L1.set p0 (⟨xs, xp, yk0⟩, yu)).map Prod.fst)) := by
      have h9 := HI1.out.setSp HUP.out (p := p0) (x := ⟨ys, yp, yk0⟩) (by rw [List.getElem?_map, HY.out]; rfl) HPS.out
      rw [List.map_set]
      refine h9.congr (fun s hs => ?_) (fun s t => ⟨.inl, fun h => h.elim id (fun ⟨_, j, hj, _⟩ => by simp at hj)⟩)
      rw [HTK.out] at hs
      rcases hs with hs | ⟨x, hx, e⟩
      · exact .inl (.inl hs)
      · rcases List.mem_append.1 hx with hx | hx
        · exact .inl (.inr ⟨x, hx, e⟩)
        · simp at hx; subst hx; exact .inr e.symm
    have HKF : Hid (∀ p ∈ L1.set p0 (⟨xs, xp, yk0⟩, yu), p.1.links.length ≤ Kb + i * 400 + 0) := fun p hp => by
      rcases List.mem_or_eq_of_mem_set hp with hp | rfl
      · have := HK1.out p hp; omega
      · have := HK1.out _ (List.mem_of_getElem? HY.out); simp at this ⊢; omega
    have HAF : Hid (∀ p ∈ L1.set p0 (⟨xs, xp, yk0⟩, yu), ∀ k, p.2.ownBlock = some k → k ≠ ab) := fun p hp => by
      rcases List.mem_or_eq_of_mem_set hp with hp | rfl
      · exact HA1.out p hp
      · exact HA1.out (⟨ys, yp, yk0⟩, yu) (List.mem_of_getElem? HY.out)
    have HPF : Hid (Kp wf) := HKB.out _ _ _ HPD.out HBF.out (fun k cs hk e => by obtain ⟨cs', e'⟩ := own_blk HOD.out.nodes (show (Value.slice (some ⟨gm, 0, none⟩) n n).ownBlock = some k by rw [e]; rfl) hk; simp at e') (by have := HGM.out.2.1; have := HAB.out; omega) (fun k hk => by have := HGM.out.1; omega)
    have hnf : wf.heap[nb]? = some (Obj.cells #[.int .i64 xs, .int .i64 xp, .slice xa xk.length xc] 35) := but_blk HBF.out hnd (by omega)
    have HNF : Hid (wf.heap[nb]? = some (Obj.cells #[.int .i64 xs, .int .i64 xp, .slice xa xk.length xc] 35)) := hnf
    have n2 : wf.cell? ⟨nb, 2, none⟩ = some (.slice xa xk.length xc) := by rw [Lib.cell_of_heap hnf]; rfl
    clear HOD HBF HI1 HK1 HA1 HPD HP1 HO1 hnd hnf HL1 HY
    generalize L1.set p0 (⟨xs, xp, yk0⟩, yu) = LF at *
    go_wp2_with fail
    clear n2
    go_loopw [62] (fun iv wq => ∃ (k : Nat) (L' : List GnV), iv = .int .i64 k ∧ k ≤ xk.length ∧ Hid (OwnS B L' (.slice (some ⟨gm, 0, none⟩) n n) wq) ∧ Hid (InvM S (fun s => V s ∨ ∃ x ∈ g.take (i + 1), spG x = s) (fun s t => (E s t ∨ EdN g i s t) ∨ EdK g ⟨xs, xp, xk⟩ k s t) (L'.map Prod.fst)) ∧ Hid (∀ p ∈ L', p.1.links.length ≤ Kb + i * 400 + k) ∧ Hid (∀ p ∈ L', ∀ k, p.2.ownBlock = some k → k ≠ ab) ∧ Hid (Kp wq)) (fun i _ => xk.length - (intOf i).toNat)
    case atStart => exact ⟨0, LF, rfl, Nat.zero_le _, HOF, HIF, HKF, HAF, HPF⟩
    case round =>
    clear HOF HIF HKF HAF HPF HNF
    obtain ⟨k, L2, rfl, hk2, HO2, HI2, HK2, HA2, HP2⟩ := hrel
    by_cases hlt2 : k < xk.length
    case neg =>
      obtain rfl : k = xk.length := by omega
      have HE : Hid (OwnS B L2 (.slice (some ⟨gm, 0, none⟩) n n) wr ∧ InvM S (fun s => V s ∨ ∃ x ∈ g.take (i + 1), spG x = s) (fun s t => E s t ∨ EdN g (i + 1) s t) (L2.map Prod.fst) ∧ (∀ p ∈ L2, p.1.links.length ≤ Kb + (i + 1) * 400) ∧ (∀ p ∈ L2, ∀ k, p.2.ownBlock = some k → k ≠ ab) ∧ Kp wr) := by
        refine ⟨HO2.out, HI2.out.congr (fun s h => h) (fun s t => ?_), fun p hp => ?_, HA2.out, HP2.out⟩
        · rw [EdN.succ HTK.out, or_assoc]
        · have := HK2.out p hp; omega
      clear HO2 HI2 HK2 HA2 HP2 HGJ HKB HKX HKP HXL
      go_wp2_with fail
      obtain ⟨z1, z2, z3, z4, z5⟩ := HE.out
      exact ⟨⟨i + 1, L2, by go_num, by omega, z1, z2, z3, z4, z5⟩, by simp [intOf]; omega⟩
    obtain ⟨_, k1, kB, kS2, kA⟩ := HKX.out wr HP2.out
    obtain ⟨_, _, e0, hrx, _⟩ := HXL.out wr kB
    cases e0
    obtain ⟨b3, o3, rfl, hb3, q3⟩ := hrx.at (Below.refl _ _) hlt2
    unfold encI at q3
    have HLT : Hid (xk.take (k + 1) = xk.take k ++ [xk[k]]) := List.take_succ_eq_append_getElem hlt2
    have hlk := HFX.out _ (List.getElem_mem hlt2)
    generalize xk[k] = jj at *
    obtain ⟨jn, rfl⟩ : ∃ jn : Nat, jj = jn := ⟨jj.toNat, by omega⟩
    have hjn : jn < g.length := by omega
    have HGY : Hid (g[jn]? = some g[jn]) := List.getElem?_eq_getElem hjn
    obtain ⟨q, hq⟩ : ∃ q, q = posS S (spG g[jn]) := ⟨_, rfl⟩
    have ka := kA jn _ HGY.out
    rw [← hq] at ka
    have HQS : Hid (S[q]? = some (spG g[jn])) := by rw [hq]; exact posS_mem (HSB.out _ (List.getElem_mem hjn))
    have hq2 : q < 2000 := by have := (List.getElem?_eq_some_iff.1 HQS.out).1; omega
    clear hq kA hlk hrx
    generalize g[jn] = y at *
    have HCH := has_any (some ⟨b2, o2, none⟩) g gc jn wr
    have hhas : hasB g jn = true := by unfold hasB; simp; omega
    rw [hhas] at HCH
    clear hhas
    go_wp2_with fail
    refine HCH.mono ?_
    rintro e wh ⟨rfl, rfl⟩
    clear HCH q3
    have hBH : Below wr.heap.size wr (wr.alloc (Obj.cells #[.slice (some ⟨b2, o2, none⟩) g.length gc] 24)) := below_box _ _ _
    have HOH : Hid (OwnS B L2 (.slice (some ⟨gm, 0, none⟩) n n) (wr.alloc (Obj.cells #[.slice (some ⟨b2, o2, none⟩) g.length gc] 24))) := HO2.out.next hBH
    have HPH : Hid (Kp (wr.alloc (Obj.cells #[.slice (some ⟨b2, o2, none⟩) g.length gc] 24))) := HKB.out _ _ (fun _ => False) HP2.out (But.of_next hBH) (fun _ _ _ h => h) id (fun _ h => h.elim)
    have kah : (wr.alloc (Obj.cells #[.slice (some ⟨b2, o2, none⟩) g.length gc] 24)).cell? ⟨ab, jn, none⟩ = some (.int .i64 q) := cell_new ka
    generalize wr.alloc (Obj.cells #[.slice (some ⟨b2, o2, none⟩) g.length gc] 24) = wh at *
    have HL2 : Hid (L2.length = n) := by
      have h9 := HI2.out.len
      rw [List.length_map] at h9
      show _ = _
      rw [h9, HNS.out]
    obtain ⟨⟨⟨zs, zp, yk⟩, uu⟩, hz⟩ : ∃ p, L2[p0]? = some p := ⟨_, List.getElem?_eq_getElem (by have := HL2.out; omega)⟩
    have HZ : Hid (L2[p0]? = some (⟨zs, zp, yk⟩, uu)) := hz
    have HUU : Hid (OwnI B yk uu wh) := HOH.out.links _ (List.mem_of_getElem? hz)
    have hyk : yk.length ≤ 700000 := by
      have h9 := HK2.out _ (List.mem_of_getElem? hz)
      simp at h9
      have : i * 400 ≤ 400 * 400 := Nat.mul_le_mul_right _ (by omega)
      omega
    obtain ⟨ua, uc, rfl⟩ := slice_of_own HUU.out.own
    have kgh : wh.cell? ⟨gm, p0 * 3 + 2, none⟩ = some (.slice ua yk.length uc) := by
      obtain ⟨g', cap', e', _, _, hc⟩ := own_cells encG_len HOH.out.nodes (by have := HL2.out; omega)
      simp at e'
      obtain ⟨rfl, _⟩ := e'
      exact hc p0 2 _ _ hz (by omega) rfl
    have kgf : ∀ W W' : World, OwnS B L2 (.slice (some ⟨gm, 0, none⟩) n n) W → W.frozen? ⟨gm, p0 * 3 + 2, none⟩ = false := fun W _ h9 => by
      have h9 := h9.nodes
      rw [HL2.out] at h9
      exact World.ownsRow.frozenAt h9 _
    have HS3 : ∀ W2 : World, Below wh.heap.size wh W2 → W2.cell? ⟨gm, p0 * 3 + 2, none⟩ = some (.slice ua yk.length uc) ∧ W2.cell? ⟨ab, jn, none⟩ = some (.int .i64 q) := fun W2 h2 => ⟨(h2.cell (p := ⟨gm, p0 * 3 + 2, none⟩) (cell_lt kgh)).trans kgh, (h2.cell (p := ⟨ab, jn, none⟩) (cell_lt kah)).trans kah⟩
    have hBw : B ≤ wh.heap.size := Nat.le_trans hB (HKX.out wh HPH.out).2.2.1.size
    clear hz ka hBH HO2 HP2 k1 kB kS2
    obtain ⟨ii, hii, hz0, hz1, hz2⟩ := info_parts info3
    have BK : Below wh.heap.size wh (wh.drew.alloc (Obj.cells #[.int .i64 q] 3)) := (below_drewN (Below.refl _ _) 1).alloc (Nat.le_refl _) _
    obtain ⟨nv, wm, hap, ho4, hg4, _, hat4⟩ := run_append_own_at (P := Try.prog) (wh.drew.alloc (Obj.cells #[.int .i64 q] 3)) B 33 33 3 ii _ 1 8 Try.underlying33 hii hz0 hz1 hz2 rfl (by omega) (.slice ua yk.length uc) yk.length (yk.map encI) (ownsRow_below4 HUU.out.own BK) ⟨wh.heap.size, 0, none⟩ 1 1 [.int .i64 q] rfl (new_cell wh.drew _ _) (by simp [Value.oneCell']) (by unfold maxLen; omega) (by omega) (by have := BK.size; omega)
    obtain ⟨na, nc, rfl⟩ := slice_of_own ho4
    have B4 : But (fun j => (Value.slice ua yk.length uc).ownBlock = some j) wh wm := (But.of_next BK).trans ⟨hg4.os, hg4.tape, hg4.output, hg4.size, fun j hj hd => hg4.block j hj (fun e => hd e.symm)⟩
    have ngm : ¬ (Value.slice ua yk.length uc).ownBlock = some gm := fun e => own_types HOH.out.nodes HUU.out.own (by decide) gm rfl e
    have nab : ¬ (Value.slice ua yk.length uc).ownBlock = some ab := fun e => HA2.out _ (List.mem_of_getElem? HZ.out) ab e rfl
    have HS4 : wm.cell? ⟨gm, p0 * 3 + 2, none⟩ = some (.slice ua yk.length uc) ∧ wm.cell? ⟨ab, jn, none⟩ = some (.int .i64 q) := ⟨(B4.cell (p := ⟨gm, p0 * 3 + 2, none⟩) (cell_lt kgh) ngm).trans kgh, (B4.cell (p := ⟨ab, jn, none⟩) (cell_lt kah) nab).trans kah⟩
    have fz4 : wm.frozen? ⟨gm, p0 * 3 + 2, none⟩ = false := (B4.frozen (p := ⟨gm, p0 * 3 + 2, none⟩) (cell_lt kgh) ngm).trans (kgf wh wh HOH.out)
    have HE : Hid (OwnS B (L2.set p0 (⟨zs, zp, yk ++ [(q : Int)]⟩, .slice na (yk.length + 1) nc)) (.slice (some ⟨gm, 0, none⟩) n n) (wm.setCell ⟨gm, p0 * 3 + 2, none⟩ (.slice na (yk.length + 1) nc)) ∧ InvM S (fun s => V s ∨ ∃ x ∈ g.take (i + 1), spG x = s) (fun s t => (E s t ∨ EdN g i s t) ∨ EdK g ⟨xs, xp, xk⟩ (k + 1) s t) ((L2.set p0 (⟨zs, zp, yk ++ [(q : Int)]⟩, .slice na (yk.length + 1) nc)).map Prod.fst) ∧ (∀ p ∈ L2.set p0 (⟨zs, zp, yk ++ [(q : Int)]⟩, .slice na (yk.length + 1) nc), p.1.links.length ≤ Kb + i * 400 + (k + 1)) ∧ (∀ p ∈ L2.set p0 (⟨zs, zp, yk ++ [(q : Int)]⟩, .slice na (yk.length + 1) nc), ∀ k, p.2.ownBlock = some k → k ≠ ab) ∧ Kp (wm.setCell ⟨gm, p0 * 3 + 2, none⟩ (.slice na (yk.length + 1) nc))) := by
      have hmz := List.mem_of_getElem? HZ.out
      have hoz := HOH.out.ok _ hmz
      have habh : ab < wh.heap.size := cell_lt kah
      refine ⟨?_, ?_, fun p hp => ?_, fun p hp => ?_, ?_⟩
      · refine HOH.out.setRow HZ.out B4 (by unfold OwnI; simpa [encI] using ho4) ?_ (fun y hy => ?_) (by simp; omega)
        · rcases hat4 with h | h
          · exact .inl h
          · exact .inr ⟨_, h, by have := BK.size; omega⟩
        · rcases List.mem_append.1 hy with hy | hy
          · exact hoz.2.2.1 y hy
          · simp at hy; subst hy; unfold i64B; omega
      · have h9 := HI2.out.addLink HUP.out (p := p0) (q := q) (x := ⟨zs, zp, yk⟩) (by rw [List.getElem?_map, HZ.out]; rfl) HPS.out HQS.out
        rw [List.map_set]
        refine h9.congr (fun s h => h) (fun s t => ?_)
        rw [EdK.succ HLT.out (by simpa using HGY.out), or_assoc]
      · rcases List.mem_or_eq_of_mem_set hp with hp | rfl
        · have := HK2.out p hp; omega
        · have := HK2.out _ hmz; simp at this ⊢; omega
      · rcases List.mem_or_eq_of_mem_set hp with hp | rfl
        · exact HA2.out p hp
        · intro j hj e
          subst e
          simp only at hj
          rcases hat4 with h | h
          · rw [h] at hj; exact nab hj
          · rw [h] at hj
            have h8 : wh.heap.size ≤ (wh.drew.alloc (Obj.cells #[.int .i64 q] 3)).heap.size := BK.size
            have := Option.some.inj hj
            omega
      · refine HKB.out _ _ (fun j => (Value.slice ua yk.length uc).ownBlock = some j ∨ j = gm) HPH.out ((B4.mono (fun _ _ h => .inl h)).setCell _ _ (.inr (.inr rfl))) ?_ ?_ ?_
        · rintro k' cs hk' (h | h)
          · obtain ⟨cs', e⟩ := own_blk HUU.out.own h hk'; simp at e
          · obtain ⟨cs', e'⟩ := own_blk HOH.out.nodes (show (Value.slice (some ⟨gm, 0, none⟩) n n).ownBlock = some k' by rw [h]; rfl) hk'; simp at e'
        · rintro (h | h)
          · exact nab h
          · have := HGM.out.2.1; have := HAB.out; omega
        · rintro j (h | h)
          · exact (World.ownsRow.lt HUU.out.own j h).1
          · have := HGM.out.1; omega
    clear ho4 hg4 hat4 B4 ngm nab HOH HPH HI2 HK2 HA2 HZ HUU HLT HGY HQS hii hz0 hz1 hz2 kgf HL2 kgh kah
    go_upto_region 16 with fail
    refine wp_region_L (fun W => W.cell? ⟨gm, p0 * 3 + 2, none⟩ = some (.slice ua yk.length uc) ∧ W.cell? ⟨ab, jn, none⟩ = some (.int .i64 q)) 13 (by kernel_rfl) 14 rfl ?_
    refine wpAnyL_take' (i := 0) (v := ?_) (oi := { dst := some 69, op := Op.move (Operand.tmp 11), type := 52, pos := "merge.go:51", after := #[], guard := none }) rfl (by kernel_rfl) (by kernel_rfl) (by kernel_rfl) (by kernel_rfl) rfl (fun _ _ _ h => h) (Or.inl ⟨by rfl, ?_⟩) (HS3 _ (below_drewN (Below.refl _ _) 1)) ?_
    rotate_left
    · intro W hSW
      go_simp
      try with_reducible rfl
    simp only [Act.put, List.setIfInBounds_toArray, List.set_cons_zero, List.set_cons_succ]
    refine wpAnyL_take' (i := 1) (v := ?_) (oi := { dst := some 70, op := Op.move (Operand.tmp 11), type := 52, pos := "merge.go:51", after := #[], guard := none }) rfl (by kernel_rfl) (by kernel_rfl) (by kernel_rfl) (by kernel_rfl) rfl (fun _ _ _ h => h) (Or.inl ⟨by rfl, ?_⟩) (HS3 _ (below_drewN (Below.refl _ _) 1)) ?_
    rotate_left
    · intro W hSW
      go_simp
      try with_reducible rfl
    simp only [Act.put, List.setIfInBounds_toArray, List.set_cons_zero, List.set_cons_succ]
    refine wpAnyL_take' (i := 2) (v := ?_) (oi := { dst := some 71, op := Op.nilCheck (Operand.tmp 70), type := 0, pos := "merge.go:51", after := #[{ on := 1, ground := Ground.data }], guard := none }) rfl (by kernel_rfl) (by kernel_rfl) (by kernel_rfl) (by kernel_rfl) rfl (fun _ _ _ h => h) (Or.inl ⟨by rfl, ?_⟩) (HS3 _ (below_drewN (Below.refl _ _) 1)) ?_
    rotate_left
    · intro W hSW
      go_simp
      try with_reducible rfl
    simp only [Act.put, List.setIfInBounds_toArray, List.set_cons_zero, List.set_cons_succ]
    refine wpAnyL_take' (i := 3) (v := ?_) (oi := { dst := some 72, op := Op.fieldAddr 35 (Operand.tmp 71) 2, type := 0, pos := "merge.go:51", after := #[{ on := 2, ground := Ground.data }], guard := none }) rfl (by kernel_rfl) (by kernel_rfl) (by kernel_rfl) (by kernel_rfl) rfl (fun _ _ _ h => h) (Or.inl ⟨by rfl, ?_⟩) (HS3 _ (below_drewN (Below.refl _ _) 1)) ?_
    rotate_left
    · intro W hSW
      go_simp
      try with_reducible rfl
    simp only [Act.put, List.setIfInBounds_toArray, List.set_cons_zero, List.set_cons_succ]
    refine wpAnyL_take' (i := 4) (v := ?_) (oi := { dst := some 73, op := Op.load 33 (Operand.tmp 72), type := 33, pos := "merge.go:51", after := #[{ on := 3, ground := Ground.data }], guard := none }) rfl (by kernel_rfl) (by kernel_rfl) (by kernel_rfl) (by kernel_rfl) rfl (fun _ _ _ h => h) (Or.inl ⟨by rfl, ?_⟩) (HS3 _ (below_drewN (Below.refl _ _) 1)) ?_
    rotate_left
    · intro W hSW
      go_simp
      try with_reducible rfl
    simp only [Act.put, List.setIfInBounds_toArray, List.set_cons_zero, List.set_cons_succ]
    refine wpAnyL_take' (i := 5) (v := ?_) (oi := { dst := some 74, op := Op.move (Operand.tmp 6), type := 33, pos := "merge.go:51", after := #[], guard := none }) rfl (by kernel_rfl) (by kernel_rfl) (by kernel_rfl) (by kernel_rfl) rfl (fun _ _ _ h => h) (Or.inl ⟨by rfl, ?_⟩) (HS3 _ (below_drewN (Below.refl _ _) 1)) ?_
    rotate_left
    · intro W hSW
      go_simp
      try with_reducible rfl
    simp only [Act.put, List.setIfInBounds_toArray, List.set_cons_zero, List.set_cons_succ]
    refine wpAnyL_take' (i := 6) (v := ?_) (oi := { dst := some 75, op := Op.move (Operand.tmp 13), type := 3, pos := "merge.go:51", after := #[], guard := none }) rfl (by kernel_rfl) (by kernel_rfl) (by kernel_rfl) (by kernel_rfl) rfl (fun _ _ _ h => h) (Or.inl ⟨by rfl, ?_⟩) (HS3 _ (below_drewN (Below.refl _ _) 1)) ?_
    rotate_left
    · intro W hSW
      go_simp
      try with_reducible rfl
    simp only [Act.put, List.setIfInBounds_toArray, List.set_cons_zero, List.set_cons_succ]
    refine wpAnyL_take' (i := 7) (v := ?_) (oi := { dst := some 76, op := Op.indexAddr 33 (Operand.tmp 74) (Operand.tmp 75), type := 0, pos := "merge.go:51", after := #[{ on := 5, ground := Ground.data }, { on := 6, ground := Ground.data }], guard := none }) rfl (by kernel_rfl) (by kernel_rfl) (by kernel_rfl) (by kernel_rfl) rfl (fun _ _ _ h => h) (Or.inl ⟨by rfl, ?_⟩) (HS3 _ (below_drewN (Below.refl _ _) 1)) ?_
    rotate_left
    · intro W hSW
      go_simp
      try with_reducible rfl
    simp only [Act.put, List.setIfInBounds_toArray, List.set_cons_zero, List.set_cons_succ]
    refine wpAnyL_take' (i := 8) (v := ?_) (oi := { dst := some 77, op := Op.load 3 (Operand.tmp 76), type := 3, pos := "merge.go:51", after := #[{ on := 7, ground := Ground.data }], guard := none }) rfl (by kernel_rfl) (by kernel_rfl) (by kernel_rfl) (by kernel_rfl) rfl (fun _ _ _ h => h) (Or.inl ⟨by rfl, ?_⟩) (HS3 _ (below_drewN (Below.refl _ _) 1)) ?_
    rotate_left
    · intro W hSW
      go_simp
      try with_reducible rfl
    simp only [Act.put, List.setIfInBounds_toArray, List.set_cons_zero, List.set_cons_succ]
    refine wpAnyL_one' (i := 9) (o := { dst := some 78, op := Op.buildSlice 33 1 #[(0, Operand.tmp 77)], type := 33, pos := "merge.go:51", after := #[{ on := 8, ground := Ground.data }], guard := none }) (by kernel_rfl) rfl rfl (fun K hK => ?_)
    go_simp
    refine hK.out _ _ (fun _ => HS3 _ BK) ?_
    clear hK
    try simp only [Act.put, List.setIfInBounds_toArray, List.set_cons_zero, List.set_cons_succ]
    refine wpAnyL_one' (i := 10) (o := { dst := some 79, op := Op.call { callee := Callee.builtin Builtin.append, args := #[Operand.tmp 73, Operand.tmp 78], argTypes := #[33, 33] }, type := 33, pos := "merge.go:51", after := #[{ on := 4, ground := Ground.data }, { on := 9, ground := Ground.data }], guard := none }) (by kernel_rfl) rfl rfl (fun K hK => ?_)
    refine step_append_runI rfl _ _ 33 33 rfl _ _ rfl rfl hap ?_
    refine hK.out _ _ (fun _ => HS4) ?_
    clear hK
    simp only [Act.put, List.setIfInBounds_toArray, List.set_cons_zero, List.set_cons_succ]
    refine wpAnyL_one' (i := 11) (o := { dst := some 80, op := Op.nilCheck (Operand.tmp 69), type := 0, pos := "merge.go:51", after := #[{ on := 0, ground := Ground.data }, { on := 0, ground := Ground.phase }, { on := 1, ground := Ground.phase }, { on := 2, ground := Ground.phase }, { on := 3, ground := Ground.phase }, { on := 4, ground := Ground.phase }, { on := 5, ground := Ground.phase }, { on := 6, ground := Ground.phase }, { on := 7, ground := Ground.phase }, { on := 8, ground := Ground.phase }, { on := 9, ground := Ground.phase }, { on := 10, ground := Ground.phase }], guard := none }) (by kernel_rfl) rfl rfl (fun K hK => ?_)
    go_simp
    refine hK.out _ _ (fun _ => HS4) ?_
    clear hK
    try simp only [Act.put, List.setIfInBounds_toArray, List.set_cons_zero, List.set_cons_succ]
    refine wpAnyL_take' (i := 12) (v := ?_) (oi := { dst := some 81, op := Op.fieldAddr 35 (Operand.tmp 80) 2, type := 0, pos := "merge.go:51", after := #[{ on := 11, ground := Ground.data }, { on := 0, ground := Ground.phase }, { on := 1, ground := Ground.phase }, { on := 2, ground := Ground.phase }, { on := 3, ground := Ground.phase }, { on := 4, ground := Ground.phase }, { on := 5, ground := Ground.phase }, { on := 6, ground := Ground.phase }, { on := 7, ground := Ground.phase }, { on := 8, ground := Ground.phase }, { on := 9, ground := Ground.phase }, { on := 10, ground := Ground.phase }], guard := none }) rfl (by kernel_rfl) (by kernel_rfl) (by kernel_rfl) (by kernel_rfl) rfl (fun _ _ _ h => h) (Or.inl ⟨by rfl, ?_⟩) HS4 ?_
    rotate_left
    · intro W hSW
      go_simp
      try with_reducible rfl
    simp only [Act.put, List.setIfInBounds_toArray, List.set_cons_zero, List.set_cons_succ]
    refine wpAnyL_one' (i := 13) (o := { dst := none, op := Op.store 33 (Operand.tmp 81) (Operand.tmp 79), type := 0, pos := "merge.go:51", after := #[{ on := 12, ground := Ground.data }, { on := 10, ground := Ground.data }, { on := 10, ground := Ground.chain }, { on := 0, ground := Ground.phase }, { on := 1, ground := Ground.phase }, { on := 2, ground := Ground.phase }, { on := 3, ground := Ground.phase }, { on := 4, ground := Ground.phase }, { on := 5, ground := Ground.phase }, { on := 6, ground := Ground.phase }, { on := 7, ground := Ground.phase }, { on := 8, ground := Ground.phase }, { on := 9, ground := Ground.phase }, { on := 10, ground := Ground.phase }], guard := none }) (by kernel_rfl) rfl rfl (fun K hK => ?_)
    go_simp
    refine hK.out _ _ (fun h => absurd h (by decide)) ?_
    clear hK
    refine wpAnyL_done (by kernel_rfl) ?_ _

    clear HS3 HS4 fz4 hap BK
    go_wp2_with fail
    obtain ⟨z1, z2, z3, z4, z5⟩ := HE.out
    exact ⟨⟨k + 1, _, by go_num, by omega, z1, z2, z3, z4, z5⟩, by simp [intOf]; omega⟩
  obtain ⟨_, _, e0, hal, _⟩ := HG.out wr tBB
  cases e0
  obtain ⟨b2, o2, u, rfl, hb2, q0, q1, q2, hsx, x64, y64, _⟩ := hal.at (Below.refl _ _) hlt
  have HGI : Hid (g[i]? = some g[i]) := List.getElem?_eq_getElem hlt
  generalize g[i] = x at *
  obtain ⟨xs, xp, xk⟩ := x
  simp only at *
  obtain ⟨xa, xc, rfl⟩ : ∃ xa xc, u = .slice xa xk.length xc := hsx.imp fun _ h => h.imp fun _ h => h.1
  have HSP := spotOf_any xs xp (.slice xa xk.length xc) (wr.alloc (Obj.cells #[.int .i64 xs, .int .i64 xp, .slice xa xk.length xc] 35))
  have HBN : Hid (Below wr.heap.size wr (wr.alloc (Obj.cells #[.int .i64 xs, .int .i64 xp, .slice xa xk.length xc] 35))) := (Below.refl _ _).alloc (Nat.le_refl _) _
  clear hal hsx x64 y64
  go_wp2_with fail
  refine HSP.mono ?_
  rintro e w8 ⟨rfl, b8, _⟩
  have HB8 : Hid (Below wr.heap.size wr w8) := below_then HBN.out b8 HBN.out.size
  have hr := (HM.out w8 (below_then tBB HB8.out (Nat.le_trans hB tB.size))).look (s := (xp, xs)) (HSB.out _ (List.mem_of_getElem? HGI.out))
  unfold spV at hr
  simp only at hr
  have o8 := ownsRow_below4 HOA.out HB8.out
  have hAl := HAL.out
  have f8 : w8.frozen? ⟨ab, i, none⟩ = false := World.ownsRow.frozenAt (g := ab) (by simpa [hAl] using o8) _
  obtain ⟨cu, c8⟩ : ∃ cu, w8.cell? ⟨ab, i, none⟩ = some cu := by
    have := World.ownsRow.cellAt (g := ab) (by simpa [hAl] using o8) i (by omega)
    rw [List.getElem?_eq_getElem (by simp; omega)] at this
    exact ⟨_, this⟩
  have HE : Hid (∃ A', A'.length = g.length ∧ OwnI (w.heap.size + 2) A' (.slice (some ⟨ab, 0, none⟩) g.length g.length) (w8.setCell ⟨ab, i, none⟩ (.int .i64 (posS S (xp, xs) : Nat))) ∧ (∀ (k : Nat) (x : Gn), k < i + 1 → g[k]? = some x → A'[k]? = some (posS S (spG x) : Int)) ∧ But (fun k => k = ab) w2 (w8.setCell ⟨ab, i, none⟩ (.int .i64 (posS S (xp, xs) : Nat)))) := by
    refine ⟨A.set i (posS S (xp, xs) : Nat), by simpa using hAl, ?_, fun k x hk hx => ?_, (HBR.out.trans (But.of_next HB8.out)).setCell _ _ (.inr rfl)⟩
    · have h9 := (World.ownsRow.stored (g := ab) (by simpa [hAl] using o8) i (.int .i64 (posS S (xp, xs) : Nat))).1
      unfold OwnI
      simpa [hAl, List.map_set, encI] using h9
    · by_cases e : k = i
      · subst e
        rw [HGI.out] at hx; cases hx
        rw [List.getElem?_set_self (by omega)]; rfl
      · rw [List.getElem?_set_ne (Ne.symm e)]
        exact HAA.out k x (by omega) hx
  clear HSP b8 HB8 o8 hAl HOA HAA HBR HAL HBN HGI q0 q1 q2
  go_wp2_with fail
  obtain ⟨A', hE1, hE2, hE3, hE4⟩ := HE.out
  exact ⟨⟨i + 1, A', by go_num, by omega, hE1, hE2, hE3, hE4⟩, by simp [intOf]; omega⟩
end Go.Proofs.Ytjpbfckdiojghaa
