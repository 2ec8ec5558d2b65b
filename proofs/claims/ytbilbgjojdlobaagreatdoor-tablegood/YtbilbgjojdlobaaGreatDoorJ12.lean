/- kernels: the iterator. -/
import Derived.Test.YtbilbgjojdlobaaGreatDoorJ01
import Derived.Test.YtbilbgjojdlobaaGreatDoorJ02
import Derived.Test.YtbilbgjojdlobaaGreatDoorJ03
import Derived.Test.YtbilbgjojdlobaaGreatDoorJ04
import Derived.Test.YtbilbgjojdlobaaGreatDoorJ07
import Derived.Test.YtbilbgjojdlobaaGreatDoorJ09
import Derived.Test.YtbilbgjojdlobaaGreatDoorJ10
import Derived.Test.YtbilbgjojdlobaaGreatDoorJ11
import Derived.OwnWalkIn
import Derived.OrdersIn
import Derived.RangeFuncCalls
import Derived.TacticsInMore
namespace Go.Proofs.YtbilbgjojdlobaaGreatDoor
open Go.RowKit Go.Shelf
attribute [local go_sem] Oper.semAt_some

set_option maxHeartbeats 400000 in
theorem kernels_any (V : Nat) (la : Option Addr) (m lc : Nat) (w : World) :
    Calls Tryz.prog 96 #[.pointer (some ⟨V, 0, none⟩), .slice la m lc] w fun e w' => e = .returned (.func (.func 131) #[] #[.pointer (some ⟨w.heap.size, 0, none⟩), .pointer (some ⟨w.heap.size + 1, 0, none⟩)]) ∧ ∃ ty ty', w' = (w.alloc (Obj.cells #[.pointer (some ⟨V, 0, none⟩)] ty)).alloc (Obj.cells #[.slice la m lc] ty') := by
  go_enter Tryz.func96, Tryz.ntmps96
  go_wp2_with fail
  go_ret
  exact ⟨rfl, _, _, rfl⟩

def OkK (KL : List (List Ir)) (Bk : Nat) (A : Nat → Prop) (pre : List (List Ir × Value)) (x : List Ir × Value) (W : World) : Prop :=
  (pre.map (·.1) ++ [x.1]) <+: KL ∧ SlL x.1 x.2 W ∧ x.1 ≠ [] ∧ (∀ ad n c, x.2 = .slice (some ad) n c → A ad.block ∧ Bk ≤ ad.block) ∧ ∃ ua uc, x.2 = .slice ua x.1.length uc
theorem filter_take {Rs : List (List Ir)} {j : Nat} {K : List Ir} (h : Rs[j]? = some K) : (Rs.take (j + 1)).filter (fun K => !K.isEmpty) = (Rs.take j).filter (fun K => !K.isEmpty) ++ (if K = [] then [] else [K]) := by
  rw [List.take_add_one, h, List.filter_append]
  congr 1
  by_cases e : K = []
  · rw [if_pos e, e]; rfl
  · rw [if_neg e]
    show List.filter _ [K] = [K]
    simp [e]
theorem take_prefix (Rs : List (List Ir)) (p : List Ir → Bool) (j : Nat) : (Rs.take j).filter p <+: Rs.filter p := by
  have h := List.take_append_drop j Rs
  refine ⟨(Rs.drop j).filter p, ?_⟩
  rw [← List.filter_append, h]

set_option maxRecDepth 100000 in
set_option maxHeartbeats 4000000 in
theorem kern1_gives (n : Nat) (hn : 1 ≤ n) (f : Fl) (a : FlA) (Le : List Bool) (R : List (List Int)) (V : Nat) (l : List Ir) (la : Option Addr) (lc K1 K2 : Nat) (A0 : Nat → Prop) (wv W : World) (hv : VwAt f a V Le R wv) (hf : FlAt f a wv) (hB : Below wv.heap.size wv W) (hp : FitP f)
    (hk1 : W.cell? ⟨K1, 0, none⟩ = some (.pointer (some ⟨V, 0, none⟩))) (hk2 : W.cell? ⟨K2, 0, none⟩ = some (.slice la l.length lc)) (hl : SlL l (.slice la l.length lc) W) (hll : l.length ≤ maxI) (Bk : Nat) (hBk : Bk ≤ W.heap.size) :
    GivesW n Tryz.prog 131 #[.pointer (some ⟨K1, 0, none⟩), .pointer (some ⟨K2, 0, none⟩)] (fun x : List Ir × Value => #[x.2]) (fun W W' => W' = W) (fun xs => xs.map (·.1) = kernsL f l) (OkK (kernsL f l) Bk) A0 (fun _ => True) W := by
  intro lp J St hF hPre
  show CallsIn Fence.wide n Tryz.prog 131 #[.func (.yield lp) #[] #[], .pointer (some ⟨K1, 0, none⟩), .pointer (some ⟨K2, 0, none⟩)] W _
  have HF : Hid (FeedsW (n - 1) Tryz.prog lp (fun x : List Ir × Value => #[x.2]) (OkK (kernsL f l) Bk) (fun _ => True) J St) := hF
  have HJ0 : Hid (J A0 [] W) := hPre W rfl
  have HFP : Hid (FitP f) := hp
  have hn6 : f.n ≤ 600 := hp.size
  have hnp : 0 < f.n := by have := hp.nons; unfold Fl.n; omega
  obtain ⟨i0, hi0, hz0, hz1, hz2⟩ := info_parts infoSL
  obtain ⟨j0, hj0, hy0, hy1, hy2⟩ := info_parts infoLr
  have hK1l := World.block_lt_of_cell? _ _ hk1
  unfold maxI at hll
  obtain ⟨hvb, ve, vf, vp, v3, v4, v5, v6, v7, v8⟩ := id hv
  obtain ⟨hVl, u0, u1, u2⟩ := hvb
  obtain ⟨pa', pc', rfl, _, _⟩ := v8
  rw [ofsL_len] at v5
  have HNX : Hid (∀ (x : Ir) (W' : World), Below W.heap.size W W' → Calls Tryz.prog 61 #[a.val f, valR x] W' fun e w' => e = .returned (.tuple #[.int .i64 ((nextI f x).getD 0), .bool (nextI f x).isSome]) ∧ Below W'.heap.size W' w') := fun x W' hb => next_item f a x W' (hf.next (hB.trans (hb.mono hB.size))) hn6
  obtain ⟨ta, tc, na, nc, pa, pc⟩ := a
  simp only at u0 u1 u2
  unfold FlA.val valR at HNX
  simp only at HNX
  have HVW : Hid (∀ W', Below W.heap.size W W' → W'.cell? ⟨K1, 0, none⟩ = some (.pointer (some ⟨V, 0, none⟩)) ∧ W'.cell? ⟨V, 0, none⟩ = some (.slice ta f.terms.length tc) ∧ W'.cell? ⟨V, 1, none⟩ = some (.slice na f.nons.length nc) ∧ W'.cell? ⟨V, 2, none⟩ = some (.slice pa f.prods.length pc)) := fun W' hb => by
    have hbv := hB.trans (hb.mono hB.size)
    exact ⟨(hb.cell (p := ⟨K1, 0, none⟩) hK1l).trans hk1, (hbv.cell (p := ⟨V, 0, none⟩) hVl).trans u0, (hbv.cell (p := ⟨V, 1, none⟩) hVl).trans u1, (hbv.cell (p := ⟨V, 2, none⟩) hVl).trans u2⟩
  have w5 : W.cell? ⟨V, 5, none⟩ = some (.slice pa' f.n pc') := (hB.cell (p := ⟨V, 5, none⟩) hVl).trans v5
  obtain ⟨_, _, e0, hI, _, _⟩ := hl
  cases e0
  have HI : Hid (∀ W', Below W.heap.size W W' → IrsAt l la W') := fun W' hb => hI.next hb
  have HK2 : Hid (∀ W', Below W.heap.size W W' → W'.cell? ⟨K2, 0, none⟩ = some (.slice la l.length lc)) := fun W' hb => (hb.cell (p := ⟨K2, 0, none⟩) (World.block_lt_of_cell? _ _ hk2)).trans hk2
  have HFI : Hid (∀ x ∈ l, okR x) := hI.ok
  clear hF hPre hv hf hp hI u0 u1 u2 v3 v4 v5 v6 v7 hk2
  refine callsIn_of_wp Tryz.func131 rfl trivial ?_ rfl
  simp only [Tryz.ntmps131, List.size_toArray, List.length_cons, List.length_nil, Nat.reduceAdd, Nat.reduceSub, Array.replicate_succ, Array.replicate_zero, List.push_toArray, List.append_toArray, List.nil_append, List.cons_append]
  refine wpIn_wide.2 ?_
  obtain ⟨N, hN⟩ : ∃ N, f.n = N := ⟨_, rfl⟩
  have HN : Hid (f.n = N) := hN
  rw [hN] at w5 hn6 hnp
  clear hN
  go_wp2_with (at_make; refine wpList_make_full _ rfl _ _ 59 rfl W.heap.size 64 i0 _ 1 Tryz.underlying59 hi0 hz0 hz1 _ _ _ _ N rfl rfl rfl rfl (by rw [hz2]; omega) (by unfold maxLen; omega) (Nat.le_refl _) ?_)
  intro w1 hown hg
  have hlt1 : W.heap.size < w1.heap.size := (World.ownsRow.lt hown W.heap.size rfl).2
  have hown' : w1.ownsRow W.heap.size 64 1 (.slice (some ⟨W.heap.size, 0, none⟩) N N) N (madeCells #[Value.slice none 0 0] N).toList := by simpa using hown
  have HBY : Hid (ByAt W.heap.size (rowsM f l 0) w1) := by
    rw [rowsM_zero, HN.out]; exact ByAt.made hown' hlt1
  have B1 : Below W.heap.size W w1 := (Below.refl _ _).grown hg (Nat.le_refl _) (fun k e => by cases e)
  have k2 := HK2.out _ B1
  clear hown hown' hg w5
  obtain ⟨G, hG⟩ : ∃ G, W.heap.size = G := ⟨_, rfl⟩
  have HG : Hid (W.heap.size = G) := hG
  rw [hG] at HBY hlt1
  rw [hG]
  clear hG
  go_wp2_with fail
  go_loopw [19] (fun i wr => ∃ (j : Nat), i = .int .i64 j ∧ j ≤ l.length ∧ ByAt G (rowsM f l j) wr ∧ Below W.heap.size W wr) (fun i _ => l.length - (intOf i).toNat)
  case atStart => exact ⟨0, rfl, Nat.zero_le _, HBY.out, B1⟩
  case round =>
  clear HBY B1 k2 hlt1
  obtain ⟨j, rfl, hj, hby, B1⟩ := hrel
  have HBY : Hid (∀ W', Below wr.heap.size wr W' → ByAt G (rowsM f l j) W') := fun W' hb => hby.next hb
  have HIX : Hid (∀ s, s < f.n → ∃ u, wr.cell? ⟨G, s, none⟩ = some u ∧ ∀ k, inB u k → k < wr.heap.size) := fun s hs => by
    obtain ⟨u, g1, _, _, gq, _⟩ := hby.grow (rowsM_get hs)
    exact ⟨u, g1, fun k hk => (gq.inb hk).2⟩
  have hGl := hby.1
  have hsz := B1.size
  clear hby
  by_cases hlt : j < l.length
  · obtain ⟨b, off, rfl, _, c0, c1, c2, hok⟩ := (HI.out _ B1).at (Below.refl _ _) hlt
    have HRN : Hid (nextI f l[j] = none → rowsM f l (j + 1) = rowsM f l j) := rowsM_none hlt
    have HRS : Hid (∀ s : Nat, nextI f l[j] = some (s : Int) → s < f.n → rowsM f l (j + 1) = (rowsM f l j).set s (movedL f (l.take j) (s : Int) ++ [(l[j].1, l[j].2.1 + 1, l[j].2.2)])) := fun s hs h => rowsM_some hlt h hs
    have HDT : Hid (∀ z, nextI f l[j] = some z → 0 ≤ z ∧ z < (f.n : Int) ∧ 0 ≤ l[j].2.1 ∧ l[j].2.1 ≤ 64) := fun z hz => by
      have h1 := nextI_lt HFP.out hz
      have h2 := fitI_iff.1 (nextI_fit hz)
      have h3 := rightI_le HFP.out l[j].1
      omega
    generalize l[j] = x at *
    obtain ⟨x0, x1, x2⟩ := x
    simp only at c0 c1 c2 HRS HDT
    have Bx : Below wr.heap.size wr (wr.alloc (Obj.cells #[.int .i64 x0, .int .i64 x1, .int .i64 x2] 77)) := (Below.refl _ _).alloc (Nat.le_refl _) _
    have X0 := RBox.new (x0, x1, x2) 77 wr
    have B2 : Below W.heap.size W (wr.alloc (Obj.cells #[.int .i64 x0, .int .i64 x1, .int .i64 x2] 77)) := B1.trans (Bx.mono hsz)
    go_wp2_with fail
    clear c0 c1 c2
    obtain ⟨hXl, y0, y1, y2⟩ := X0
    simp only at y0 y1 y2
    have hxf : Hid ((wr.alloc (Obj.cells #[.int .i64 x0, .int .i64 x1, .int .i64 x2] 77)).frozen? ⟨wr.heap.size, 1, none⟩ = false) := by
      show _ = false
      simp
    obtain ⟨X, hX⟩ : ∃ X, wr.heap.size = X := ⟨_, rfl⟩
    rw [hX] at hXl y0 y1 y2 hGl hsz hxf HBY HIX Bx
    rw [hX]
    clear hX
    generalize wr.alloc (Obj.cells #[.int .i64 x0, .int .i64 x1, .int .i64 x2] 77) = W1 at *
    have HSX : Hid (∀ W', Below W1.heap.size W1 W' → (W'.cell? ⟨K1, 0, none⟩ = some (.pointer (some ⟨V, 0, none⟩)) ∧ W'.cell? ⟨V, 0, none⟩ = some (.slice ta f.terms.length tc) ∧ W'.cell? ⟨V, 1, none⟩ = some (.slice na f.nons.length nc) ∧ W'.cell? ⟨V, 2, none⟩ = some (.slice pa f.prods.length pc) ∧ W'.cell? ⟨X, 0, none⟩ = some (.int .i64 x0) ∧ W'.cell? ⟨X, 1, none⟩ = some (.int .i64 x1) ∧ W'.cell? ⟨X, 2, none⟩ = some (.int .i64 x2))) := fun W' hb => by
      have h1 := HVW.out W' (B2.trans (hb.mono B2.size))
      exact ⟨h1.1, h1.2.1, h1.2.2.1, h1.2.2.2, (hb.cell (p := ⟨X, 0, none⟩) hXl).trans y0, (hb.cell (p := ⟨X, 1, none⟩) hXl).trans y1, (hb.cell (p := ⟨X, 2, none⟩) hXl).trans y2⟩
    have hN1 := HNX.out (x0, x1, x2) W1.drew B2.drew
    simp only at hN1
    have HXF := hxf
    clear hxf
    have hS0 := HSX.out _ (Below.refl _ W1).drew
    obtain ⟨nx, hnx⟩ : ∃ nx, nextI f (x0, x1, x2) = nx := ⟨_, rfl⟩
    rw [hnx] at hN1
    have HNE : Hid (nextI f (x0, x1, x2) = nx) := hnx
    obtain ⟨nz, hnz⟩ : ∃ nz, nx.getD 0 = nz := ⟨_, rfl⟩
    obtain ⟨nb, hnb⟩ : ∃ nb, nx.isSome = nb := ⟨_, rfl⟩
    have HNZ : Hid (nx.getD 0 = nz ∧ nx.isSome = nb) := ⟨hnz, hnb⟩
    rw [hnz, hnb] at hN1
    clear hnx hnz hnb y0 y1 y2
    refine wp_region_L (fun W => W.cell? ⟨K1, 0, none⟩ = some (.pointer (some ⟨V, 0, none⟩)) ∧ W.cell? ⟨V, 0, none⟩ = some (.slice ta f.terms.length tc) ∧ W.cell? ⟨V, 1, none⟩ = some (.slice na f.nons.length nc) ∧ W.cell? ⟨V, 2, none⟩ = some (.slice pa f.prods.length pc) ∧ W.cell? ⟨X, 0, none⟩ = some (.int .i64 x0) ∧ W.cell? ⟨X, 1, none⟩ = some (.int .i64 x1) ∧ W.cell? ⟨X, 2, none⟩ = some (.int .i64 x2)) 11 (by kernel_rfl) 11 rfl ?_
    refine tk (i := 0) (v := ?_) (oi := ⟨some 24, .load 111 (.tmp 1), 111, "all.go:35", #[], none⟩) hS0 ?_ ?_
    rotate_left
    · intro W hSW
      go_simp
      try with_reducible rfl
    simp only [Act.put, sA, s0, sS]
    refine tk (i := 1) (v := ?_) (oi := ⟨some 25, .nilCheck (.tmp 24), 0, "all.go:35", #[⟨0, .data⟩], none⟩) hS0 ?_ ?_
    rotate_left
    · intro W hSW
      go_simp
      try with_reducible rfl
    simp only [Act.put, sA, s0, sS]
    refine tk (i := 2) (v := ?_) (oi := ⟨some 26, .fieldAddr 152 (.tmp 25) 0, 0, "all.go:35", #[⟨1, .data⟩], none⟩) hS0 ?_ ?_
    rotate_left
    · intro W hSW
      go_simp
      try with_reducible rfl
    simp only [Act.put, sA, s0, sS]
    refine tk (i := 3) (v := ?_) (oi := ⟨some 27, .load 25 (.tmp 26), 25, "all.go:35", #[⟨2, .data⟩], none⟩) hS0 ?_ ?_
    rotate_left
    · intro W hSW
      go_simp
      try with_reducible rfl
    simp only [Act.put, sA, s0, sS]
    refine tk (i := 4) (v := ?_) (oi := ⟨some 28, .load 77 (.tmp 6), 77, "all.go:35", #[], none⟩) hS0 ?_ ?_
    rotate_left
    · intro W hSW
      go_simp
      try with_reducible rfl
    simp only [Act.put, sA, s0, sS]
    refine wpAnyL_one' (i := 5) (o := ⟨some 29, .call ⟨.value (.func 61), #[.tmp 27, .tmp 28], #[25, 77]⟩, 78, "all.go:35", #[⟨3, .data⟩, ⟨4, .data⟩], none⟩) (by kernel_rfl) rfl rfl (fun K hK => ?_)
    go_simp
    refine hN1.mono ?_
    rintro e W2 ⟨rfl, hb2⟩
    have B3 : Below W1.heap.size W1 W2 := below_then (Below.refl _ _).drew hb2 (Nat.le_refl _)
    have hS2 := HSX.out _ B3
    refine hK.out _ _ (fun _ => hS2) ?_
    clear hK
    refine tk (i := 6) (v := ?_) (oi := ⟨some 23, .move (.tmp 29), 78, "all.go:35", #[⟨5, .data⟩], none⟩) hS2 ?_ ?_
    rotate_left
    · intro W hSW
      go_simp
      try with_reducible rfl
    simp only [Act.put, sA, s0, sS]
    refine tk (i := 7) (v := ?_) (oi := ⟨some 30, .extract (.tmp 23) 0, 3, "all.go:35", #[⟨6, .data⟩], none⟩) hS2 ?_ ?_
    rotate_left
    · intro W hSW
      go_simp
      try with_reducible rfl
    simp only [Act.put, sA, s0, sS]
    refine tk (i := 8) (v := ?_) (oi := ⟨some 31, .extract (.tmp 23) 1, 4, "all.go:35", #[⟨6, .data⟩, ⟨9, .gcOnly .lateStores⟩], none⟩) hS2 ?_ ?_
    rotate_left
    · intro W hSW
      go_simp
      try with_reducible rfl
    simp only [Act.put, sA, s0, sS]
    refine wpAnyL_one' (i := 9) (o := ⟨some 7, .assign (.tmp 30), 3, "all.go:35", #[⟨7, .data⟩, ⟨5, .chain⟩, ⟨0, .phase⟩, ⟨1, .phase⟩, ⟨2, .phase⟩, ⟨3, .phase⟩, ⟨4, .phase⟩, ⟨5, .phase⟩, ⟨6, .phase⟩, ⟨7, .phase⟩, ⟨8, .textOnly .lateStores⟩], none⟩) (by kernel_rfl) rfl rfl (fun K hK => ?_)
    go_simp
    refine hK.out _ _ (fun _ => hS2) ?_
    clear hK
    refine wpAnyL_one' (i := 10) (o := ⟨some 8, .assign (.tmp 31), 4, "all.go:35", #[⟨8, .data⟩, ⟨9, .chain⟩, ⟨0, .phase⟩, ⟨1, .phase⟩, ⟨2, .phase⟩, ⟨3, .phase⟩, ⟨4, .phase⟩, ⟨5, .phase⟩, ⟨6, .phase⟩, ⟨7, .phase⟩, ⟨8, .phase⟩, ⟨9, .phase⟩], none⟩) (by kernel_rfl) rfl rfl (fun K hK => ?_)
    go_simp
    refine hK.out _ _ (fun _ => hS2) ?_
    clear hK
    refine wpAnyL_done (by kernel_rfl) ?_ _
    have BW := B2.trans (B3.mono B2.size)
    have BR : Below X wr W2 := Bx.trans (B3.mono (by omega))
    have hs2 := B3.size
    have hx0 := hS2.2.2.2.2.1
    have hx1 := hS2.2.2.2.2.2.1
    have hx2 := hS2.2.2.2.2.2.2
    have hxf2 : W2.frozen? ⟨X, 1, none⟩ = false := (World.frozen?_of_block (B3.block _ hXl)).trans HXF.out
    clear HSX hS2 hS0 hN1 hb2 B3 B2 HXF Bx
    cases nx with
    | none =>
      obtain ⟨h1, h2⟩ := HNZ.out
      simp only [Option.getD_none, Option.isSome_none] at h1 h2
      subst h1 h2
      have HNEW : Hid (ByAt G (rowsM f l (j + 1)) W2) := by rw [HRN.out HNE.out]; exact HBY.out _ BR
      clear HBY hx0 hx1 hx2 hxf2
      go_wp2_with fail
      exact ⟨⟨j + 1, by go_num, by omega, HNEW.out, BW⟩, by simp [intOf]; omega⟩
    | some z =>
      obtain ⟨h1, h2⟩ := HNZ.out
      simp only [Option.getD_some, Option.isSome_some] at h1 h2
      subst h1 h2
      obtain ⟨hz1, hz2', hd1, hd2⟩ := HDT.out _ HNE.out
      obtain ⟨s, rfl⟩ : ∃ s : Nat, z = s := ⟨z.toNat, by omega⟩
      have hsn : s < f.n := by omega
      rw [HN.out] at hz2'
      have HRS' := HRS.out s HNE.out hsn
      obtain ⟨u', hu', hux⟩ := HIX.out s hsn
      have B5 : Below X wr (W2.setCell ⟨X, 1, none⟩ (.int .i64 (x1 + 1))) := BR.setCell (Nat.le_refl _) _
      have BW5 : Below W.heap.size W (W2.setCell ⟨X, 1, none⟩ (.int .i64 (x1 + 1))) := BW.setCell (by simp only; omega) _
      obtain ⟨u, g1, g2, ⟨ua, uc, rfl⟩, gq, gg⟩ := (HBY.out _ B5).grow (rowsM_get hsn)
      obtain rfl : u' = .slice ua (movedL f (l.take j) (s : Int)).length uc := by
        have := (B5.cell (p := ⟨G, s, none⟩) hGl).symm.trans g1
        rw [hu'] at this
        exact Option.some.inj this
      have hLl : (movedL f (l.take j) (s : Int)).length ≤ 16000000 := by have := movedL_len f (l.take j) (s : Int); rw [List.length_take] at this; omega
      have z0 : (W2.setCell ⟨X, 1, none⟩ (.int .i64 (x1 + 1))).cell? ⟨X, 0, none⟩ = some (.int .i64 x0) := (World.cell?_setCell_other _ _ _ _ (fun e => by cases e)).trans hx0
      have z1 : (W2.setCell ⟨X, 1, none⟩ (.int .i64 (x1 + 1))).cell? ⟨X, 1, none⟩ = some (.int .i64 (x1 + 1)) := World.cell?_setCell_same _ _ _ hx1
      have z2 : (W2.setCell ⟨X, 1, none⟩ (.int .i64 (x1 + 1))).cell? ⟨X, 2, none⟩ = some (.int .i64 x2) := (World.cell?_setCell_other _ _ _ _ (fun e => by cases e)).trans hx2
      have HGG : Hid _ := gg
      have HQ0 : Hid _ := gq
      have HUX : Hid _ := hux
      clear gg gq hux HBY HIX hu'
      go_wp2_with fail
      clear hx0 hx1 hx2 hxf2 BR BW B5
      generalize W2.setCell ⟨X, 1, none⟩ (.int .i64 (x1 + 1)) = W5 at *
      generalize movedL f (l.take j) (s : Int) = Lr at *
      have hX5 : X < W5.heap.size := World.block_lt_of_cell? _ _ z0
      have hG5 : G < W5.heap.size := World.block_lt_of_cell? _ _ g1
      have HS7 : Hid (∀ W', But (fun k => (G < k ∧ inB (.slice ua Lr.length uc) k) ∨ W5.heap.size ≤ k) W5 W' → (W'.cell? ⟨G, s, none⟩ = some (.slice ua Lr.length uc) ∧ W'.cell? ⟨X, 0, none⟩ = some (.int .i64 x0) ∧ W'.cell? ⟨X, 1, none⟩ = some (.int .i64 (x1 + 1)) ∧ W'.cell? ⟨X, 2, none⟩ = some (.int .i64 x2))) := fun W' hb => ⟨(hb.cell (p := ⟨G, s, none⟩) hG5 (by simp only; omega)).trans g1, (hb.cell (p := ⟨X, 0, none⟩) hX5 (fun h => by rcases h with h | h; exact absurd (HUX.out _ h.2) (by simp); simp only at h; omega)).trans z0, (hb.cell (p := ⟨X, 1, none⟩) hX5 (fun h => by rcases h with h | h; exact absurd (HUX.out _ h.2) (by simp); simp only at h; omega)).trans z1, (hb.cell (p := ⟨X, 2, none⟩) hX5 (fun h => by rcases h with h | h; exact absurd (HUX.out _ h.2) (by simp); simp only at h; omega)).trans z2⟩
      have HSD := HS7.out W5.drew (But.refl _ _).drew
      have Bn : Below W5.heap.size W5 (W5.drew.alloc (Obj.cells #[.int .i64 x0, .int .i64 (x1 + 1), .int .i64 x2] 77)) := (Below.refl _ _).drew.alloc (Nat.le_refl _) _
      have HSN := HS7.out (W5.drew.alloc (Obj.cells #[.int .i64 x0, .int .i64 (x1 + 1), .int .i64 x2] 77)) (But.of_next Bn)
      have HQ : Hid (QRow (fun k => (G < k ∧ inB (.slice ua Lr.length uc) k) ∨ W5.heap.size ≤ k) 3 (.slice ua Lr.length uc) Lr.length (Lr.flatMap encR) (W5.drew.alloc (Obj.cells #[.int .i64 x0, .int .i64 (x1 + 1), .int .i64 x2] 77))) := (show QRow (fun k => (G < k ∧ inB (.slice ua Lr.length uc) k) ∨ W5.heap.size ≤ k) 3 (.slice ua Lr.length uc) Lr.length (Lr.flatMap encR) W5 from HQ0.out).next Bn
      have HD : Hid (∀ k, (W5.drew.alloc (Obj.cells #[.int .i64 x0, .int .i64 (x1 + 1), .int .i64 x2] 77)).heap.size ≤ k → (G < k ∧ inB (.slice ua Lr.length uc) k) ∨ W5.heap.size ≤ k) := fun k hk => .inr (Nat.le_trans Bn.size hk)
      refine wp_region_L (fun W => W.cell? ⟨G, s, none⟩ = some (.slice ua Lr.length uc) ∧ W.cell? ⟨X, 0, none⟩ = some (.int .i64 x0) ∧ W.cell? ⟨X, 1, none⟩ = some (.int .i64 (x1 + 1)) ∧ W.cell? ⟨X, 2, none⟩ = some (.int .i64 x2)) 10 (by kernel_rfl) 11 rfl ?_
      refine tk (i := 0) (v := ?_) (oi := ⟨some 37, .move (.tmp 4), 59, "all.go:37", #[], none⟩) HSD ?_ ?_
      rotate_left
      · intro W hSW
        go_simp
        try with_reducible rfl
      simp only [Act.put, sA, s0, sS]
      refine tk (i := 1) (v := ?_) (oi := ⟨some 38, .move (.tmp 7), 3, "all.go:37", #[], none⟩) HSD ?_ ?_
      rotate_left
      · intro W hSW
        go_simp
        try with_reducible rfl
      simp only [Act.put, sA, s0, sS]
      refine tk (i := 2) (v := ?_) (oi := ⟨some 39, .move (.tmp 4), 59, "all.go:37", #[], none⟩) HSD ?_ ?_
      rotate_left
      · intro W hSW
        go_simp
        try with_reducible rfl
      simp only [Act.put, sA, s0, sS]
      refine tk (i := 3) (v := ?_) (oi := ⟨some 40, .move (.tmp 7), 3, "all.go:37", #[], none⟩) HSD ?_ ?_
      rotate_left
      · intro W hSW
        go_simp
        try with_reducible rfl
      simp only [Act.put, sA, s0, sS]
      refine tk (i := 4) (v := ?_) (oi := ⟨some 41, .indexAddr 59 (.tmp 39) (.tmp 40), 0, "all.go:37", #[⟨2, .data⟩, ⟨3, .data⟩], none⟩) HSD ?_ ?_
      rotate_left
      · intro W hSW
        go_simp
        try with_reducible rfl
      simp only [Act.put, sA, s0, sS]
      refine tk (i := 5) (v := ?_) (oi := ⟨some 42, .load 64 (.tmp 41), 64, "all.go:37", #[⟨4, .data⟩], none⟩) HSD ?_ ?_
      rotate_left
      · intro W hSW
        go_simp
        try with_reducible rfl
      simp only [Act.put, sA, s0, sS]
      refine tk (i := 6) (v := ?_) (oi := ⟨some 43, .load 77 (.tmp 6), 77, "all.go:37", #[], none⟩) HSD ?_ ?_
      rotate_left
      · intro W hSW
        go_simp
        try with_reducible rfl
      simp only [Act.put, sA, s0, sS]
      refine wpAnyL_one' (i := 7) (o := ⟨some 44, .buildSlice 64 1 #[(0, .tmp 43)], 64, "all.go:37", #[⟨6, .data⟩], none⟩) (by kernel_rfl) rfl rfl (fun K hK => ?_)
      go_simp
      refine hK.out _ _ (fun _ => HSN) ?_
      clear hK
      refine wpAnyL_one' (i := 8) (o := ⟨some 45, .call ⟨.builtin .append, #[.tmp 42, .tmp 44], #[64, 64]⟩, 64, "all.go:37", #[⟨5, .data⟩, ⟨7, .data⟩], none⟩) (by kernel_rfl) rfl rfl (fun K hK => ?_)
      rw [if_pos (by rfl)]
      refine wp_append_q (.tmp 42) (.tmp 44) 64 rfl 77 j0 _ 3 24 Tryz.underlying64 hj0 hy0 hy1 hy2 rfl (by decide) rfl HQ.out HD.out ⟨W5.heap.size, 0, none⟩ 1 (encR (x0, x1 + 1, x2)) rfl rfl (new_cellR W5.drew (x0, x1 + 1, x2) _) (one_encR _) (by unfold maxLen; omega) (by omega) ?_
      intro v6 w6 hq6 hb6
      have hS6 := HS7.out w6 ((But.of_next Bn).trans hb6)
      obtain ⟨e1, e2, e3, e4⟩ := HGG.out (x0, x1 + 1, x2) _ v6 w6 Bn hq6 hb6
      obtain ⟨va, vb, vo, vc, rfl, _, _⟩ := id hq6
      have HR : Hid (ByAt G (rowsM f l (j + 1)) (w6.setCell ⟨G, s, none⟩ (.slice va (Lr.length + 1) vc)) ∧ Below W.heap.size W (w6.setCell ⟨G, s, none⟩ (.slice va (Lr.length + 1) vc))) := ⟨by rw [HRS']; exact e3, BW5.trans (e4.mono (by have := HG.out; omega))⟩
      refine hK.out _ _ (fun _ => hS6) ?_
      clear hK hq6 hb6 e3 e4
      simp only [Act.put, sA, s0, sS]
      refine wpAnyL_one' (i := 9) (o := ⟨some 46, .indexAddr 59 (.tmp 37) (.tmp 38), 0, "all.go:37", #[⟨0, .data⟩, ⟨1, .data⟩, ⟨0, .phase⟩, ⟨1, .phase⟩, ⟨2, .phase⟩, ⟨3, .phase⟩, ⟨4, .phase⟩, ⟨5, .phase⟩, ⟨6, .phase⟩, ⟨7, .phase⟩, ⟨8, .phase⟩], none⟩) (by kernel_rfl) rfl rfl (fun K hK => ?_)
      go_simp
      refine hK.out _ _ (fun _ => hS6) ?_
      clear hK
      refine wpAnyL_one' (i := 10) (o := ⟨none, .store 64 (.tmp 46) (.tmp 45), 0, "all.go:37", #[⟨9, .data⟩, ⟨8, .data⟩, ⟨8, .chain⟩, ⟨0, .phase⟩, ⟨1, .phase⟩, ⟨2, .phase⟩, ⟨3, .phase⟩, ⟨4, .phase⟩, ⟨5, .phase⟩, ⟨6, .phase⟩, ⟨7, .phase⟩, ⟨8, .phase⟩], none⟩) (by kernel_rfl) rfl rfl (fun K hK => ?_)
      go_simp
      refine hK.out _ _ (fun h => absurd h (by decide)) ?_
      clear hK
      refine wpAnyL_done (by kernel_rfl) ?_ _
      clear HS7 HQ HD HSD HSN HGG HQ0 HUX hS6 e1 e2 z0 z1 z2 g1 g2 Bn BW5
      go_wp2_with fail
      exact ⟨⟨j + 1, by go_num, by omega, HR.out.1, HR.out.2⟩, by simp [intOf]; omega⟩
  · obtain rfl : j = l.length := by omega
    have hOKM : ∀ (s : Nat) (K : List Ir), (rowsM f l l.length)[s]? = some K → ∀ x ∈ K, okR x := fun s K hK => by
      have hs : s < f.n := by have := (List.getElem?_eq_some_iff.1 hK).1; rw [rowsM_len] at this; exact this
      rw [rowsM_get hs] at hK
      cases hK
      exact movedL_ok HFP.out
    have HROW : Hid (∀ s, s < N → ∃ K ua uc, (rowsM f l l.length)[s]? = some K ∧ K.length ≤ 16000000 ∧ wr.cell? ⟨G, s, none⟩ = some (.slice ua K.length uc) ∧ SlL K (.slice ua K.length uc) wr ∧ ∀ ad, ua = some ad → K ≠ [] → G < ad.block ∧ ad.block < wr.heap.size) := fun s hs => by
      have hK := rowsM_get (f := f) (l := l) (j := l.length) (s := s) (by rw [HN.out]; exact hs)
      obtain ⟨ua, uc, k1, k2, k3⟩ := (HBY.out _ (Below.refl _ _)).row hK (hOKM s _ hK)
      exact ⟨_, ua, uc, hK, by have := movedL_len f (l.take l.length) (s : Int); rw [List.length_take] at this; omega, k1, k2, k3⟩
    have HRL : Hid ((rowsM f l l.length).length = N) := by show _ = _; rw [rowsM_len]; exact HN.out
    have HRA : Hid ((rowsM f l l.length).filter (fun K => !K.isEmpty) = kernsL f l) := rowsM_all f l
    have HA1 : Hid (J (fun k => A0 k ∨ (W.heap.size ≤ k ∧ k < wr.heap.size)) [] wr) := HF.out.new _ _ _ _ HJ0.out B1
    have hWG := HG.out
    clear HBY HIX HJ0 HNX HVW HK2 HI HFI
    generalize rowsM f l l.length = Rs at *
    generalize wr = wb at *
    obtain ⟨AA, hAA⟩ : ∃ AA : Nat → Prop, AA = fun k => A0 k ∨ (W.heap.size ≤ k ∧ k < wb.heap.size) := ⟨_, rfl⟩
    have HAA : Hid (∀ k, (G ≤ k ∧ k < wb.heap.size) → AA k) := fun k hk => by rw [hAA]; exact .inr (by omega)
    have HA0 : Hid (∀ k, A0 k → AA k) := fun k hk => by rw [hAA]; exact .inl hk
    rw [← hAA] at HA1
    clear hAA
    go_wp2_with fail
    refine (wpIn_wide (n := n)).1 ?_
    gi_wp2
    gi_loopw [50] (fun i w2 => ∃ (s : Nat) (pre : List (List Ir × Value)), i = .int .i64 s ∧ s ≤ N ∧ pre.map (·.1) = (Rs.take s).filter (fun K => !K.isEmpty) ∧ J AA pre w2 ∧ But (fun k => ¬ AA k) wb w2) (fun i _ => N - (intOf i).toNat)
    case atStart => exact ⟨0, [], rfl, Nat.zero_le _, rfl, HA1.out, But.refl _ _⟩
    case round =>
    obtain ⟨s, pre, rfl, hs, hpre, hJ, hbt⟩ := hrel
    have HPRE : Hid (pre.map (·.1) = (Rs.take s).filter (fun K => !K.isEmpty)) := hpre
    have HJ : Hid (J AA pre _) := hJ
    clear hpre hJ HA1
    by_cases hlt : s < N
    · obtain ⟨K, ua, uc, hK, hKl, hcell, hsl, hua⟩ := HROW.out s hlt
      have hcl2 := (hbt.cell (p := ⟨G, s, none⟩) hGl (fun h => h (HAA.out G ⟨Nat.le_refl _, hGl⟩))).trans hcell
      have HT : Hid ((Rs.take (s + 1)).filter (fun K => !K.isEmpty) = (Rs.take s).filter (fun K => !K.isEmpty) ++ (if K = [] then [] else [K])) := filter_take hK
      by_cases hne : K = []
      · subst hne
        simp only [List.length_nil] at hcl2
        have HN2 : Hid (pre.map (·.1) = (Rs.take (s + 1)).filter (fun K => !K.isEmpty)) := by
          show _ = _
          rw [HT.out, if_pos rfl, List.append_nil]; exact HPRE.out
        have HJ2 : Hid (J AA pre _ ∧ But (fun k => ¬ AA k) wb _) := And.intro HJ.out hbt
        clear hK hcell hsl hua HT hbt HJ HPRE
        gi_wp2
        refine And.intro (fun _ _ => trivial) ?_
        gi_wp2
        go_roundw
        case rel => exact ⟨s + 1, pre, by go_num, by omega, HN2.out, HJ2.out.1, HJ2.out.2⟩
        case measure => simp [intOf]; omega
      · have hpos : 0 < K.length := List.length_pos_iff.2 hne
        have hgt : decide ((K.length : Int) > 0) = true := decide_eq_true (by omega)
        have HOK : OkK (kernsL f l) Bk AA pre (K, .slice ua K.length uc) _ := ⟨by
            show pre.map (·.1) ++ [K] <+: kernsL f l
            rw [HPRE.out, ← HRA.out]
            have := take_prefix Rs (fun K => !K.isEmpty) (s + 1)
            rw [HT.out, if_neg hne] at this
            exact this, hsl.but hbt (fun ad n c e hne' => by
              cases e
              exact fun h => h (HAA.out _ (by have := hua _ rfl hne; omega))), hne, fun ad n c e => by
            cases e
            exact ⟨HAA.out _ (by have := hua _ rfl hne; omega), by have := hua _ rfl hne; omega⟩, ua, uc, rfl⟩
        obtain ⟨fn, tmps, assign, body, hy, hR⟩ := HF.out.yield AA pre (K, .slice ua K.length uc) _ HJ.out HOK
        have HN2 : Hid ((pre ++ [(K, Value.slice ua K.length uc)]).map (·.1) = (Rs.take (s + 1)).filter (fun K => !K.isEmpty)) := by
          show _ = _
          rw [HT.out, if_neg hne, List.map_append, HPRE.out]; rfl
        clear hK hcell hsl hua HT HJ HPRE HOK
        simp only at hy
        gi_wp2
        refine hR.mono ?_
        rintro e W3 (⟨rfl, hJ3, hB3⟩ | ⟨rfl, hSt⟩)
        · have HJ2 : Hid (J AA (pre ++ [(K, Value.slice ua K.length uc)]) W3 ∧ But (fun k => ¬ AA k) wb W3) := And.intro hJ3 (hbt.trans hB3)
          clear hJ3 hB3 hR hy hcl2 hbt
          gi_wp2
          go_roundw
          case rel => exact ⟨s + 1, _, by go_num, by omega, HN2.out, HJ2.out.1, HJ2.out.2⟩
          case measure => simp [intOf]; omega
        · have HST : Hid (St W3) := hSt
          clear hSt hR hy hcl2 hbt
          gi_wp2
          refine bodyPost_ret (results_none rfl _ _ _) rfl ?_
          exact ⟨⟨_, rfl⟩, .inr HST.out⟩
    · obtain rfl : s = N := by omega
      have HFI : Hid (pre.map (·.1) = kernsL f l ∧ J A0 pre _) := ⟨by
        rw [HPRE.out, ← HRA.out, List.take_of_length_le (by rw [HRL.out]; exact Nat.le_refl _)], HF.out.less _ _ _ _ HJ.out HA0.out⟩
      clear HPRE HJ hbt HROW
      gi_wp2
      go_end0
      exact ⟨⟨_, rfl⟩, .inl ⟨pre, HFI.out.1, HFI.out.2⟩⟩
end Go.Proofs.YtbilbgjojdlobaaGreatDoor
/- Rows of rows of items, and where their rows lie; keys tell kernels apart; an append within a round. -/
namespace Go.Proofs.YtbilbgjojdlobaaGreatDoor
open Go.RowKit

/-- Rows of items, their slices one's own; the rows lie in blocks of E. -/
def OwnZ (E : Nat → Prop) (R : List (List Ir)) (v : Value) (W : World) : Prop :=
  ∃ hv : List Value, hv.length = R.length ∧ QRow (fun k => inB v k) 1 v R.length hv W ∧ ∀ (i : Nat) (l : List Ir) (u : Value), R[i]? = some l → hv[i]? = some u → SlL l u W ∧ ∀ ad n c, u = .slice (some ad) n c → l ≠ [] → E ad.block
theorem OwnZ.inLt {E : Nat → Prop} {R : List (List Ir)} {v : Value} {W : World} (h : OwnZ E R v W) {k : Nat} (hk : inB v k) : k < W.heap.size := by
  obtain ⟨hv, _, hq, _⟩ := h; exact (hq.inb hk).2
theorem OwnZ.shape {E : Nat → Prop} {R : List (List Ir)} {v : Value} {W : World} (h : OwnZ E R v W) : ∃ ao cap, v = .slice ao R.length cap := by
  obtain ⟨hv, _, hq, _⟩ := h; exact hq.shape
theorem OwnZ.keep {E D : Nat → Prop} {R : List (List Ir)} {v : Value} {W W' : World} (h : OwnZ E R v W) (hb : But D W W') (hv : ∀ k, inB v k → ¬ D k) (hE : ∀ k, k < W.heap.size → D k → (∀ off u, W.cell? ⟨k, off, none⟩ ≠ some u) ∨ ¬ E k) : OwnZ E R v W' := by
  obtain ⟨hs, h0, hq, h2⟩ := h
  refine ⟨hs, h0, hq.but hb hv, fun i l u hl hu => ⟨(h2 i l u hl hu).1.but hb (fun ad n c e hne hd => ?_), (h2 i l u hl hu).2⟩⟩
  have hsl := (h2 i l u hl hu).1
  have he := (h2 i l u hl hu).2 ad n c e hne
  subst e
  rcases hE _ (hsl.lt hne) hd with h | h
  · obtain ⟨ao, cap, e0, h1, _⟩ := hsl
    cases e0
    obtain ⟨x, l', rfl⟩ := List.exists_cons_of_ne_nil hne
    obtain ⟨b, off, e, _, c0, _⟩ := h1 0 x rfl
    cases e
    exact h _ _ c0
  · exact h he
theorem OwnZ.next {E : Nat → Prop} {R : List (List Ir)} {v : Value} {W W' : World} (h : OwnZ E R v W) (hb : Below W.heap.size W W') : OwnZ E R v W' :=
  h.keep (D := fun _ => False) (But.of_next hb) (fun _ _ h => h) (fun _ _ h => h.elim)
theorem OwnZ.nil (E : Nat → Prop) (W : World) : OwnZ E [] (.slice none 0 0) W := ⟨[], rfl, QRow.nil _ _ _, fun i l u h => by simp at h⟩
theorem OwnZ.sl {E : Nat → Prop} {R : List (List Ir)} {v : Value} {W : World} (h : OwnZ E R v W) : SlLL R v W := by
  obtain ⟨hv, h0, ⟨ao, b, off, cap, rfl, hc, _⟩, h2⟩ := h
  refine ⟨ao, cap, rfl, fun i l hl => ?_, fun hn => ?_, hc.le⟩
  · have hi : i < R.length := (List.getElem?_eq_some_iff.1 hl).1
    have hcp : 0 < cap := by have := hc.le; omega
    have hu : hv[i]? = some hv[i] := by simp [h0, hi]
    exact ⟨b, off, hv[i], hc.addr hcp, hc.lt hcp, hc.olds i _ hu, (h2 i l _ hl hu).1⟩
  · rcases Nat.eq_zero_or_pos cap with h | h
    · exact h
    · rw [hn] at hc; have := hc.addr h; cases this
theorem OwnZ.one {E : Nat → Prop} {lv : Value} {l : List Ir} {W : World} {ty : TypeId} (hl : SlL l lv W) (hE : ∀ ad n c, lv = .slice (some ad) n c → l ≠ [] → E ad.block) : OwnZ E [l] (.slice (some ⟨W.heap.size, 0, none⟩) 1 1) (W.alloc (Obj.cells #[lv] ty)) := by
  have hb : Below W.heap.size W (W.alloc (Obj.cells #[lv] ty)) := (Below.refl _ _).alloc (Nat.le_refl _) _
  have h0 : (W.alloc (Obj.cells #[lv] ty)).cell? ⟨W.heap.size, 0, none⟩ = some lv := by simp
  refine ⟨[lv], rfl, ⟨_, W.heap.size, 0, 1, rfl, ⟨Nat.le_refl _, fun _ => rfl, fun _ => by simp, rfl, fun j u hj => ?_, fun j hj => by simp at hj⟩, fun _ => ⟨0, 1, 1, rfl, by omega⟩⟩, fun i l' u hl' hu => ?_⟩
  · rcases j with _ | j
    · simp at hj; subst hj; exact h0
    · simp at hj
  · rcases i with _ | i
    · simp at hl' hu; subst hl' hu
      exact ⟨hl.next hb, hE⟩
    · simp at hl'
/-- A row behind it. -/
theorem OwnZ.grow {E E' : Nat → Prop} {R : List (List Ir)} {v lv : Value} {l : List Ir} {W : World} (h : OwnZ E R v W) (hl : SlL l lv W) (hE : ∀ k, E k → E' k) (hlv : ∀ ad n c, lv = .slice (some ad) n c → l ≠ [] → E' ad.block) (hEv : ∀ k, E' k → ¬ inB v k ∧ k < W.heap.size) :
    ∃ hv, QRow (fun k => inB v k ∨ W.heap.size ≤ k) 1 v R.length hv W ∧ ∀ v' W', QRow (fun k => inB v k ∨ W.heap.size ≤ k) 1 v' (R.length + 1) (hv ++ [lv]) W' → But (fun k => inB v k ∨ W.heap.size ≤ k) W W' → OwnZ E' (R ++ [l]) v' W' ∧ ∀ k, inB v' k → inB v k ∨ W.heap.size ≤ k := by
  obtain ⟨hv, h0, hq, h2⟩ := h
  refine ⟨hv, hq.mono (fun k _ hk => .inl hk), fun v' W' hq' hb => ⟨⟨hv ++ [lv], by simp [h0], ?_, fun i l' u hl' hu => ?_⟩, fun k hk => (hq'.inb hk).1⟩⟩
  · have := hq'.exact.mono (E := fun k => inB v' k) (fun k _ hk => hk.2.1)
    simpa using this
  · have key : SlL l' u W ∧ ∀ ad n c, u = .slice (some ad) n c → l' ≠ [] → E' ad.block := by
      rcases Nat.lt_or_ge i R.length with hi | hi
      · rw [List.getElem?_append_left hi] at hl'
        rw [List.getElem?_append_left (by omega)] at hu
        exact ⟨(h2 i l' u hl' hu).1, fun ad n c e hne => hE _ ((h2 i l' u hl' hu).2 ad n c e hne)⟩
      · rw [List.getElem?_append_right hi] at hl'
        rw [List.getElem?_append_right (by omega), h0] at hu
        rcases hj : i - R.length with _ | j
        · rw [hj] at hl' hu; simp at hl' hu; subst hl' hu; exact ⟨hl, hlv⟩
        · rw [hj] at hl'; simp at hl'
    refine ⟨key.1.but hb (fun ad n c e hne hd => ?_), key.2⟩
    have := hEv _ (key.2 ad n c e hne)
    rcases hd with hd | hd
    · exact this.1 hd
    · omega
theorem OwnZ.row {E : Nat → Prop} {R : List (List Ir)} {v : Value} {W : World} (h : OwnZ E R v W) {i : Nat} {l : List Ir} (hl : R[i]? = some l) : ∃ b off cap ua uc, v = .slice (some ⟨b, off, none⟩) R.length cap ∧ W.cell? ⟨b, off + i, none⟩ = some (.slice ua l.length uc) ∧ SlL l (.slice ua l.length uc) W := by
  obtain ⟨hv, h0, ⟨ao, b, off, cap, rfl, hc, _⟩, h2⟩ := h
  have hi : i < R.length := (List.getElem?_eq_some_iff.1 hl).1
  have hcp : 0 < cap := by have := hc.le; omega
  have hu : hv[i]? = some hv[i] := by simp [h0, hi]
  have hsl := (h2 i l _ hl hu).1
  obtain ⟨ua, uc, e, _⟩ := id hsl
  have := hc.addr hcp
  subst this
  refine ⟨b, off, cap, ua, uc, rfl, ?_, ?_⟩
  · rw [← e]; exact hc.olds i _ hu
  · rw [← e]; exact hsl

theorem wpListIn_append_q {F : Fence} {m : Nat} {P : Program} {w : World} {ops : Array Oper} {rest : List Oper} {o : Oper} {a : Act} {Q : Exit → Act → World → Prop} (hgd : o.guard = none) (s x : Operand) (t : TypeId)
    (ho : o.op = .call { callee := .builtin .append, args := #[s, x], argTypes := #[t, t] }) {D : Nat → Prop} {n : Nat} {v : Value} {xs : List Value} (e : TypeId) (i : TypeInfo) (z : Value) (size bytes : Nat) (ht : P.underlying t = some (.slice e)) (hi : P.info? e = some i) (hz : i.zero = some z) (hsize : i.size = size) (hby : i.bytes = bytes) (hzs : z.cells.size = size) (hsz : 0 < size)
    (hs : a.eval s = v) (h : QRow D size v n xs w) (hD : ∀ k, w.heap.size ≤ k → D k) (ad : Addr) (c : Nat) (news : List Value) (hx : a.eval x = .slice (some ad) 1 c) (hl : news.length = size) (hnews : ∀ j u, news[j]? = some u → w.cell? (ad.add j) = some u) (h1 : ∀ u ∈ news, u.oneCell' = true)
    (h63 : n + 1 ≤ maxLen) (hbytes : (n + 1) * bytes ≤ 140737488355328)
    (hK : ∀ v' w', QRow D size v' (n + 1) (xs ++ news) w' → But D w w' → wpListIn F m P ops Q rest (a.put o.dst v') w') : wpListIn F m P ops Q (o :: rest) a w := by
  obtain ⟨v', w', hrun, k1, k2⟩ := run_append_q (P := P) (w := w) t o.type e i z size bytes ht hi hz hsize hby hzs hsz h hD ad c news hl hnews h1 h63 hbytes
  refine wpListIn_plain hgd fun K hK' => ?_
  unfold Oper.wpIn
  refine ⟨?_, ?_⟩
  · simp [Oper.about, ho, resolve, Target.leads, Sem.run_pure]
  · rw [Oper.semAt_plain F _ _ (by rw [ho]; intro c hc'; cases hc')]
    simp [execOp, ho, resolve, invoke, builtin, hs, hx, hrun, Result.andThen]
    exact hK' _ _ (hK v' w' k1 k2)

theorem u8_mod {a b : Nat} (h : UInt8.ofNat a = UInt8.ofNat b) : a % 256 = b % 256 := by
  have := congrArg UInt8.toNat h
  simpa using this
theorem keyI_inj {x y : Ir} (hx : KeyFit x) (hy : KeyFit y) (h : keyI x = keyI y) : x = y := by
  have e : ∀ z : Ir, keyI z = [UInt8.ofNat ((z.1 + 1).toNat / 256), UInt8.ofNat (z.1 + 1).toNat, UInt8.ofNat z.2.1.toNat, UInt8.ofNat (z.2.2.toNat / 256), UInt8.ofNat z.2.2.toNat] := fun _ => rfl
  rw [e, e] at h
  simp only [List.cons.injEq, and_true] at h
  obtain ⟨h1, h2, h3, h4, h5⟩ := h
  have k1 := u8_mod h1
  have k2 := u8_mod h2
  have k3 := u8_mod h3
  have k4 := u8_mod h4
  have k5 := u8_mod h5
  unfold KeyFit at hx hy
  exact ir_ext (by omega) (by omega) (by omega)
theorem keyL_inj : ∀ {K M : List Ir}, (∀ x ∈ K, KeyFit x) → (∀ x ∈ M, KeyFit x) → K.flatMap keyI = M.flatMap keyI → K = M
  | [], [], _, _, _ => rfl
  | [], y :: M, _, _, h => by
    have := congrArg List.length h
    simp [keyI_len] at this
    omega
  | x :: K, [], _, _, h => by
    have := congrArg List.length h
    simp [keyI_len] at this
  | x :: K, y :: M, hK, hM, h => by
    rw [List.flatMap_cons, List.flatMap_cons] at h
    obtain ⟨h1, h2⟩ := List.append_inj h (by rw [keyI_len, keyI_len])
    rw [keyI_inj (hK x (by simp)) (hM y (by simp)) h1, keyL_inj (fun z hz => hK z (by simp [hz])) (fun z hz => hM z (by simp [hz])) h2]
theorem keyK_inj {K M : List Ir} (hK : ∀ x ∈ K, KeyFit x) (hM : ∀ x ∈ M, KeyFit x) (h : keyK K = keyK M) : K = M := by
  unfold keyK at h
  refine keyL_inj hK hM ?_
  have h2 : (K.flatMap keyI).toArray = (M.flatMap keyI).toArray := by injection h
  simpa using h2
theorem fit_key {f : Fl} (hp : FitP f) {x : Ir} (h : fitI f x = true) : KeyFit x := by
  have h1 := fitI_iff.1 h
  have h2 := rightI_le hp x.1
  have h3 := hp.prods
  have h4 : f.terms.length + f.nons.length ≤ 600 := hp.size
  unfold KeyFit
  omega
end Go.Proofs.YtbilbgjojdlobaaGreatDoor
/- A region that draws, within a round of a loop over an iterator: by the law for a region outside. -/
namespace Go.Proofs.YtbilbgjojdlobaaGreatDoor

def noDefer (ops : Array Oper) : Bool := ops.toList.all fun o => match o.op with | .defer _ => false | _ => true
theorem noDefer_at {ops : Array Oper} (h : noDefer ops = true) {i : Nat} {o : Oper} (ho : ops[i]? = some o) : ∀ c, o.op ≠ .defer c := by
  intro c hc
  have := List.all_eq_true.1 h o (by
    have := Array.mem_of_getElem? ho
    simpa using this)
  rw [hc] at this
  cases this
theorem rowsIn_wide {l n : Nat} {P : Program} {row : String} {args : Array Value} {w : World} {R : Value → World → Prop} (h : Rows P row args w R) : RowsIn (Fence.wide.inRound l) n P row args w R :=
  fun c cs _ => let ⟨v, w', r, s⟩ := h c cs; ⟨v, w', r, stepsIn_wide.2 s⟩
theorem oper_round {l n : Nat} {P : Program} {o : Oper} {a : Act} {w : World} {K : Act → World → Prop} {Q : Exit → Act → World → Prop} (hd : ∀ c, o.op ≠ .defer c) (h : o.wp P a w K Q) : o.wpIn (Fence.wide.inRound l) n P a w K Q := by
  refine ⟨fun _ _ => trivial, ?_⟩
  have e : o.semAt (Fence.wide.inRound l).round a.eval = execOp a.eval o := Oper.semAt_some l _ _ hd
  rw [e]
  unfold Oper.wp at h
  generalize (execOp a.eval o).run P w = r at *
  cases r with
  | ok x w' =>
    cases x with
    | value v => exact h
    | skip => exact h
    | defer d => exact h
    | enter f args => exact ⟨(fun hh => by cases hh), callsIn_wide.2 h⟩
    | row row args => exact ⟨(fun hh => by cases hh), rowsIn_wide h⟩
    | _ => exact h.elim
  | halt x w' => cases x <;> exact h
theorem any_round {l n : Nat} {P : Program} {md : Region.Mode} {ops : Array Oper} {Q : Exit → Act → World → Prop} (hd : noDefer ops = true) (hL : ¬ LetsOut Q) :
    ∀ (fuel : Nat) (listed : Array Bool) (a : Act) (w : World), wpAny P md ops Q fuel listed a w → wpAnyIn (Fence.wide.inRound l) n P md ops Q fuel listed a w
  | 0, _, _, _, h => h
  | fuel + 1, listed, a, w, h => by
    refine ⟨h.1, fun i hi => ?_⟩
    have h2 := h.2 i hi
    unfold wpOp at h2
    unfold wpOpIn
    cases ho : ops[i]? with
    | none =>
      rw [ho] at h2
      exact any_round hd hL fuel _ _ _ h2
    | some o =>
      rw [ho] at h2
      simp only at h2 ⊢
      split
      · rename_i hw
        rw [if_pos hw] at h2
        rcases h2 with h2 | h2
        · exact Oper.wpIn_mono (fun a w h => any_round hd hL fuel _ a w h) (oper_round (noDefer_at hd ho) h2)
        · exact absurd h2.2 hL
      · rename_i hw
        rw [if_neg hw] at h2
        exact ⟨fun _ _ => trivial, any_round hd hL fuel _ _ _ h2⟩
theorem wpIn_region_L {l k : Nat} {P : Program} {ops : Array Oper} {Q : Exit → Act → World → Prop} {id : Nat} {a : Act} {w : World} (S : World → Prop) (n : Nat) (hm : P.follows .mixedOrders = true)
    (N : Nat) (hN : ops.size = N) (hd : noDefer ops = true) (hL : ¬ LetsOut Q) (h : wpAnyL P .any ops Q S n N (lst N 0) a w.drew) : (Code.region id ops true).wpIn (Fence.wide.inRound l) k P Q a w := by
  refine wpIn_region_any hm (any_round hd hL _ _ _ _ (wpAny_of_L (S := S) (n := n) _ _ _ _ ?_))
  have e : lst N 0 = Array.replicate ops.size false := by rw [hN]; simp [lst]
  rw [← e, hN]
  exact h
end Go.Proofs.YtbilbgjojdlobaaGreatDoor
/- all: the kernels of a set are met: the range. -/
namespace Go.Proofs.YtbilbgjojdlobaaGreatDoor
open Go.RowKit Go.Shelf
attribute [local go_sem] Oper.semAt_some

/-- What all holds: sets that wait, keys that were met, the boxes. -/
structure AW (f : Fl) (Mm P2 P3 P5 P6 : Nat) (E : Nat → Prop) (T Tm : List (List Ir)) (wv : Value) (W : World) : Prop where
  met : Met f T
  nodup : T.Nodup
  len : T.length + 1 ≤ 600
  wo : OwnZ E (begL f :: T) wv W
  mp : MapSet 9 valK Mm Tm W
  c5 : W.cell? ⟨P5, 0, none⟩ = some (.map (some Mm))
  c6 : W.cell? ⟨P6, 0, none⟩ = some wv
  f6 : W.frozen? ⟨P6, 0, none⟩ = false
  c2 : W.cell? ⟨P2, 0, none⟩ = some (.slice none 0 0)
  f2 : W.frozen? ⟨P2, 0, none⟩ = false
  c3 : W.cell? ⟨P3, 0, none⟩ = some (.int .i64 0)
  f3 : W.frozen? ⟨P3, 0, none⟩ = false
  w2 : ¬ inB wv P2
  w3 : ¬ inB wv P3
  w5 : ¬ inB wv P5
  w6 : ¬ inB wv P6
  wm : ¬ inB wv Mm
/-- Blocks of Z are left when kernels are met. -/
def SepA (Mm P2 P3 P6 : Nat) (Z : Nat → Prop) (wv : Value) (W : World) : Prop := ∀ k, Z k → k < W.heap.size ∧ ¬ inB wv k ∧ k ≠ P2 ∧ k ≠ P3 ∧ k ≠ P6 ∧ k ≠ Mm
theorem AW.keep {f : Fl} {Mm P2 P3 P5 P6 : Nat} {E D : Nat → Prop} {T Tm : List (List Ir)} {wv : Value} {W W' : World} (h : AW f Mm P2 P3 P5 P6 E T Tm wv W) (hb : But D W W') (h2 : ¬ D P2) (h3 : ¬ D P3) (h5 : ¬ D P5) (h6 : ¬ D P6) (hm : ¬ D Mm) (hv : ∀ k, inB wv k → ¬ D k) (hE : ∀ k, k < W.heap.size → D k → (∀ off u, W.cell? ⟨k, off, none⟩ ≠ some u) ∨ ¬ E k) : AW f Mm P2 P3 P5 P6 E T Tm wv W' := by
  have c : ∀ {p : Nat} {v : Value}, ¬ D p → W.cell? ⟨p, 0, none⟩ = some v → W'.cell? ⟨p, 0, none⟩ = some v := fun {p v} hp hc => (hb.cell (p := ⟨p, 0, none⟩) (World.block_lt_of_cell? _ _ hc) hp).trans hc
  have z : ∀ {p : Nat} {v : Value}, ¬ D p → W.cell? ⟨p, 0, none⟩ = some v → W.frozen? ⟨p, 0, none⟩ = false → W'.frozen? ⟨p, 0, none⟩ = false := fun {p v} hp hc hf => (hb.frozen (p := ⟨p, 0, none⟩) (World.block_lt_of_cell? _ _ hc) hp).trans hf
  exact ⟨h.met, h.nodup, h.len, h.wo.keep hb hv hE, h.mp.but hb hm, c h5 h.c5, c h6 h.c6, z h6 h.c6 h.f6, c h2 h.c2, z h2 h.c2 h.f2, c h3 h.c3, z h3 h.c3 h.f3, h.w2, h.w3, h.w5, h.w6, h.wm⟩
theorem AW.next {f : Fl} {Mm P2 P3 P5 P6 : Nat} {E : Nat → Prop} {T Tm : List (List Ir)} {wv : Value} {W W' : World} (h : AW f Mm P2 P3 P5 P6 E T Tm wv W) (hb : Below W.heap.size W W') : AW f Mm P2 P3 P5 P6 E T Tm wv W' :=
  h.keep (D := fun _ => False) (But.of_next hb) id id id id id (fun _ _ h => h) (fun _ _ h => h.elim)
theorem AW.newmap {f : Fl} {Mm P2 P3 P5 P6 : Nat} {E : Nat → Prop} {T Tm T2 : List (List Ir)} {wv : Value} {W W' : World} (h : AW f Mm P2 P3 P5 P6 E T Tm wv W) (hb : But (fun k => k = Mm) W W') (hm : MapSet 9 valK Mm T2 W') (o : P2 < P3 ∧ P3 < Mm ∧ Mm < P5 ∧ P5 < P6) : AW f Mm P2 P3 P5 P6 E T T2 wv W' := by
  have c : ∀ {p : Nat} {v : Value}, p ≠ Mm → W.cell? ⟨p, 0, none⟩ = some v → W'.cell? ⟨p, 0, none⟩ = some v := fun {p v} hp hc => (hb.cell (p := ⟨p, 0, none⟩) (World.block_lt_of_cell? _ _ hc) hp).trans hc
  have z : ∀ {p : Nat} {v : Value}, p ≠ Mm → W.cell? ⟨p, 0, none⟩ = some v → W.frozen? ⟨p, 0, none⟩ = false → W'.frozen? ⟨p, 0, none⟩ = false := fun {p v} hp hc hf => (hb.frozen (p := ⟨p, 0, none⟩) (World.block_lt_of_cell? _ _ hc) hp).trans hf
  exact ⟨h.met, h.nodup, h.len, h.wo.keep hb (fun k hk e => h.wm (e ▸ hk)) (fun k _ e => .inl (by subst e; exact h.mp.notCells)), hm, c (by omega) h.c5, c (by omega) h.c6, z (by omega) h.c6 h.f6, c (by omega) h.c2, z (by omega) h.c2 h.f2, c (by omega) h.c3, z (by omega) h.c3 h.f3, h.w2, h.w3, h.w5, h.w6, h.wm⟩
/-- What is told, marks and old blocks: what is left when kernels are met. -/
structure LV (Bz : Nat) (w : World) (Ds : List Nat) (Et : Nat → Prop) (Tl : List (List Ir)) (tv : Value) (W : World) : Prop where
  tl : OwnZ Et Tl tv W
  mks : Mk Bz Ds W
  bw : Below Bz w W
def ZL (Bz P5 : Nat) (Ds : List Nat) (Et : Nat → Prop) (tv : Value) (k : Nat) : Prop := k < Bz ∨ k = P5 ∨ k ∈ Ds ∨ Et k ∨ inB tv k
theorem LV.keep {Bz P5 : Nat} {w : World} {Ds : List Nat} {Et D : Nat → Prop} {Tl : List (List Ir)} {tv : Value} {W W' : World} (h : LV Bz w Ds Et Tl tv W) (hs : Bz ≤ W.heap.size) (hb : But D W W') (hz : ∀ k, ZL Bz P5 Ds Et tv k → ¬ D k) : LV Bz w Ds Et Tl tv W' :=
  ⟨h.tl.keep hb (fun k hk => hz k (.inr (.inr (.inr (.inr hk))))) (fun k _ hd => .inr fun he => hz k (.inr (.inr (.inr (.inl he)))) hd), ⟨h.mks.1, fun d hd => ⟨(h.mks.2 d hd).1, hb.same (h.mks.2 d hd).2 (hz d (.inr (.inr (.inl hd))))⟩⟩, h.bw.trans (hb.below hs (fun k hk => Nat.le_of_not_lt fun hl => hz k (.inl hl) hk))⟩
/-- While kernels are met. -/
def RA (f : Fl) (w : World) (Bz Mm P2 P3 P5 P6 : Nat) (Ds : List Nat) (Et : Nat → Prop) (Tl : List (List Ir)) (tv : Value) (T0 : List (List Ir)) (E0 : Nat → Prop) (Bk : Nat) (A : Nat → Prop) (pre : List (List Ir × Value)) (W : World) : Prop :=
  ∃ T wv E, (rowK (pre.map (·.1)) T0 = some T ∧ ∀ k, E k → E0 k ∨ Bk ≤ k) ∧ AW f Mm P2 P3 P5 P6 E T T wv W ∧ SepA Mm P2 P3 P6 (fun k => A k ∨ ZL Bz P5 Ds Et tv k ∨ E k) wv W ∧ LV Bz w Ds Et Tl tv W
def RX (f : Fl) (w : World) (l : List Ir) (Bz P2 P3 : Nat) (Ds : List Nat) (T0 : List (List Ir)) (W : World) : Prop :=
  rowK (kernsL f l) T0 = none ∧ W.cell? ⟨P2, 0, none⟩ = some (.slice none 0 0) ∧ W.cell? ⟨P3, 0, none⟩ = some (.int .i64 15) ∧ Mk Bz Ds W ∧ Below Bz w W
theorem no_cell {W : World} {k : Nat} (h : ∃ r, W.heap[k]? = some (.loop r)) : ∀ off u, W.cell? ⟨k, off, none⟩ ≠ some u := by
  obtain ⟨r, h⟩ := h
  intro off u e
  simp [World.cell?, h] at e
theorem But.nots {A : Nat → Prop} {s : Nat} {a b : World} (h : But (fun k => ¬ (A k ∨ k = s ∨ k = s + 1)) a b) : But (fun k => ¬ A k ∧ ¬ k = s ∧ ¬ k = s + 1) a b := h.mono (fun _ _ h => ⟨fun h' => h (.inl h'), fun h' => h (.inr (.inl h')), fun h' => h (.inr (.inr h'))⟩)
theorem rowK_one (K : List Ir) (T : List (List Ir)) : rowK [K] T = if K ∈ T then some T else if T.length + 1 = 600 then none else some (T ++ [K]) := by
  rw [rowK]
  split
  · rfl
  · split <;> rfl
theorem bind_none_prefix {KL Ks : List (List Ir)} {T : List (List Ir)} (hp : Ks <+: KL) (h : rowK Ks T = none) : rowK KL T = none := by
  obtain ⟨r, rfl⟩ := hp
  rw [rowK_append, h]; rfl

set_option maxRecDepth 100000 in
set_option maxHeartbeats 4000000 in
theorem all_range (n : Nat) (hn : 5 ≤ n) (f : Fl) (a : FlA) (Le : List Bool) (R : List (List Int)) (V : Nat) (l : List Ir) (la : Option Addr) (lc K1 K2 : Nat) (wv0 : World) (Bz Mm P2 P3 P5 P6 : Nat) (Ds : List Nat) (Et E0 : Nat → Prop) (Tl T0 : List (List Ir)) (tv wv : Value) (w W : World)
    {t0 t1 t4 t7 t8 t9 t10 t11 t12 t13 t14 t15 t16 t17 t18 t19 t20 t21 t22 t23 t24 t25 t26 t27 t28 t29 t30 t31 t32 t33 t34 t36 t37 t38 t39 t40 t41 t42 t43 t44 t45 t46 t47 t48 t49 : Value} {Q : Exit → Act → World → Prop}
    (hv : VwAt f a V Le R wv0) (hf : FlAt f a wv0) (hB : Below wv0.heap.size wv0 W) (hp : FitP f) (hk1 : W.cell? ⟨K1, 0, none⟩ = some (.pointer (some ⟨V, 0, none⟩))) (hk2 : W.cell? ⟨K2, 0, none⟩ = some (.slice la l.length lc)) (hl : SlL l (.slice la l.length lc) W) (hr : RisingI l) (hll : l.length ≤ maxI)
    (hord : P2 < P3 ∧ P3 < Mm ∧ Mm < P5 ∧ P5 < P6) (h : AW f Mm P2 P3 P5 P6 E0 T0 T0 wv W) (hz : SepA Mm P2 P3 P6 (fun k => ZL Bz P5 Ds Et tv k ∨ E0 k) wv W) (hL : LV Bz w Ds Et Tl tv W) (hBz : Bz ≤ P2)
    (hQ : ∀ (T : List (List Ir)) (wv' : Value) (E : Nat → Prop) (W' : World), rowK (kernsL f l) T0 = some T → (∀ k, E k → E0 k ∨ W.heap.size ≤ k) → W.heap.size ≤ W'.heap.size → AW f Mm P2 P3 P5 P6 E T T wv' W' → SepA Mm P2 P3 P6 (fun k => ZL Bz P5 (W.heap.size :: Ds) Et tv k ∨ E k) wv' W' → LV Bz w (W.heap.size :: Ds) Et Tl tv W' → Q .normal { tmps := #[t0, t1, .pointer (some ⟨P2, 0, none⟩), .pointer (some ⟨P3, 0, none⟩), t4, .pointer (some ⟨P5, 0, none⟩), .pointer (some ⟨P6, 0, none⟩), t7, t8, t9, t10, t11, t12, t13, t14, t15, t16, t17, t18, t19, t20, t21, t22, t23, t24, t25, t26, t27, t28, t29, t30, t31, t32, t33, t34, .func (.func 131) #[] #[.pointer (some ⟨K1, 0, none⟩), .pointer (some ⟨K2, 0, none⟩)], t36, t37, t38, t39, t40, t41, t42, t43, t44, t45, t46, t47, t48, t49], defers := mark W.heap.size :: Ds.map mark } W')
    (hX : ∀ W', RX f w l Bz P2 P3 (W.heap.size :: Ds) T0 W' → Q .ret { tmps := #[t0, t1, .pointer (some ⟨P2, 0, none⟩), .pointer (some ⟨P3, 0, none⟩), t4, .pointer (some ⟨P5, 0, none⟩), .pointer (some ⟨P6, 0, none⟩), t7, t8, t9, t10, t11, t12, t13, t14, t15, t16, t17, t18, t19, t20, t21, t22, t23, t24, t25, t26, t27, t28, t29, t30, t31, t32, t33, t34, .func (.func 131) #[] #[.pointer (some ⟨K1, 0, none⟩), .pointer (some ⟨K2, 0, none⟩)], t36, t37, t38, t39, t40, t41, t42, t43, t44, t45, t46, t47, t48, t49], defers := mark W.heap.size :: Ds.map mark } W') :
    (Code.rangeFunc (Operand.tmp 35) #[36] (Code.region 10 #[⟨some 9, .assign (.tmp 36), 64, "all.go:17", #[], none⟩] false) (Code.block 3 (((Code.region 11 #[⟨some 37, .load 154 (.tmp 5), 154, "all.go:18", #[], none⟩, ⟨some 38, .move (.tmp 9), 64, "all.go:18", #[], none⟩, ⟨some 39, .call ⟨.value (.func 98), #[.tmp 38], #[64]⟩, 9, "all.go:18", #[⟨1, .data⟩], none⟩, ⟨some 40, .call ⟨.value (.func 97), #[.tmp 37, .tmp 39], #[154, 9]⟩, 4, "all.go:18", #[⟨0, .data⟩, ⟨2, .data⟩, ⟨2, .chain⟩], none⟩, ⟨some 41, .unOp .not 4 (.tmp 40), 4, "all.go:18", #[⟨3, .data⟩], none⟩] true).seq (Code.cond (Operand.tmp 41) (Code.exit 3) Code.skip)).seq (((Code.region 12 #[⟨some 42, .load 59 (.tmp 6), 59, "all.go:21", #[], none⟩, ⟨some 43, .call ⟨.builtin .len, #[.tmp 42], #[59]⟩, 3, "all.go:21", #[⟨0, .data⟩], none⟩, ⟨some 44, .binOp .eql 3 (.tmp 43) (.const (.int .i64 600)) 3, 4, "all.go:21", #[⟨1, .data⟩], none⟩] false).seq (Code.cond (Operand.tmp 44) ((Code.region 13 #[⟨none, .store 59 (.tmp 2) (.const (.slice none 0 0)), 0, "all.go:22", #[], none⟩, ⟨none, .store 31 (.tmp 3) (.const (.int .i64 15)), 0, "all.go:22", #[⟨0, .chain⟩, ⟨0, .phase⟩], none⟩] false).seq Code.ret) Code.skip)).seq (Code.region 14 #[⟨some 45, .load 59 (.tmp 6), 59, "all.go:24", #[], none⟩, ⟨some 46, .move (.tmp 9), 64, "all.go:24", #[], none⟩, ⟨some 47, .buildSlice 59 1 #[(0, .tmp 46)], 59, "all.go:24", #[⟨1, .data⟩], none⟩, ⟨some 48, .call ⟨.builtin .append, #[.tmp 45, .tmp 47], #[59, 59]⟩, 59, "all.go:24", #[⟨0, .data⟩, ⟨2, .data⟩], none⟩, ⟨none, .store 59 (.tmp 6) (.tmp 48), 0, "all.go:24", #[⟨3, .data⟩, ⟨3, .chain⟩, ⟨0, .phase⟩, ⟨1, .phase⟩, ⟨2, .phase⟩, ⟨3, .phase⟩], none⟩] false))))).wpIn Fence.wide n Tryz.prog Q { tmps := #[t0, t1, .pointer (some ⟨P2, 0, none⟩), .pointer (some ⟨P3, 0, none⟩), t4, .pointer (some ⟨P5, 0, none⟩), .pointer (some ⟨P6, 0, none⟩), t7, t8, t9, t10, t11, t12, t13, t14, t15, t16, t17, t18, t19, t20, t21, t22, t23, t24, t25, t26, t27, t28, t29, t30, t31, t32, t33, t34, .func (.func 131) #[] #[.pointer (some ⟨K1, 0, none⟩), .pointer (some ⟨K2, 0, none⟩)], t36, t37, t38, t39, t40, t41, t42, t43, t44, t45, t46, t47, t48, t49], defers := Ds.map mark } W := by
  obtain ⟨o1, o2, o3, o4⟩ := hord
  have hP6 : P6 < W.heap.size := World.block_lt_of_cell? _ _ h.c6
  have hDl := hL.mks.lt
  have htl : ∀ k, inB tv k → k < W.heap.size := fun k hk => hL.tl.inLt hk
  have hn6 : f.n ≤ 600 := hp.size
  refine wpIn_range_W (α := List Ir × Value) (by omega) (gf := 131) (lb := #[.pointer (some ⟨K1, 0, none⟩), .pointer (some ⟨K2, 0, none⟩)]) rfl (enters_of Tryz.func131 (by kernel_rfl) rfl)
    (A0 := fun _ => False) (fun _ => rfl)
    (fun W' hb => kern1_gives (n - 1) (by omega) f a Le R V l la lc K1 K2 _ wv0 W' hv hf (hB.trans (hb.mono hB.size)) hp ((hb.cell (p := ⟨K1, 0, none⟩) (World.block_lt_of_cell? _ _ hk1)).trans hk1) ((hb.cell (p := ⟨K2, 0, none⟩) (World.block_lt_of_cell? _ _ hk2)).trans hk2) (hl.next hb) hll W.heap.size hb.size)
    (RA f w Bz Mm P2 P3 P5 P6 Ds Et Tl tv T0 E0 W.heap.size) ⟨?_, ?_, ?_⟩ (fun _ _ _ _ => trivial) ?_ ?_ ?_ (fun x a' => a' = { tmps := #[t0, t1, .pointer (some ⟨P2, 0, none⟩), .pointer (some ⟨P3, 0, none⟩), t4, .pointer (some ⟨P5, 0, none⟩), .pointer (some ⟨P6, 0, none⟩), t7, t8, x.2, t10, t11, t12, t13, t14, t15, t16, t17, t18, t19, t20, t21, t22, t23, t24, t25, t26, t27, t28, t29, t30, t31, t32, t33, t34, .func (.func 131) #[] #[.pointer (some ⟨K1, 0, none⟩), .pointer (some ⟨K2, 0, none⟩)], x.2, t37, t38, t39, t40, t41, t42, t43, t44, t45, t46, t47, t48, t49], defers := [] }) (RX f w l Bz P2 P3 Ds T0) ?_ ?_ ?_ ?_
  · rintro A pre W1 W2 ⟨T, v, E, g1, g2, g3, g4⟩ hb
    have hp2 : P2 < W1.heap.size := World.block_lt_of_cell? _ _ g2.c2
    have hp6 : P6 < W1.heap.size := World.block_lt_of_cell? _ _ g2.c6
    refine ⟨T, v, E, g1, g2.next hb, fun k hk => ?_, g4.keep (P5 := P5) (by omega) (D := fun _ => False) (But.of_next hb) (fun _ _ h => h)⟩
    rcases hk with (hk | hk) | hk
    · exact ⟨Nat.lt_of_lt_of_le (g3 k (.inl hk)).1 hb.size, (g3 k (.inl hk)).2⟩
    · exact ⟨hk.2, fun h' => by have := g2.wo.inLt h'; omega, by omega, by omega, by omega, by omega⟩
    · exact ⟨Nat.lt_of_lt_of_le (g3 k (.inr hk)).1 hb.size, (g3 k (.inr hk)).2⟩
  · rintro A pre W1 k ⟨T, v, E, g1, g2, g3, g4⟩ hk
    exact (g3 k (.inl hk)).1
  · rintro A A' pre W1 ⟨T, v, E, g1, g2, g3, g4⟩ hk
    exact ⟨T, v, E, g1, g2, fun k h => g3 k (h.imp (hk k) id), g4⟩
  · rintro A pre W1 W2 ⟨T, v, E, g1, g2, g3, g4⟩ hb hA hlp
    have hp2 : P2 < W1.heap.size := World.block_lt_of_cell? _ _ g2.c2
    refine ⟨T, v, E, g1, g2.keep hb (by omega) (by omega) (by omega) (by omega) (by omega) (fun k hk e => (g3 _ (.inl hA)).2.1 (e ▸ hk)) (fun k _ e => .inl (by subst e; exact no_cell hlp)), fun k hk => ⟨Nat.lt_of_lt_of_le (g3 k hk).1 hb.size, (g3 k hk).2⟩, g4.keep (P5 := P5) (by omega) hb (fun k hk e => by have := (hz k (.inl hk)).1; omega)⟩
  · rintro A pre x W1 W2 ⟨k1, k2, k3, k4, k5⟩ hb hlp
    refine ⟨k1, k2.but hb (fun ad n c e hne hd => ?_), k3, k4, k5⟩
    obtain ⟨ao, cap, e0, h1, _⟩ := k2
    rw [e] at e0
    cases e0
    obtain ⟨y, l', hy⟩ := List.exists_cons_of_ne_nil hne
    obtain ⟨b, off, e', _, c0, _⟩ := h1 0 y (by rw [hy]; rfl)
    cases e'
    simp only at hd
    subst hd
    exact no_cell hlp _ _ c0
  · rintro W1 W2 hb hs rfl
    refine ⟨⟨T0, wv, E0, ⟨rfl, fun k hk => .inl hk⟩, h.next hb, fun k hk => ?_, hL.keep (P5 := P5) (by omega) (D := fun _ => False) (But.of_next hb) (fun _ _ h => h)⟩, rfl, rfl⟩
    rcases hk with (hk | hk | hk) | hk
    · exact hk.elim
    · exact ⟨by omega, fun h' => by have := h.wo.inLt h'; omega, by omega, by omega, by omega, by omega⟩
    · exact ⟨by omega, fun h' => by have := h.wo.inLt h'; omega, by omega, by omega, by omega, by omega⟩
    · exact ⟨Nat.lt_of_lt_of_le (hz k hk).1 hb.size, (hz k hk).2⟩
  · rintro lp x W1 K hK
    have HK := hK _ rfl
    clear hK
    gi_wp2
    exact HK
  · rintro lp A pre ⟨K, u⟩ a' W1 ⟨T, v, E, ⟨g1, g5⟩, g2, g3, g4⟩ rfl ⟨k1, k2, k3, k4, ua, uc, k5⟩
    simp only at k1 k2 k3 k4 k5
    subst k5
    obtain ⟨m, hm⟩ : ∃ m, T.length + 1 = m := ⟨_, rfl⟩
    have HM : Hid ((begL f :: T).length = m) := hm
    obtain ⟨va, vc, hvv⟩ := g2.wo.shape
    rw [HM.out] at hvv
    subst hvv
    obtain ⟨i0, hi0, hz0, hz1, hz2⟩ := info_parts infoSL
    have hK : Kern f K := kernsL_kern hr K (k1.subset (by simp))
    have hKl : K.length ≤ maxI := items_le hp hK.rise.nodup hK.fit
    unfold maxI at hKl
    have HKY : Hid (∀ W', Below W1.heap.size W1 W' → Calls Tryz.prog 98 #[.slice ua K.length uc] W' fun e w' => e = .returned (.string (keyK K)) ∧ Below W'.heap.size W' w') := fun W' hb => keyOf_any K _ W' (k2.next hb) (fun x hx => fit_key hp (hK.fit x hx)) k3 (by omega)
    have HNW : Hid (∀ W', Below W1.heap.size W1 W' → Calls Tryz.prog 97 #[.map (some Mm), .string (keyK K)] W' fun e w' => NewP 9 valK Mm T K W' e w') := fun W' hb => isNewT_any Mm T K W' ((g2.next hb).mp) ⟨by
        show (K.flatMap keyI).toArray.size ≤ maxLen
        have := keyL_len K
        unfold keyL at this
        simp only [List.size_toArray, this]
        unfold maxLen
        omega, fun y hy e => keyK_inj (fun x hx => fit_key hp (hK.fit x hx)) (fun x hx => fit_key hp ((g2.met y hy).fit x hx)) e⟩ (by have := g2.len; omega)
    have HPRE : Hid ((pre ++ [(K, Value.slice ua K.length uc)]).map (·.1) = pre.map (·.1) ++ [K]) := by show _ = _; simp
    have HRK : Hid (rowK (pre.map (·.1) ++ [K]) T0 = if K ∈ T then some T else if T.length + 1 = 600 then none else some (T ++ [K])) := by
      show _ = _
      rw [rowK_append, g1, Option.bind_some, rowK_one]
    have HG2 : Hid (AW f Mm P2 P3 P5 P6 E T T (.slice va m vc) W1) := g2
    have HG3 : Hid (SepA Mm P2 P3 P6 (fun k => (A k ∨ k = W.heap.size ∨ k = W.heap.size + 1) ∨ ZL Bz P5 Ds Et tv k ∨ E k) (.slice va m vc) W1) := g3
    have HG4 : Hid (LV Bz w Ds Et Tl tv W1) := g4
    have HK2 : Hid (SlL K (.slice ua K.length uc) W1 ∧ ∀ ad n c, Value.slice ua K.length uc = .slice (some ad) n c → A ad.block ∧ W.heap.size ≤ ad.block) := ⟨k2, k4⟩
    have HG5 : Hid (∀ k, E k → E0 k ∨ W.heap.size ≤ k) := g5
    have HKN : Hid (Kern f K ∧ pre.map (·.1) ++ [K] <+: kernsL f l) := ⟨hK, k1⟩
    have c5 := g2.c5
    have hTl := g2.len
    have HSS : Hid (∀ W', Below W1.heap.size W1 W' → W'.cell? ⟨P5, 0, none⟩ = some (.map (some Mm))) := fun W' hb => (g2.next hb).c5
    have hS0 := HSS.out _ (Below.refl _ W1).drew
    have hlp2 : P2 < W1.heap.size := World.block_lt_of_cell? _ _ g2.c2
    clear g1 g2 g3 g4 g5 k1 k2 k3 k4 hK hQ hX h hz hL hv hf hB hk1 hk2 hl hr c5 HPRE
    have HPRE : Hid ((pre ++ [(K, Value.slice ua K.length uc)]).map (·.1) = pre.map (·.1) ++ [K]) := by show _ = _; simp
    gi_wp2
    refine wpIn_region_L (fun W => W.cell? ⟨P5, 0, none⟩ = some (.map (some Mm))) 5 (by kernel_rfl) 5 rfl (by kernel_rfl) (by rintro ⟨_, _, h⟩; rcases h with ⟨h, _⟩ | ⟨h, _⟩ <;> cases h) ?_
    refine wpAnyL_take' (i := 0) (v := ?_) (oi := ⟨some 37, .load 154 (.tmp 5), 154, "all.go:18", #[], none⟩) rfl (by kernel_rfl) (by kernel_rfl) (by kernel_rfl) (by kernel_rfl) rfl (fun _ _ _ h => by rcases h with ⟨h, _⟩ | ⟨h, _⟩ <;> cases h) (Or.inl ⟨by rfl, ?_⟩) hS0 ?_
    rotate_left
    · intro W hSW
      go_simp
      try with_reducible rfl
    simp only [Act.put, sA, s0, sS]
    refine wpAnyL_take' (i := 1) (v := ?_) (oi := ⟨some 38, .move (.tmp 9), 64, "all.go:18", #[], none⟩) rfl (by kernel_rfl) (by kernel_rfl) (by kernel_rfl) (by kernel_rfl) rfl (fun _ _ _ h => by rcases h with ⟨h, _⟩ | ⟨h, _⟩ <;> cases h) (Or.inl ⟨by rfl, ?_⟩) hS0 ?_
    rotate_left
    · intro W hSW
      go_simp
      try with_reducible rfl
    simp only [Act.put, sA, s0, sS]
    refine wpAnyL_one' (i := 2) (o := ⟨some 39, .call ⟨.value (.func 98), #[.tmp 38], #[64]⟩, 9, "all.go:18", #[⟨1, .data⟩], none⟩) (by kernel_rfl) rfl rfl (fun KQ hK => ?_)
    go_simp
    refine (HKY.out _ (Below.refl _ W1).drew).mono ?_
    rintro e W2 ⟨rfl, hb2⟩
    have B2 : Below W1.heap.size W1 W2 := below_then (Below.refl _ _).drew hb2 (Nat.le_refl _)
    have hS2 := HSS.out _ B2
    refine hK.out _ _ (fun _ => hS2) ?_
    clear hK
    refine wpAnyL_one' (i := 3) (o := ⟨some 40, .call ⟨.value (.func 97), #[.tmp 37, .tmp 39], #[154, 9]⟩, 4, "all.go:18", #[⟨0, .data⟩, ⟨2, .data⟩, ⟨2, .chain⟩], none⟩) (by kernel_rfl) rfl rfl (fun KQ hK => ?_)
    go_simp
    refine (HNW.out _ B2).mono ?_
    rintro e W3 ⟨rfl, hm3, hb3⟩
    have BM : But (fun k => k = Mm) W1 W3 := (But.of_next B2).trans hb3
    have hS3 : W3.cell? ⟨P5, 0, none⟩ = some (.map (some Mm)) := (hb3.cell (p := ⟨P5, 0, none⟩) (World.block_lt_of_cell? _ _ hS2) (by simp only; omega)).trans hS2
    refine hK.out _ _ (fun _ => hS3) ?_
    clear hK
    refine wpAnyL_take' (i := 4) (v := ?_) (oi := ⟨some 41, .unOp .not 4 (.tmp 40), 4, "all.go:18", #[⟨3, .data⟩], none⟩) rfl (by kernel_rfl) (by kernel_rfl) (by kernel_rfl) (by kernel_rfl) rfl (fun _ _ _ h => by rcases h with ⟨h, _⟩ | ⟨h, _⟩ <;> cases h) (Or.inl ⟨by rfl, ?_⟩) hS3 ?_
    rotate_left
    · intro W hSW
      go_simp
      try with_reducible rfl
    simp only [Act.put, sA, s0, sS]
    refine wpAnyL_done (by kernel_rfl) ?_ _
    have HBM : Hid (But (fun k => k = Mm) W1 W3) := BM
    have HM3 : Hid (MapSet 9 valK Mm (if K ∈ T then T else T ++ [K]) W3) := hm3
    have HLV3 : Hid (LV Bz w Ds Et Tl tv W3) := HG4.out.keep (P5 := P5) (by omega) BM (fun k hk e => (HG3.out k (.inr (.inl hk))).2.2.2.2.2 e)
    have HSP3 : Hid (SepA Mm P2 P3 P6 (fun k => (A k ∨ k = W.heap.size ∨ k = W.heap.size + 1) ∨ ZL Bz P5 Ds Et tv k ∨ E k) (.slice va m vc) W3) := fun k hk => ⟨Nat.lt_of_lt_of_le (HG3.out k hk).1 BM.size, (HG3.out k hk).2⟩
    have HBA3 : Hid (But (fun k => ¬ (A k ∨ k = W.heap.size ∨ k = W.heap.size + 1)) W1 W3) := BM.mono (fun k _ hk hA => (HG3.out k (.inl hA)).2.2.2.2.2 hk)
    clear hm3 hb3 hb2 hS2 hS0 B2 BM HKY HNW HSS
    by_cases hin : K ∈ T
    · have hdc : decide (K ∈ T) = true := by simpa using hin
      have HF : Hid (RA f w Bz Mm P2 P3 P5 P6 Ds Et Tl tv T0 E0 W.heap.size (fun k => A k ∨ k = W.heap.size ∨ k = W.heap.size + 1) (pre ++ [(K, Value.slice ua K.length uc)]) W3) := by
        refine ⟨T, _, E, ⟨by rw [HPRE.out, HRK.out, if_pos hin], HG5.out⟩, HG2.out.newmap HBM.out ?_ ⟨o1, o2, o3, o4⟩, HSP3.out, HLV3.out⟩
        have := HM3.out
        rwa [if_pos hin] at this
      simp only [hdc, Bool.not_true]
      clear hdc hin hS3
      gi_wp2
      exact ⟨HF.out, HBA3.out.nots⟩
    have hdc : decide (K ∈ T) = false := by simpa using hin
    have hAW : AW f Mm P2 P3 P5 P6 E T (T ++ [K]) (.slice va m vc) W3 := HG2.out.newmap HBM.out (by have := HM3.out; rwa [if_neg hin] at this) ⟨o1, o2, o3, o4⟩
    have HAW : Hid (AW f Mm P2 P3 P5 P6 E T (T ++ [K]) (.slice va m vc) W3) := hAW
    have c2 := hAW.c2
    have f2 := hAW.f2
    have c3 := hAW.c3
    have f3 := hAW.f3
    have c6 := hAW.c6
    have f6 := hAW.f6
    simp only [hdc, Bool.not_false]
    by_cases h6 : m = 600
    · have hq6 : ((m : Int) == 600) = true := by subst h6; rfl
      have c3' : (W3.setCell ⟨P2, 0, none⟩ (.slice none 0 0)).cell? ⟨P3, 0, none⟩ = some (.int .i64 0) := (World.cell?_setCell_other _ _ _ _ (fun e => by cases e; omega)).trans c3
      have f3' : (W3.setCell ⟨P2, 0, none⟩ (.slice none 0 0)).frozen? ⟨P3, 0, none⟩ = false := by rw [World.frozen?_setCell]; exact f3
      have BS : But (fun k => k = P2 ∨ k = P3) W3 ((W3.setCell ⟨P2, 0, none⟩ (.slice none 0 0)).setCell ⟨P3, 0, none⟩ (.int .i64 15)) := ((But.refl _ _).setCell _ _ (.inr (.inl rfl))).setCell _ _ (.inr (.inr rfl))
      have HF : Hid (RX f w l Bz P2 P3 Ds T0 ((W3.setCell ⟨P2, 0, none⟩ (.slice none 0 0)).setCell ⟨P3, 0, none⟩ (.int .i64 15)) ∧ But (fun k => ¬ (A k ∨ k = W.heap.size ∨ k = W.heap.size + 1)) W1 ((W3.setCell ⟨P2, 0, none⟩ (.slice none 0 0)).setCell ⟨P3, 0, none⟩ (.int .i64 15))) := by
        have hlv := HLV3.out.keep (P5 := P5) (by have := HBM.out.size; omega) BS (fun k hk e => by
          have := HSP3.out k (.inr (.inl hk))
          omega)
        refine ⟨⟨bind_none_prefix HKN.out.2 (by rw [HRK.out, if_neg hin, if_pos (by omega)]), (World.cell?_setCell_other _ _ _ _ (fun e => by cases e; omega)).trans (World.cell?_setCell_same _ _ _ c2), World.cell?_setCell_same _ _ _ c3', hlv.mks, hlv.bw⟩, HBA3.out.trans (BS.mono (fun k _ hk hA => ?_))⟩
        have := HSP3.out k (.inl hA)
        omega
      clear hdc hin hS3 hAW BS HM3 HAW
      gi_wp2
      exact ⟨HF.out.1, HF.out.2.nots⟩
    have hq6 : ((m : Int) == 600) = false := beq_eq_false_iff_ne.2 (by omega)
    have hT6 : T.length + 1 ≤ 600 := hTl
    have Bn : Below W3.heap.size W3 (W3.alloc (Obj.cells #[.slice ua K.length uc] 64)) := (Below.refl _ _).alloc (Nat.le_refl _) _
    have hKs : SlL K (.slice ua K.length uc) W3 := HK2.out.1.but HBA3.out (fun ad n c e hne hd => hd (.inl (HK2.out.2 ad n c e).1))
    have hEv : ∀ k, (E k ∨ ∃ ad, ua = some ad ∧ k = ad.block) → ¬ inB (.slice va m vc) k ∧ k < W3.heap.size ∧ k ≠ P2 ∧ k ≠ P3 ∧ k ≠ P6 ∧ k ≠ Mm := fun k hk => by
      rcases hk with hk | ⟨ad, rfl, rfl⟩
      · have := HSP3.out k (.inr (.inr hk)); exact ⟨this.2.1, this.1, this.2.2⟩
      · have := HSP3.out _ (.inl (.inl (HK2.out.2 ad _ _ rfl).1)); exact ⟨this.2.1, this.1, this.2.2⟩
    obtain ⟨hs, gq, gg⟩ := (hAW.next Bn).wo.grow (E' := fun k => E k ∨ ∃ ad, ua = some ad ∧ k = ad.block) (hKs.next Bn) (fun k hk => .inl hk) (fun ad n c e hne => .inr ⟨ad, by cases e; rfl, rfl⟩) (fun k hk => ⟨(hEv k hk).1, Nat.lt_of_lt_of_le (hEv k hk).2.1 Bn.size⟩)
    rw [HM.out] at gq gg
    simp only [World.size_alloc] at gq gg
    have HQ : Hid (QRow (fun k => inB (.slice va m vc) k ∨ W3.heap.size + 1 ≤ k) 1 (.slice va m vc) m hs (W3.alloc (Obj.cells #[.slice ua K.length uc] 64))) := gq
    have HD : Hid (∀ k, (W3.alloc (Obj.cells #[.slice ua K.length uc] 64)).heap.size ≤ k → inB (.slice va m vc) k ∨ W3.heap.size + 1 ≤ k) := fun k hk => .inr (by simpa using hk)
    have HNC : Hid (∀ (q : Nat) (u : Value), [Value.slice ua K.length uc][q]? = some u → (W3.alloc (Obj.cells #[.slice ua K.length uc] 64)).cell? ((⟨W3.heap.size, 0, none⟩ : Addr).add q) = some u) := by
      intro q u hq
      rcases q with _ | q
      · simp at hq; subst hq; simp [Addr.add]
      · simp at hq
    have HGG : Hid (∀ v' W', QRow (fun k => inB (.slice va m vc) k ∨ W3.heap.size + 1 ≤ k) 1 v' (m + 1) (hs ++ [.slice ua K.length uc]) W' → But (fun k => inB (.slice va m vc) k ∨ W3.heap.size + 1 ≤ k) (W3.alloc (Obj.cells #[.slice ua K.length uc] 64)) W' → W'.cell? ⟨P6, 0, none⟩ = some (.slice va m vc) ∧ W'.frozen? ⟨P6, 0, none⟩ = false ∧
        (RA f w Bz Mm P2 P3 P5 P6 Ds Et Tl tv T0 E0 W.heap.size (fun k => A k ∨ k = W.heap.size ∨ k = W.heap.size + 1) (pre ++ [(K, Value.slice ua K.length uc)]) (W'.setCell ⟨P6, 0, none⟩ v') ∧ But (fun k => ¬ (A k ∨ k = W.heap.size ∨ k = W.heap.size + 1)) W1 (W'.setCell ⟨P6, 0, none⟩ v'))) := fun v' W' q1 q2 => by
      obtain ⟨r1, r2⟩ := gg v' W' q1 q2
      have hA := HAW.out
      have hp2 : P2 < W3.heap.size := World.block_lt_of_cell? _ _ c2
      have hp6 : P6 < W3.heap.size := World.block_lt_of_cell? _ _ c6
      have hp5 : P5 < W3.heap.size := by omega
      have hz3 : W3.heap.size ≤ W3.heap.size + 1 := by omega
      have q3 : But (fun k => inB (.slice va m vc) k ∨ W3.heap.size ≤ k) W3 W' := (But.of_next Bn).trans (q2.mono (fun k _ hk => hk.imp id (fun h => Nat.le_trans hz3 h)))
      have nD : ∀ k, k < W3.heap.size → ¬ inB (.slice va m vc) k → ¬ (inB (.slice va m vc) k ∨ W3.heap.size ≤ k) := fun k h1 h2 h3 => by
        rcases h3 with h3 | h3
        · exact h2 h3
        · omega
      have cc : ∀ {p : Nat} {u : Value}, p < W3.heap.size → ¬ inB (.slice va m vc) p → W3.cell? ⟨p, 0, none⟩ = some u → W'.cell? ⟨p, 0, none⟩ = some u := fun {p u} h1 h2 h3 => (q3.cell (p := ⟨p, 0, none⟩) h1 (nD p h1 h2)).trans h3
      have ff : ∀ {p : Nat}, p < W3.heap.size → ¬ inB (.slice va m vc) p → W3.frozen? ⟨p, 0, none⟩ = false → W'.frozen? ⟨p, 0, none⟩ = false := fun {p} h1 h2 h3 => (q3.frozen (p := ⟨p, 0, none⟩) h1 (nD p h1 h2)).trans h3
      have BS : But (fun k => k = P6) W' (W'.setCell ⟨P6, 0, none⟩ v') := (But.refl _ _).setCell _ _ (.inr rfl)
      have so : ∀ {p : Nat} {u : Value}, p ≠ P6 → W'.cell? ⟨p, 0, none⟩ = some u → (W'.setCell ⟨P6, 0, none⟩ v').cell? ⟨p, 0, none⟩ = some u := fun {p u} h1 h2 => (World.cell?_setCell_other _ _ _ _ (fun e => h1 (by cases e; rfl))).trans h2
      have nv : ∀ k, k < W3.heap.size → ¬ inB (.slice va m vc) k → ¬ inB v' k := fun k h1 h2 h3 => by
        rcases r2 k h3 with h | h
        · exact h2 h
        · omega
      refine ⟨cc hp6 hA.w6 c6, ff hp6 hA.w6 f6, ⟨T ++ [K], v', (fun k => E k ∨ ∃ ad, ua = some ad ∧ k = ad.block), ⟨by rw [HPRE.out, HRK.out, if_neg hin, if_neg (by omega)], fun k hk => by
        rcases hk with hk | ⟨ad, rfl, rfl⟩
        · exact HG5.out k hk
        · exact .inr (HK2.out.2 ad _ _ rfl).2⟩, ⟨?_, ?_, by simp; omega, ?_, (hA.mp.but q3 (nD Mm hA.mp.lt hA.wm)).but BS (by omega), so (by omega) (cc hp5 hA.w5 hA.c5), World.cell?_setCell_same _ _ _ (cc hp6 hA.w6 c6), by rw [World.frozen?_setCell]; exact ff hp6 hA.w6 f6, so (by omega) (cc hp2 hA.w2 c2), by rw [World.frozen?_setCell]; exact ff hp2 hA.w2 f2, so (by omega) (cc (by omega) hA.w3 c3), by rw [World.frozen?_setCell]; exact ff (by omega) hA.w3 f3, nv _ hp2 hA.w2, nv _ (by omega) hA.w3, nv _ hp5 hA.w5, nv _ hp6 hA.w6, nv _ hA.mp.lt hA.wm⟩, ?_, ?_⟩, ?_⟩
      · intro M hM
        rcases List.mem_append.1 hM with hM | hM
        · exact hA.met M hM
        · simp at hM; subst hM; exact HKN.out.1
      · rw [List.nodup_append]
        refine ⟨hA.nodup, by simp, fun x hx y hy => ?_⟩
        simp at hy; subst hy
        rintro rfl; exact hin hx
      · refine r1.keep BS (fun k hk e => nv _ hp6 hA.w6 (e ▸ hk)) (fun k _ e => .inr fun he => (hEv k he).2.2.2.2.1 e)
      · intro k hk
        have hb : k < W3.heap.size ∧ ¬ inB (.slice va m vc) k ∧ k ≠ P2 ∧ k ≠ P3 ∧ k ≠ P6 ∧ k ≠ Mm := by
          rcases hk with hk | hk | hk
          · exact HSP3.out k (.inl hk)
          · exact HSP3.out k (.inr (.inl hk))
          · have := hEv k hk; exact ⟨this.2.1, this.1, this.2.2⟩
        exact ⟨Nat.lt_of_lt_of_le hb.1 (Nat.le_trans q3.size BS.size), nv k hb.1 hb.2.1, hb.2.2⟩
      · exact (HLV3.out.keep (P5 := P5) (by omega) q3 (fun k hk => nD k (HSP3.out k (.inr (.inl hk))).1 (HSP3.out k (.inr (.inl hk))).2.1)).keep (P5 := P5) (by have := q3.size; omega) BS (fun k hk e => (HSP3.out k (.inr (.inl hk))).2.2.2.2.1 e)
      · exact (HBA3.out.trans (q3.mono (fun k hlt hk hA => nD k (HSP3.out k (.inl hA)).1 (HSP3.out k (.inl hA)).2.1 hk))).trans (BS.mono (fun k _ e hA => (HSP3.out k (.inl hA)).2.2.2.2.1 e))
    clear hdc hin hS3 hAW HM3 HAW gq gg hKs hEv c2 f2 c3 f3 f6 Bn
    gi_wp2_with (gi_at_builtin; refine wpListIn_append_q rfl (.tmp 45) (.tmp 47) 59 rfl 64 i0 _ 1 24 Tryz.underlying59 hi0 hz0 hz1 hz2 rfl (by decide) rfl HQ.out HD.out ⟨W3.heap.size, 0, none⟩ 1 [.slice ua K.length uc] rfl rfl HNC.out (by simp [Value.oneCell']) (by unfold maxLen; omega) (by omega) ?_)
    intro v5 w5 hq5 hb5
    obtain ⟨qa5, qc5, rfl⟩ := hq5.shape
    obtain ⟨z1, z2, z3⟩ := HGG.out _ _ hq5 hb5
    have HZ : Hid _ := z3
    clear z3 hq5 hb5 HGG HQ HD HNC
    gi_wp2
    exact ⟨HZ.out.1, HZ.out.2.nots⟩
  · rintro xs W1 hS ⟨T, v, E, ⟨g1, g5⟩, g2, g3, g4⟩ hd
    refine hQ T v E W1 (hS ▸ g1) g5 (Nat.le_of_lt (Array.getElem?_eq_some_iff.1 hd).1) g2 (fun k hk => ?_) ⟨g4.tl, ⟨List.nodup_cons.2 ⟨fun hm => by have := hDl _ hm; omega, g4.mks.1⟩, fun d hdm => ?_⟩, g4.bw⟩
    · rcases hk with hk | hk
      · rcases hk with hk | hk | hk | hk | hk
        · exact g3 k (.inr (.inl (.inl hk)))
        · exact g3 k (.inr (.inl (.inr (.inl hk))))
        · rcases List.mem_cons.1 hk with hk | hk
          · exact g3 k (.inl (.inr (.inl hk)))
          · exact g3 k (.inr (.inl (.inr (.inr (.inl hk)))))
        · exact g3 k (.inr (.inl (.inr (.inr (.inr (.inl hk))))))
        · exact g3 k (.inr (.inl (.inr (.inr (.inr (.inr hk))))))
      · exact g3 k (.inr (.inr hk))
    · rcases List.mem_cons.1 hdm with rfl | hdm
      · exact ⟨by omega, hd⟩
      · exact g4.mks.2 d hdm
  · rintro W1 W2 ⟨x1, x2, x3, x4, x5⟩ hb hlp hd
    have hp2 : P2 < W1.heap.size := World.block_lt_of_cell? _ _ x2
    refine hX W2 ⟨x1, (hb.cell (p := ⟨P2, 0, none⟩) hp2 (by simp only; omega)).trans x2, (hb.cell (p := ⟨P3, 0, none⟩) (World.block_lt_of_cell? _ _ x3) (by simp only; omega)).trans x3, ⟨List.nodup_cons.2 ⟨fun hm => by have := hDl _ hm; omega, x4.1⟩, fun d hdm => ?_⟩, x5.trans (hb.below (by omega) (fun k hk => by omega))⟩
    rcases List.mem_cons.1 hdm with rfl | hdm
    · exact ⟨by omega, hd⟩
    · exact ⟨(x4.2 d hdm).1, hb.same (x4.2 d hdm).2 (by have := hDl d hdm; omega)⟩
end Go.Proofs.YtbilbgjojdlobaaGreatDoor
/- closure, closed, Closure, Goto, First of the program. -/
namespace Go.Proofs.YtbilbgjojdlobaaGreatDoor
open Go.RowKit

theorem fold_len : ∀ (l : List Ir) (L : List Ir), (l.foldl (fun L x => addI L x) L).length ≤ L.length + l.length
  | [], L => by simp
  | x :: l, L => by
    have := fold_len l (addI L x)
    have h2 := addI_len L x
    rw [List.foldl_cons, List.length_cons]
    omega
theorem fold_take {l : List Ir} {j : Nat} (h : j < l.length) : (l.take (j + 1)).foldl (fun L x => addI L x) [] = addI ((l.take j).foldl (fun L x => addI L x) []) l[j] := by
  rw [List.take_succ_eq_append_getElem h, List.foldl_append]
  rfl
def Closed1 (f : Fl) (l : List Ir) (w : World) (e : Ending) (w' : World) : Prop := ∃ v' L', e = .returned v' ∧ ClosI f (fun x => x ∈ l) L' ∧ SlL L' v' w' ∧ Apart w.heap.size v' ∧ Below w.heap.size w w'

set_option maxRecDepth 100000 in
set_option maxHeartbeats 1600000 in
theorem closure_any (f : Fl) (a : FlA) (V : Nat) (Le : List Bool) (R : List (List Int)) (l : List Ir) (v : Value) (wv w : World) (hv : VwAt f a V Le R wv) (hf : FlAt f a wv) (hfe : FE f R Le) (hB : Below wv.heap.size wv w) (hp : FitP f) (hl : SlL l v w) (hfit : ∀ x ∈ l, fitI f x = true) (hne : l ≠ []) (hll : l.length ≤ 50000000) :
    Calls Tryz.prog 95 #[.pointer (some ⟨V, 0, none⟩), v] w fun e w' => Closed1 f l w e w' := by
  obtain ⟨la, lc, rfl, hI, _, _⟩ := hl
  have HNG := newGrower_any V w
  have HFT : Hid (∀ x ∈ l, okR x) := fun x hx => fitI_ok hp (hfit x hx)
  have hpos : 0 < l.length := List.length_pos_iff.2 hne
  have HGR : Hid (∀ Bi Bc Bb G lv W, w.heap.size ≤ Bi → GS Bi Bc Bb G V lv (l.foldl (fun L x => addI L x) []) [] [] W → Below w.heap.size w W → Calls Tryz.prog 130 #[.pointer (some ⟨G, 0, none⟩)] W fun e W' => ∃ v', e = .returned v' ∧ (∃ L', ClosI f (fun x => x ∈ l) L' ∧ SlL L' v' W' ∧ Apart Bi v') ∧ Below Bi W W') := fun Bi Bc Bb G lv W hbi hgs hb => by
    refine callsIn_wide.1 (grown_in 6 (by omega) f a Le R wv Bi Bc Bb G V _ lv _ W hgs hv hf hfe (Nat.le_trans hB.size hbi) (hB.trans (hb.mono hB.size)) hp (GI.start hfit) (fun e => ?_))
    obtain ⟨x, l', rfl⟩ := List.exists_cons_of_ne_nil hne
    have := ((fold_put (fun x : Ir => x) (x :: l') []).2.2 x).2 (.inr ⟨x, by simp, rfl⟩)
    rw [e] at this; cases this
  have HI : Hid (∀ W, Below w.heap.size w W → IrsAt l la W) := fun W hb => hI.next hb
  clear hI hfit hne hv hf hfe hB hp
  go_enter Tryz.func95, Tryz.ntmps95
  go_wp2_with fail
  refine HNG.mono ?_
  rintro e w0 ⟨Bi, Bc, Bb, G, rfl, hbi, hgs0, B0⟩
  have HG0 : Hid (GS Bi Bc Bb G V (.slice none 0 0) [] [] [] w0) := hgs0
  clear HNG hgs0
  go_wp2_with fail
  go_loopw [7, 12] (fun _ i wr => ∃ (j : Nat) (lv : Value), i = .int .i64 j ∧ j ≤ l.length ∧ GS Bi Bc Bb G V lv ((l.take j).foldl (fun L x => addI L x) []) [] [] wr ∧ Below w.heap.size w wr) (fun _ i _ => l.length - (intOf i).toNat)
  case atStart => exact ⟨0, _, rfl, Nat.zero_le _, by simpa using HG0.out, B0⟩
  case round =>
  obtain ⟨j, lv, rfl, hj, hgs, B1⟩ := hrel
  have hsz := B1.size
  by_cases hlt : j < l.length
  · obtain ⟨b, off, rfl, _, c0, c1, c2, hok⟩ := (HI.out _ B1).at (Below.refl _ _) hlt
    have HT : Hid ((l.take (j + 1)).foldl (fun L x => addI L x) [] = addI ((l.take j).foldl (fun L x => addI L x) []) l[j]) := fold_take hlt
    have hLl := fold_len (l.take j) []
    rw [List.length_take, List.length_nil] at hLl
    generalize l[j] = x at *
    generalize (l.take j).foldl (fun L x => addI L x) [] = L at *
    have Bx : Below wr.heap.size wr (wr.alloc (Obj.cells #[.int .i64 x.1, .int .i64 x.2.1, .int .i64 x.2.2] 77)) := (Below.refl _ _).alloc (Nat.le_refl _) _
    have hgs1 := hgs.next Bx
    have HP : Hid (Apt (fun k => k < Bi) Bi Bc Bb G lv (wr.alloc (Obj.cells #[.int .i64 x.1, .int .i64 x.2.1, .int .i64 x.2.2] 77))) := by
      have h1 := hgs1.o1; have h2 := hgs1.o2; have h3 := hgs1.o3; have h4 := hgs1.lt
      refine ⟨fun k hk => by omega, fun k e hk => ?_⟩
      have := World.ownsRow.lt hgs1.own k e
      omega
    have HC := gput_any (fun k => k < Bi) Bi Bc Bb G V lv L [] [] x _ hgs1 hok HP.out (by omega)
    unfold valR at HC
    obtain ⟨x0, x1, x2⟩ := x
    simp only at c0 c1 c2 HC
    have HC' : Hid (Calls Tryz.prog 129 #[.pointer (some ⟨G, 0, none⟩), .agg #[.int .i64 x0, .int .i64 x1, .int .i64 x2]] (wr.alloc (Obj.cells #[.int .i64 x0, .int .i64 x1, .int .i64 x2] 77)) fun e w' => Grown (fun k => k < Bi) Bi Bc Bb G V (addI L (x0, x1, x2)) [] [] (wr.alloc (Obj.cells #[.int .i64 x0, .int .i64 x1, .int .i64 x2] 77)) e w') := HC
    have HBx : Hid (∀ W, But (fun k => ¬ k < Bi) (wr.alloc (Obj.cells #[.int .i64 x0, .int .i64 x1, .int .i64 x2] 77)) W → Below w.heap.size w W) := fun W hb => (B1.trans (Bx.mono hsz)).trans (hb.below (by have := Bx.size; simp only at this; omega) (fun k hk => by omega))
    clear HC hgs hgs1 HP Bx
    go_wp2_with fail
    refine HC'.out.mono ?_
    rintro e w2 ⟨rfl, lv2, k1, k2, k3⟩
    have HK1 : Hid (GS Bi Bc Bb G V lv2 (addI L (x0, x1, x2)) [] [] w2) := k1
    have B3 := HBx.out _ k3
    clear k1 k2 k3
    go_wp2_with fail
    exact ⟨⟨j + 1, lv2, by go_num, by omega, by rw [HT.out]; exact HK1.out, B3⟩, by simp [intOf]; omega⟩
  · obtain rfl : j = l.length := by omega
    rw [List.take_of_length_le (Nat.le_refl _)] at hgs
    have HC := HGR.out Bi Bc Bb G lv wr hbi hgs B1
    clear hgs HGR
    go_wp2_with fail
    refine HC.mono ?_
    rintro e w2 ⟨v', rfl, ⟨L', k1, k2, k3⟩, k4⟩
    have HF : Hid (ClosI f (fun x => x ∈ l) L' ∧ SlL L' v' w2 ∧ Apart w.heap.size v' ∧ Below w.heap.size w w2) := ⟨k1, k2, k3.mono hbi, B1.trans (k4.mono hbi)⟩
    clear k1 k2 k3 k4 HC
    go_wp2_with fail
    go_ret
    exact ⟨v', L', rfl, HF.out⟩
end Go.Proofs.YtbilbgjojdlobaaGreatDoor
/- closed, Closure, Goto, First of the program. -/
namespace Go.Proofs.YtbilbgjojdlobaaGreatDoor
open Go.RowKit

end Go.Proofs.YtbilbgjojdlobaaGreatDoor
