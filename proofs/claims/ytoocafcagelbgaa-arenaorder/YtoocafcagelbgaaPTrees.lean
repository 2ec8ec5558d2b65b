/- fitTrees: no slot within itself, all live ones within some root's, no tree too large. -/
import Derived.Test.YtoocafcagelbgaaTrMath
import Derived.Test.YtoocafcagelbgaaXRange
namespace Go.Proofs.Ytoocafcagelbgaa
open Go.RowKit Go.Shelf
attribute [local go_sem] Oper.semAt_some

def rowO (n : Nat) (c : Nat → Nat) : Obj := .cells ((List.range n).map fun i => Value.int .i64 (c i : Int)).toArray 3
theorem rowO_set {W : World} {g n : Nat} {c : Nat → Nat} (h : W.heap[g]? = some (rowO n c)) (p s : Nat) : (W.setCell ⟨g, p, none⟩ (.int .i64 (s : Int))).heap[g]? = some (rowO n (fun i => if i = p then s else c i)) := by
  have h1 := blk_set (o := p) h (.int .i64 (s : Int))
  rw [h1]
  unfold rowO
  rw [List.setIfInBounds_toArray, range_set]
  have e : ((List.range n).map fun i => Value.int .i64 ((if i = p then s else c i : Nat) : Int)) = (List.range n).map fun i => if i = p then Value.int .i64 (s : Int) else Value.int .i64 (c i : Int) := by
    refine List.map_congr_left fun i _ => ?_
    split <;> rfl
  rw [e]
theorem rowO_at {W : World} {g n : Nat} {c : Nat → Nat} (h : W.heap[g]? = some (rowO n c)) {p : Nat} (hp : p < n) : W.cell? ⟨g, p, none⟩ = some (.int .i64 (c p : Int)) := by
  unfold rowO at h
  rw [Lib.cell_of_heap h]
  simp [hp]
theorem rowO_made {B g n : Nat} {W : World} (h : W.ownsRow B 3 1 (.slice (some ⟨g, 0, none⟩) n n) n (madeCells (Value.int .i64 0).cells (n * 1)).toList) : W.heap[g]? = some (rowO n (fun _ => 0)) := by
  have h0 := RowF.made h
  have h1 := h0.own
  rcases h1.2 with ⟨e, _⟩ | ⟨g', cap, cur, e, _, hg, _, _, hs, ht⟩
  · cases e
  · simp only [Value.slice.injEq, Option.some.injEq, Addr.mk.injEq, and_true, true_and] at e
    obtain ⟨rfl, rfl⟩ := e
    rw [hg]
    unfold rowO
    have : cur = ((List.range n).map fun i => Value.int .i64 (0 : Int)).toArray := by
      rw [← Array.toList_inj]
      rw [List.take_of_length_le (by rw [Array.length_toList]; omega)] at ht
      exact ht
    rw [this]
    rfl
def szF (l : List Sl) (most : Nat) (pre : List Nat) : Nat → Nat := (szAll (Kf l) most (fun _ => 0) pre).getD (fun _ => 0)
def PpT (l : List Sl) (most : Nat) (pre : List Nat) : Prop := (szAll (Kf l) most (fun _ => 0) pre).isSome = true
/-- What fitTrees keeps. -/
def CT (l : List Sl) (most : Nat) (ar : Array Value) (P gs b5 b6 : Nat) (pre : List Nat) (k : Nat) (o : Obj) : Prop :=
  (k = P ∧ o = Obj.cells ar 25) ∨ (k = P + 1 ∧ o = Obj.cells #[.int .i64 (most : Int)] 3) ∨ (k = P + 2 ∧ o = Obj.cells #[.bool false] 4) ∨ (k = gs ∧ o = rowO l.length (szF l most pre)) ∨ (k = b5 ∧ o = Obj.cells #[.slice (some ⟨gs, 0, none⟩) l.length l.length] 23) ∨ (k = b6 ∧ o = Obj.cells #[.int .i64 (pre.length : Int)] 3)

set_option maxRecDepth 100000 in
set_option maxHeartbeats 8000000 in
theorem fitTrees_any (a : Ar) (v : Value) (most : Nat) (w : World) (h : ArV a v w) (hlen : a.slots.length ≤ 4096) (hkl : ∀ s ∈ a.slots, s.kids.length ≤ 1000000) (hka : ∀ s ∈ a.slots, areB a.slots.length s.kids = true) (hra : rootsB a.slots.length a.roots = true) (hm1 : 1 ≤ most) (hm2 : most ≤ 1048576) :
    Calls Try.prog 60 #[v, .int .i64 (most : Int)] w fun e w' => e = .returned (.bool (treesB a.slots a.roots most)) ∧ Below w.heap.size w w' := by
  obtain ⟨ii, hii, hz0, hz1, hz2⟩ := info_parts info3
  have HLV : Hid (∀ W, Below w.heap.size w W → Calls Try.prog 19 #[v] W fun e w' => e = .returned (.int .i64 (liveN a.slots)) ∧ Below W.heap.size W w') := fun W hb => live_any a v W (h.next hb)
  obtain ⟨sv, rv, rfl, ⟨ao, cap, rfl, hs, _, _, hlb⟩, hr, hfi, hrl⟩ := h
  have HR : Hid (∀ W, Below w.heap.size w W → SlI a.roots rv W) := fun W hb => hr.next hb
  obtain ⟨ra, rc, rfl, _⟩ := hr
  generalize a.slots = l at *
  generalize a.roots = roots at *
  generalize a.free = fr at *
  have HGV : Hid (∀ ab rb A0 W, ArBox ab ao l.length cap fr (.slice ra roots.length rc) W → W.cell? ⟨rb, 0, none⟩ = some (.slice ra roots.length rc) → A0 ab → GivesT 4 Try.prog 61 #[.pointer (some ⟨ab, 0, none⟩), .pointer (some ⟨rb, 0, none⟩)] encN (fun xs _ => xs = allP l roots) OkN (fun pre => pre <+: allP l roots) A0 (FxN w) W) :=
    fun ab rb A0 W h1 h2 h3 => within_gives 4 l ao cap fr (.slice ra roots.length rc) roots ra rc w hs hka hkl hlen hra hrl ab rb A0 W h1 h2 h3 HR.out
  have HS : Hid (∀ W, Below w.heap.size w W → SlotsAt l ao W) := fun W hb => hs.next hb
  have HKA : Hid (∀ s ∈ l, (∀ x ∈ s.kids, isSl l.length x = true) ∧ s.kids.length ≤ 1000000) := fun s h => ⟨List.all_eq_true.1 (hka s h), hkl s h⟩
  have hap := allP_len l roots
  clear hs hka hra hkl
  have B3 : Below w.heap.size w (((w.alloc (Obj.cells #[.slice ao l.length cap, .int .i64 fr, .slice ra roots.length rc] 25)).alloc (Obj.cells #[.int .i64 (most : Int)] 3)).alloc (Obj.cells #[.bool false] 4)) := (((Below.refl _ _).alloc (Nat.le_refl _) _).alloc (by simp) _).alloc (by simp; omega) _
  obtain ⟨W3, hW3⟩ : ∃ W3, W3 = (((w.alloc (Obj.cells #[.slice ao l.length cap, .int .i64 fr, .slice ra roots.length rc] 25)).alloc (Obj.cells #[.int .i64 (most : Int)] 3)).alloc (Obj.cells #[.bool false] 4)) := ⟨_, rfl⟩
  have z3 : W3.heap.size = w.heap.size + 1 + 1 + 1 := by rw [hW3]; simp
  have x0 : W3.heap[w.heap.size]? = some (Obj.cells #[.slice ao l.length cap, .int .i64 fr, .slice ra roots.length rc] 25) := by rw [hW3]; exact blk_new (blk_new (heap_alloc_new _ _))
  have x1 : W3.heap[w.heap.size + 1]? = some (Obj.cells #[.int .i64 (most : Int)] 3) := by
    rw [hW3]
    refine blk_new ?_
    have := heap_alloc_new (w.alloc (Obj.cells #[.slice ao l.length cap, .int .i64 fr, .slice ra roots.length rc] 25)) (Obj.cells #[.int .i64 (most : Int)] 3)
    simpa using this
  have x2 : W3.heap[w.heap.size + 2]? = some (Obj.cells #[.bool false] 4) := by
    rw [hW3]
    have := heap_alloc_new ((w.alloc (Obj.cells #[.slice ao l.length cap, .int .i64 fr, .slice ra roots.length rc] 25)).alloc (Obj.cells #[.int .i64 (most : Int)] 3)) (Obj.cells #[.bool false] 4)
    simpa using this
  rw [← hW3] at B3
  obtain ⟨wm, hm1', hm2', hm3⟩ := run_makeSlice_full (P := Try.prog) W3 W3.heap.size 23 3 ii _ 1 Try.underlying23 hii hz0 hz1 .i64 .i64 l.length (by omega) (by rw [hz2]; omega) (by unfold maxLen; omega) (Nat.le_refl _)
  have xg := rowO_made hm2'
  have hgl := (World.ownsRow.lt hm2' W3.heap.size rfl).2
  have BM : Below W3.heap.size W3 wm := ((But.refl (fun _ => False) W3).grown hm3 (fun r h => by cases h)).below (Nat.le_refl _) (fun _ h => h.elim)
  obtain ⟨W5, hW5⟩ : ∃ W5, W5 = (wm.alloc (Obj.cells #[.slice (some ⟨W3.heap.size, 0, none⟩) l.length l.length] 23)).alloc (Obj.cells #[.int .i64 0] 3) := ⟨_, rfl⟩
  have BW5 : Below wm.heap.size wm W5 := by rw [hW5]; exact ((Below.refl _ _).alloc (Nat.le_refl _) _).alloc (by simp) _
  have z5 : W5.heap.size = wm.heap.size + 2 := by rw [hW5]; simp
  have B35 : Below W3.heap.size W3 W5 := below_next BM BW5
  have y0 := (B35.block _ (blk_lt x0)).trans x0
  have y1 := (B35.block _ (blk_lt x1)).trans x1
  have y2 := (B35.block _ (blk_lt x2)).trans x2
  have yg := (BW5.block _ (blk_lt xg)).trans xg
  have y5 : W5.heap[wm.heap.size]? = some (Obj.cells #[.slice (some ⟨W3.heap.size, 0, none⟩) l.length l.length] 23) := by rw [hW5]; exact blk_new (heap_alloc_new _ _)
  have y6 : W5.heap[wm.heap.size + 1]? = some (Obj.cells #[.int .i64 0] 3) := by
    rw [hW5]
    have := heap_alloc_new (wm.alloc (Obj.cells #[.slice (some ⟨W3.heap.size, 0, none⟩) l.length l.length] 23)) (Obj.cells #[.int .i64 0] 3)
    simpa using this
  obtain ⟨P, HP⟩ : ∃ P, Hid (P = w.heap.size) := ⟨_, rfl⟩
  obtain ⟨gs, HGS⟩ : ∃ gs, Hid (gs = w.heap.size + 1 + 1 + 1) := ⟨_, rfl⟩
  have HY : Hid (∀ k o, CT l most #[.slice ao l.length cap, .int .i64 fr, .slice ra roots.length rc] P gs wm.heap.size (wm.heap.size + 1) [] k o → W5.heap[k]? = some o) := by
    rintro k o (⟨rfl, rfl⟩ | ⟨rfl, rfl⟩ | ⟨rfl, rfl⟩ | ⟨rfl, rfl⟩ | ⟨rfl, rfl⟩ | ⟨rfl, rfl⟩)
    · rw [HP.out]; exact y0
    · rw [HP.out]; exact y1
    · rw [HP.out]; exact y2
    · rw [HGS.out, ← z3]; exact yg
    · rw [HGS.out, ← z3]; exact y5
    · exact y6
  have HB5 : Hid (Below w.heap.size w W5 ∧ P < gs ∧ P + 2 < gs ∧ gs < wm.heap.size ∧ W5.heap.size = wm.heap.size + 2 ∧ P = w.heap.size) := ⟨below_next B3 B35, by rw [HP.out, HGS.out]; omega, by rw [HP.out, HGS.out]; omega, by rw [HGS.out]; omega, z5, HP.out⟩
  have HC := within_any ao l.length cap fr (.slice ra roots.length rc) ra roots.length rc W5
  refine (callsIn_wide (n := 5)).1 ?_
  refine callsIn_of_wp_marks Try.func60 rfl trivial ?_ rfl
  simp only [Try.ntmps60, List.size_toArray, List.length_cons, List.length_nil, Nat.reduceAdd, Nat.reduceSub, Array.replicate_succ, Array.replicate_zero, List.push_toArray, List.append_toArray, List.nil_append, List.cons_append]
  have g0 : W3.cell? ⟨w.heap.size, 0, none⟩ = some (.slice ao l.length cap) := by rw [Lib.cell_of_heap x0]; rfl
  have q0 : W5.cell? ⟨w.heap.size, 0, none⟩ = some (.slice ao l.length cap) := by rw [Lib.cell_of_heap y0]; rfl
  have q1 : W5.cell? ⟨w.heap.size, 1, none⟩ = some (.int .i64 fr) := by rw [Lib.cell_of_heap y0]; rfl
  have q2 : W5.cell? ⟨w.heap.size, 2, none⟩ = some (.slice ra roots.length rc) := by rw [Lib.cell_of_heap y0]; rfl
  rw [z3] at hW5
  rw [hW3] at g0 hm1'
  rw [hW5] at q0 q1 q2 HC
  clear y0 y1 y2 y5 y6 yg x0 x1 x2 xg B3 BM hm2' hm3 B35 BW5 z3 z5 hgl
  gi_wp2_with fail
  refine ⟨trivial, (callsIn_wide.2 HC).mono ?_⟩
  rw [← hW5]
  rintro e w6 ⟨rfl, hab, hrb, hz6, hb6⟩
  clear HC g0 q0 q1 q2 hm1' hW3 hW5
  gi_wp2_with fail
  have HGS2 : Hid (gs = P + 1 + 1 + 1) := by rw [HP.out]; exact HGS.out
  rw [← HP.out, ← HGS2.out]
  have H6 : Hid (Below w.heap.size w w6 ∧ P < gs ∧ P + 2 < gs ∧ gs < wm.heap.size ∧ W5.heap.size = wm.heap.size + 2 ∧ P = w.heap.size ∧ w6.heap.size = W5.heap.size + 2) := by
    obtain ⟨h1, h2, h3, h4, h5, h6⟩ := HB5.out
    exact ⟨below_next h1 hb6, h2, h3, h4, h5, h6, hz6⟩
  have HY6 : Hid (∀ k o, CT l most #[.slice ao l.length cap, .int .i64 fr, .slice ra roots.length rc] P gs wm.heap.size (wm.heap.size + 1) [] k o → w6.heap[k]? = some o) := fun k o h => (hb6.block _ (blk_lt (HY.out k o h))).trans (HY.out k o h)
  have HAB : Hid (ArBox W5.heap.size ao l.length cap fr (.slice ra roots.length rc) w6 ∧ w6.cell? ⟨W5.heap.size + 1, 0, none⟩ = some (.slice ra roots.length rc)) := ⟨hab, hrb⟩
  have HAP : Hid ((allP l roots).length ≤ l.length ∧ ∀ x ∈ allP l roots, x < l.length) := ⟨hap, allP_in l roots⟩
  clear HY HB5 hb6 hz6 hab hrb hap
  refine wpIn_range_T (α := Nat) (by omega) (gf := 61) (lb := #[.pointer (some ⟨W5.heap.size, 0, none⟩), .pointer (some ⟨W5.heap.size + 1, 0, none⟩)]) rfl (enters_of Try.func61 (by kernel_rfl) rfl) (encs := encN) (S := fun xs _ => xs = allP l roots) (Ok := OkN) (Pf := fun xs => xs <+: allP l roots) (A0 := fun k => k = W5.heap.size ∨ k = W5.heap.size + 1) (Fx := FxN w) (fun _ => rfl) (fun q hq => by have := H6.out; omega) (fun V hV => HGV.out W5.heap.size (W5.heap.size + 1) _ V (HAB.out.1.next hV) ((hV.cell (p := ⟨W5.heap.size + 1, 0, none⟩) (World.block_lt_of_cell? _ _ HAB.out.2)).trans HAB.out.2) (.inl rfl)) (fun _ _ _ _ _ _ _ _ => trivial) (fun ys V V' h1 _ => h1)
    (XI w (PpT l most) (CT l most #[.slice ao l.length cap, .int .i64 fr, .slice ra roots.length rc] P gs wm.heap.size (wm.heap.size + 1))) (XL w (treesB l roots most = false) (fun k o => k = P + 2 ∧ o = Obj.cells #[.bool false] 4)) XI.keep (fun V h1 h2 => ?init)
    (fun x a' => a' = { tmps := #[Value.agg #[.slice ao l.length cap, .int .i64 fr, .slice ra roots.length rc], .int .i64 (most : Int), .pointer (some ⟨P, 0, none⟩), .pointer (some ⟨P + 1, 0, none⟩), .pointer (some ⟨P + 1 + 1, 0, none⟩), .pointer (some ⟨wm.heap.size, 0, none⟩), .pointer (some ⟨wm.heap.size + 1, 0, none⟩), .int .i64 (x : Int), undef, undef, undef, .pointer (some ⟨P, 0, none⟩), .slice ao l.length cap, .int .i64 (l.length : Int), .slice (some ⟨gs, 0, none⟩) l.length l.length, Value.agg #[.slice ao l.length cap, .int .i64 fr, .slice ra roots.length rc], .pointer (some ⟨P, 2, none⟩), .slice ra roots.length rc, .func (.func 61) #[] #[.pointer (some ⟨W5.heap.size, 0, none⟩), .pointer (some ⟨W5.heap.size + 1, 0, none⟩)], .int .i64 (x : Int), undef, undef, undef, undef, undef, undef, undef, undef, undef, undef, undef, undef, undef, undef, undef, undef, undef, undef, undef, undef, undef, undef, undef, undef, undef, undef, undef, undef, undef, undef, undef, undef, undef, undef, undef, undef], defers := [] })
    ?assign ?body ?done ?left
  case init =>
    obtain ⟨z1, z2, z3, z4, z5, z6, z7⟩ := H6.out
    refine ⟨below_next z1 h1, fun k o hC => ?_, fun k hk => ?_, rfl⟩
    · have key := HY6.out k o hC
      refine ⟨(h1.block _ (blk_lt key)).trans key, fun h => ?_⟩
      have hk : k < W5.heap.size := by
        rcases hC with ⟨rfl, _⟩ | ⟨rfl, _⟩ | ⟨rfl, _⟩ | ⟨rfl, _⟩ | ⟨rfl, _⟩ | ⟨rfl, _⟩ <;> omega
      omega
    · have := h1.size
      omega
  case assign =>
    intro l' x V K hK
    simp only [encN]
    have HK : Hid _ := hK
    clear hK
    gi_wp2_with fail
    exact HK.out _ rfl
  case body =>
    rintro l' A' pre x a' V hI rfl _ hPf
    have hxm : x ∈ allP l roots := hPf.subset (by simp)
    have hx := HAP.out.2 x hxm
    have hpl : pre.length + 1 ≤ l.length := by
      have h1 := hPf.length_le
      have h2 := HAP.out.1
      simp only [List.length_append, List.length_singleton] at h1
      omega
    obtain ⟨k0, n0⟩ := hI.has _ _ (.inl ⟨rfl, rfl⟩)
    obtain ⟨k1, n1⟩ := hI.has _ _ (.inr (.inl ⟨rfl, rfl⟩))
    obtain ⟨k2, n2⟩ := hI.has _ _ (.inr (.inr (.inl ⟨rfl, rfl⟩)))
    obtain ⟨k3, n3⟩ := hI.has _ _ (.inr (.inr (.inr (.inl ⟨rfl, rfl⟩))))
    obtain ⟨k4, n4⟩ := hI.has _ _ (.inr (.inr (.inr (.inr (.inl ⟨rfl, rfl⟩)))))
    obtain ⟨k5, n5⟩ := hI.has _ _ (.inr (.inr (.inr (.inr (.inr ⟨rfl, rfl⟩)))))
    obtain ⟨c, hc⟩ : ∃ c, szAll (Kf l) most (fun _ => 0) pre = some c := Option.isSome_iff_exists.1 hI.pp
    have hcF : szF l most pre = c := by unfold szF; rw [hc]; rfl
    rw [hcF] at k3
    have hcm : ∀ i, c i ≤ most := szAll_le hm1 hc (fun _ => Nat.zero_le _)
    have c0 : V.cell? ⟨P, 0, none⟩ = some (.slice ao l.length cap) := by rw [Lib.cell_of_heap k0]; rfl
    have c1 : V.cell? ⟨P + 1, 0, none⟩ = some (.int .i64 (most : Int)) := by rw [Lib.cell_of_heap k1]; rfl
    have c2 : V.cell? ⟨P + 1 + 1, 0, none⟩ = some (.bool false) := by rw [Lib.cell_of_heap k2]; rfl
    have c4 : V.cell? ⟨wm.heap.size, 0, none⟩ = some (.slice (some ⟨gs, 0, none⟩) l.length l.length) := by rw [Lib.cell_of_heap k4]; rfl
    have c5 : V.cell? ⟨wm.heap.size + 1, 0, none⟩ = some (.int .i64 (pre.length : Int)) := by rw [Lib.cell_of_heap k5]; rfl
    have f2 : V.frozen? ⟨P + 1 + 1, 0, none⟩ = false := Lib.frozen_of_heap k2 _
    have f3 : V.frozen? ⟨gs, x, none⟩ = false := Lib.frozen_of_heap k3 _
    have f5 : V.frozen? ⟨wm.heap.size + 1, 0, none⟩ = false := Lib.frozen_of_heap k5 _
    have c3x := rowO_at k3 hx
    have HC3 : Hid (∀ y, y < l.length → V.cell? ⟨gs, y, none⟩ = some (.int .i64 (c y : Int))) := fun y hy => rowO_at k3 hy
    obtain ⟨b, off, ka, kc, gv, rfl, hb, hrow, _, hks, _⟩ := (HS.out V hI.bel).at (Below.refl _ _) hx
    have hsx : l[x]? = some l[x] := List.getElem?_eq_getElem hx
    obtain ⟨hk0, hk1⟩ := HKA.out l[x] (List.getElem_mem hx)
    have hKf := Kf_some hsx
    have e7 := hrow.2.1
    have HKI : Hid (∀ y ∈ l[x].kids, isSl l.length y = true) := hk0
    -- what follows of the sum
    have HNO : Hid (szK c most 1 (Kf l x) = none → treesB l roots most = false) := fun h => by
      have h1 : szAll (Kf l) most (fun _ => 0) (pre ++ [x]) = none := by rw [szAll_snoc, hc]; simp only [Option.bind_some]; rw [h]
      unfold treesB
      rw [szAll_pre_none h1 hPf]; rfl
    have HYES : Hid (∀ s, szK c most 1 (Kf l x) = some s → szAll (Kf l) most (fun _ => 0) (pre ++ [x]) = some (fun i => if i = x then s else c i)) := fun s h => by
      rw [szAll_snoc, hc]; simp only [Option.bind_some]; rw [h]
    rw [hKf] at HNO HYES
    generalize l[x].kids = ks at *
    have HKK : Hid (∀ W', W' = V → SlI ks gv W') := fun W' e => by rw [e]; exact hks
    obtain ⟨ga, gc, rfl, _⟩ := hks
    have HI : Hid (XI w (PpT l most) (CT l most #[.slice (some ⟨b, off, none⟩) l.length cap, .int .i64 fr, .slice ra roots.length rc] P gs wm.heap.size (wm.heap.size + 1)) (fun k => A' k ∨ k = w6.heap.size ∨ k = w6.heap.size + 1) pre V) := hI
    have HLEFT : Hid (treesB l roots most = false → XL w (treesB l roots most = false) (fun k o => k = P + 2 ∧ o = Obj.cells #[.bool false] 4) (fun k => A' k ∨ k = w6.heap.size ∨ k = w6.heap.size + 1) (V.setCell ⟨P + 1 + 1, 0, none⟩ (.bool false)) ∧ But (fun k => ¬ (A' k ∨ k = w6.heap.size ∨ k = w6.heap.size + 1)) V (V.setCell ⟨P + 1 + 1, 0, none⟩ (.bool false))) := fun hT => by
      have B : But (fun k => k = P + 2) V (V.setCell ⟨P + 1 + 1, 0, none⟩ (.bool false)) := (But.refl _ _).setCell _ _ (.inr rfl)
      refine ⟨⟨HI.out.bel.trans (B.below HI.out.bel.size (fun k hk => by have := H6.out; omega)), ?_, fun k hk => ?_, hT⟩, B.mono (fun k _ h h2 => n2 (by rw [← h]; exact h2))⟩
      · rintro k o ⟨rfl, rfl⟩
        exact ⟨by simpa using blk_set (o := 0) k2 (.bool false), n2⟩
      · have := HI.out.low k hk
        have := B.size
        omega
    have HDONE : Hid (∀ s : Nat, szK c most 1 (ks.map Int.toNat) = some s → XI w (PpT l most) (CT l most #[.slice (some ⟨b, off, none⟩) l.length cap, .int .i64 fr, .slice ra roots.length rc] P gs wm.heap.size (wm.heap.size + 1)) (fun k => A' k ∨ k = w6.heap.size ∨ k = w6.heap.size + 1) (pre ++ [x]) ((V.setCell ⟨gs, x, none⟩ (.int .i64 (s : Int))).setCell ⟨wm.heap.size + 1, 0, none⟩ (.int .i64 ((pre.length : Int) + 1))) ∧ But (fun k => ¬ (A' k ∨ k = w6.heap.size ∨ k = w6.heap.size + 1)) V ((V.setCell ⟨gs, x, none⟩ (.int .i64 (s : Int))).setCell ⟨wm.heap.size + 1, 0, none⟩ (.int .i64 ((pre.length : Int) + 1)))) := fun s hs => by
      have hA := HYES.out s hs
      have hF : szF l most (pre ++ [x]) = fun i => if i = x then s else c i := by unfold szF; rw [hA]; rfl
      obtain ⟨z1, z2, z3, z4, z5, z6, z7⟩ := H6.out
      have B1 : But (fun k => k = gs) V (V.setCell ⟨gs, x, none⟩ (.int .i64 (s : Int))) := (But.refl _ _).setCell _ _ (.inr rfl)
      have B2 : But (fun k => k = wm.heap.size + 1) (V.setCell ⟨gs, x, none⟩ (.int .i64 (s : Int))) ((V.setCell ⟨gs, x, none⟩ (.int .i64 (s : Int))).setCell ⟨wm.heap.size + 1, 0, none⟩ (.int .i64 ((pre.length : Int) + 1))) := (But.refl _ _).setCell _ _ (.inr rfl)
      have B : But (fun k => k = gs ∨ k = wm.heap.size + 1) V ((V.setCell ⟨gs, x, none⟩ (.int .i64 (s : Int))).setCell ⟨wm.heap.size + 1, 0, none⟩ (.int .i64 ((pre.length : Int) + 1))) := (B1.mono (fun k _ h => .inl h)).trans (B2.mono (fun k _ h => .inr h))
      refine ⟨⟨HI.out.bel.trans (B.below HI.out.bel.size (fun k hk => by omega)), ?_, fun k hk => ?_, by unfold PpT; rw [hA]; rfl⟩, B.mono (fun k _ h h2 => ?_)⟩
      · rintro k o (⟨rfl, rfl⟩ | ⟨rfl, rfl⟩ | ⟨rfl, rfl⟩ | ⟨rfl, rfl⟩ | ⟨rfl, rfl⟩ | ⟨rfl, rfl⟩)
        · exact ⟨but_blk B k0 (by omega), n0⟩
        · exact ⟨but_blk B k1 (by omega), n1⟩
        · exact ⟨but_blk B k2 (by omega), n2⟩
        · rw [hF]
          exact ⟨but_blk B2 (rowO_set k3 x s) (by omega), n3⟩
        · exact ⟨but_blk B k4 (by omega), n4⟩
        · refine ⟨?_, n5⟩
          have := blk_set (o := 0) (but_blk B1 k5 (by omega)) (.int .i64 ((pre.length : Int) + 1))
          simpa using this
      · have := HI.out.low k hk
        have := B.size
        omega
      · rcases h with rfl | rfl
        · exact n3 h2
        · exact n5 h2
    have hw5 : IntKind.i64.wrap ((pre.length : Int) + 1) = (pre.length : Int) + 1 := IntWalk.i64_in _ (by omega)
    have hcmx := hcm x
    have HCM : Hid (∀ i, c i ≤ most) := hcm
    have hg5 : gs ≠ wm.heap.size + 1 := by have := H6.out; omega
    have hg5' : wm.heap.size + 1 ≠ gs := by have := H6.out; omega
    obtain ⟨pl, hpl'⟩ : ∃ pl : Int, (pre.length : Int) = pl := ⟨_, rfl⟩
    rw [hpl'] at c5 hw5 HDONE
    clear hI hPf hxm k0 k1 k2 k3 k4 k5 n0 n1 n2 n3 n4 n5 hc hcF hcm hrow hsx hk0 hKf HYES hpl hpl' hcmx
    gi_wp2
    gi_loopw [8, 27] (fun sv jv wr => ∃ (j s : Nat), jv = .int .i64 j ∧ sv = .int .i64 s ∧ j ≤ ks.length ∧ wr = V ∧ Hid (szK c most 1 ((ks.map Int.toNat).take j) = some s) ∧ s ≤ most) (fun _ jv _ => ks.length - (intOf jv).toNat)
    case atStart => exact ⟨0, 1, rfl, rfl, Nat.zero_le _, rfl, by show _ = _; simp [szK], hm1⟩
    case round =>
    obtain ⟨j, s, rfl, rfl, hj, rfl, HF, hsm⟩ := hrel
    obtain ⟨_, _, e0', hkr, _⟩ := HKK.out wr rfl
    simp only [Value.slice.injEq] at e0'
    obtain ⟨rfl, -, rfl⟩ := e0'
    by_cases hlt : j < ks.length
    · obtain ⟨b3, o3, rfl, hb3, p3⟩ := hkr.at (Below.refl _ _) hlt
      have hsl := HKI.out ks[j] (List.getElem_mem hlt)
      have htk : (ks.map Int.toNat).take (j + 1) = (ks.map Int.toNat).take j ++ [ks[j].toNat] := by
        rw [List.take_succ_eq_append_getElem (by simpa using hlt)]; simp
      have hall : ks.map Int.toNat = (ks.map Int.toNat).take (j + 1) ++ (ks.map Int.toNat).drop (j + 1) := (List.take_append_drop _ _).symm
      simp only [encI] at p3
      generalize ks[j] = y at *
      obtain ⟨y, rfl, hy⟩ := isSl_in hsl
      simp only [Int.toNat_natCast] at htk
      have hstep : szK c most 1 ((ks.map Int.toNat).take (j + 1)) = szK c most s [y] := by rw [htk, szK_app, HF.out]; rfl
      have HST : Hid (szK c most 1 ((ks.map Int.toNat).take (j + 1)) = szK c most s [y]) := hstep
      have HNN : Hid (szK c most s [y] = none → treesB l roots most = false) := fun h => HNO.out (by rw [hall, szK_app, HST.out, h]; rfl)
      have c3y := HC3.out y hy
      have hcy := HCM.out y
      clear hstep htk hall hkr hsl HF
      by_cases hz : c y = 0
      · have d1 : ((c y : Int) == 0) = true := by rw [hz]; rfl
        obtain ⟨cy, hcy2⟩ : ∃ cy : Int, (c y : Int) = cy := ⟨_, rfl⟩
        have HE := HLEFT.out (HNN.out (by unfold szK; rw [if_pos hz]))
        rw [hcy2] at c3y d1
        have HE' : Hid _ := HE
        clear HST HNN HLEFT HDONE hz HE hcy hcy2
        gi_wp2
        have HE2 := HE'.out
        simp only [not_or] at HE2
        exact HE2
      · have d1 : ((c y : Int) == 0) = false := by simpa using hz
        have hw6 : IntKind.i64.wrap ((s : Int) + (c y : Int)) = (s : Int) + (c y : Int) := IntWalk.i64_in _ (by omega)
        by_cases hm : most < s + c y
        · have d2 : decide ((s : Int) + (c y : Int) > (most : Int)) = true := decide_eq_true (by omega)
          have HE := HLEFT.out (HNN.out (by unfold szK; rw [if_neg hz, if_pos hm]))
          have HE' : Hid _ := HE
          clear HST HNN HLEFT HDONE hz HE hcy hm
          gi_wp2
          have HE2 := HE'.out
          simp only [not_or] at HE2
          exact HE2
        · have d2 : decide ((s : Int) + (c y : Int) > (most : Int)) = false := decide_eq_false (by omega)
          have HS2 : Hid (szK c most 1 ((ks.map Int.toNat).take (j + 1)) = some (s + c y)) := by rw [HST.out]; show _ = _; unfold szK; rw [if_neg hz, if_neg hm]; rfl
          have hm' : s + c y ≤ most := by omega
          clear HST HNN HLEFT HDONE hz hcy
          gi_wp2
          exact ⟨⟨j + 1, s + c y, by go_num, by simp, by omega, trivial, HS2, hm'⟩, by simp [intOf]; omega⟩
    · have hnl : ¬ (j : Int) < ks.length := by omega
      have hSS : szK c most 1 (ks.map Int.toNat) = some s := by
        have := HF.out
        rwa [List.take_of_length_le (by simp; omega)] at this
      have HE := HDONE.out s hSS
      have HE' : Hid _ := HE
      clear HF HDONE HLEFT HNO HE hSS
      gi_wp2
      have HE2 := HE'.out
      simp only [not_or] at HE2
      exact HE2
  case done =>
    intro xs V hS hI hd
    obtain ⟨k0, n0⟩ := hI.has _ _ (.inl ⟨rfl, rfl⟩)
    obtain ⟨k2, n2⟩ := hI.has _ _ (.inr (.inr (.inl ⟨rfl, rfl⟩)))
    obtain ⟨k5, n5⟩ := hI.has _ _ (.inr (.inr (.inr (.inr (.inr ⟨rfl, rfl⟩)))))
    have HTV : Hid (treesB l roots most = decide (xs.length = liveN l)) := by
      have := hI.pp
      unfold PpT at this
      rw [hS] at this
      show _ = _
      unfold treesB
      rw [this, hS]; simp
    have hxl : xs.length ≤ l.length := by rw [hS]; exact HAP.out.1
    have HBV : Hid (Below w.heap.size w V) := hI.bel
    have HLC := HLV.out V.drew hI.bel.drew
    have hS0 : (V.drew.cell? ⟨wm.heap.size + 1, 0, none⟩ = some (.int .i64 (xs.length : Int)) ∧ V.drew.cell? ⟨P, 0, none⟩ = some (.slice ao l.length cap) ∧ V.drew.cell? ⟨P, 1, none⟩ = some (.int .i64 fr) ∧ V.drew.cell? ⟨P, 2, none⟩ = some (.slice ra roots.length rc)) := by
      refine ⟨?_, ?_, ?_, ?_⟩
      · show V.cell? _ = _; rw [Lib.cell_of_heap k5]; rfl
      · show V.cell? _ = _; rw [Lib.cell_of_heap k0]; rfl
      · show V.cell? _ = _; rw [Lib.cell_of_heap k0]; rfl
      · show V.cell? _ = _; rw [Lib.cell_of_heap k0]; rfl
    have HS1 : Hid (∀ W, Below V.drew.heap.size V.drew W → (W.cell? ⟨wm.heap.size + 1, 0, none⟩ = some (.int .i64 (xs.length : Int)) ∧ W.cell? ⟨P, 0, none⟩ = some (.slice ao l.length cap) ∧ W.cell? ⟨P, 1, none⟩ = some (.int .i64 fr) ∧ W.cell? ⟨P, 2, none⟩ = some (.slice ra roots.length rc))) := fun W hb => ⟨(hb.cell (p := ⟨wm.heap.size + 1, 0, none⟩) (World.block_lt_of_cell? _ _ hS0.1)).trans hS0.1, (hb.cell (p := ⟨P, 0, none⟩) (World.block_lt_of_cell? _ _ hS0.2.1)).trans hS0.2.1, (hb.cell (p := ⟨P, 1, none⟩) (World.block_lt_of_cell? _ _ hS0.2.2.1)).trans hS0.2.2.1, (hb.cell (p := ⟨P, 2, none⟩) (World.block_lt_of_cell? _ _ hS0.2.2.2)).trans hS0.2.2.2⟩
    have HK2 : Hid (∀ W, Below V.drew.heap.size V.drew W → W.heap[P + 1 + 1]? = some (Obj.cells #[.bool false] 4) ∧ W.heap[w6.heap.size]? = some (.deferred (some []))) := fun W hb => ⟨(hb.block _ (blk_lt k2)).trans k2, (hb.block _ (blk_lt (W := V) hd)).trans hd⟩
    generalize liveN l = lv at *
    obtain ⟨xl, hxl2⟩ : ∃ xl, xs.length = xl := ⟨_, rfl⟩
    rw [hxl2] at hS0 HS1 HTV hxl
    obtain ⟨BB, HBB⟩ : ∃ BB : Bool, Hid (BB = decide (xl = lv) ∧ ((xl : Int) == (lv : Int)) = BB) := ⟨decide (xl = lv), rfl, by rw [Bool.eq_iff_iff]; simp; omega⟩
    have hbb := HBB.out.2
    clear hS hI k0 k2 k5 n0 n2 n5 hd hxl2
    gi_wp2
    refine wpIn_wide.2 ?_
    refine wp_region_noPanic ?_
    refine wp_region_L (fun W => W.cell? ⟨wm.heap.size + 1, 0, none⟩ = some (.int .i64 (xl : Int)) ∧ W.cell? ⟨P, 0, none⟩ = some (.slice ao l.length cap) ∧ W.cell? ⟨P, 1, none⟩ = some (.int .i64 fr) ∧ W.cell? ⟨P, 2, none⟩ = some (.slice ra roots.length rc)) 4 (by kernel_rfl) 5 rfl ?_
    refine wpAnyL_take' (i := 0) (v := ?_) (oi := { dst := some 52, op := Op.load 3 (Operand.tmp 6), type := 3, pos := "fit.go:114", after := #[], guard := none }) rfl (by kernel_rfl) (by kernel_rfl) (by kernel_rfl) (by kernel_rfl) rfl (fun _ _ _ h => h) (Or.inl ⟨by rfl, ?_⟩) hS0 ?_
    rotate_left
    · intro W hSW
      go_simp
      try with_reducible rfl
    simp only [Act.put, List.setIfInBounds_toArray, List.set_cons_zero, List.set_cons_succ]
    refine wpAnyL_take' (i := 1) (v := ?_) (oi := { dst := some 53, op := Op.load 25 (Operand.tmp 2), type := 25, pos := "fit.go:114", after := #[], guard := none }) rfl (by kernel_rfl) (by kernel_rfl) (by kernel_rfl) (by kernel_rfl) rfl (fun _ _ _ h => h) (Or.inl ⟨by rfl, ?_⟩) hS0 ?_
    rotate_left
    · intro W hSW
      go_simp
      try with_reducible rfl
    simp only [Act.put, List.setIfInBounds_toArray, List.set_cons_zero, List.set_cons_succ]
    refine wpAnyL_one' (i := 2) (o := { dst := some 54, op := Op.call { callee := Callee.value (Operand.func 19), args := #[Operand.tmp 53], argTypes := #[25] }, type := 3, pos := "fit.go:114", after := #[{ on := 1, ground := Ground.data }], guard := none }) (by kernel_rfl) rfl rfl (fun K hK => ?_)
    go_simp
    refine (HLC).mono ?_
    rintro e V1 ⟨rfl, hb1⟩
    refine hK.out _ _ (fun _ => (HS1.out V1 hb1)) ?_
    clear hK
    have k2 := (HK2.out V1 hb1).1
    have c2 : V1.cell? ⟨P + 1 + 1, 0, none⟩ = some (.bool false) := by rw [Lib.cell_of_heap k2]; rfl
    have f2 : V1.frozen? ⟨P + 1 + 1, 0, none⟩ = false := Lib.frozen_of_heap k2 _
    refine wpAnyL_take' (i := 3) (v := ?_) (oi := { dst := some 55, op := Op.binOp BinOp.eql 3 (Operand.tmp 52) (Operand.tmp 54) 3, type := 4, pos := "fit.go:114", after := #[{ on := 0, ground := Ground.data }, { on := 2, ground := Ground.data }], guard := none }) rfl (by kernel_rfl) (by kernel_rfl) (by kernel_rfl) (by kernel_rfl) rfl (fun _ _ _ h => h) (Or.inl ⟨by rfl, ?_⟩) (HS1.out V1 hb1) ?_
    rotate_left
    · intro W hSW
      go_simp
      try with_reducible rfl
    simp only [Act.put, List.setIfInBounds_toArray, List.set_cons_zero, List.set_cons_succ]
    refine wpAnyL_one' (i := 4) (o := { dst := none, op := Op.store 4 (Operand.tmp 4) (Operand.tmp 55), type := 0, pos := "fit.go:114", after := #[{ on := 3, ground := Ground.data }, { on := 2, ground := Ground.chain }, { on := 0, ground := Ground.phase }, { on := 1, ground := Ground.phase }, { on := 2, ground := Ground.phase }, { on := 3, ground := Ground.phase }], guard := none }) (by kernel_rfl) rfl rfl (fun K hK => ?_)
    go_simp
    refine hK.out _ _ (fun h => absurd h (by decide)) ?_
    clear hK
    refine wpAnyL_done (by kernel_rfl) ?_ _
    have HEND : Hid (Below w.heap.size w (V1.setCell ⟨P + 1 + 1, 0, none⟩ (.bool BB)) ∧ (V1.setCell ⟨P + 1 + 1, 0, none⟩ (.bool BB)).heap[P + 1 + 1]? = some (Obj.cells #[.bool BB] 4) ∧ (V1.setCell ⟨P + 1 + 1, 0, none⟩ (.bool BB)).heap[w6.heap.size]? = some (.deferred (some []))) := by
      have B : But (fun k => k = P + 2) V1 (V1.setCell ⟨P + 1 + 1, 0, none⟩ (.bool BB)) := (But.refl _ _).setCell _ _ (.inr rfl)
      have hb := HBV.out.trans ((Below.refl _ _).drew.trans (hb1.mono (by exact HBV.out.size)))
      refine ⟨hb.trans (B.below hb.size (fun k hk => by have := H6.out; omega)), by simpa using blk_set (o := 0) k2 (.bool BB), but_blk B (HK2.out V1 hb1).2 (by have := H6.out; omega)⟩
    clear c2 f2 hS0 HLC
    refine NoPanic.normal ?_
    gi_wp2
    rw [HTV.out, ← HBB.out.1]
    exact leaves_marksC (Rw := fun W => Below w.heap.size w W ∧ W.cell? ⟨P + 1 + 1, 0, none⟩ = some (.bool BB)) (v := .bool BB) (fun W h => results_cell1 rfl _ _ _ rfl (by simp [go_sem, loadVar, h.2])) (fun q => w.heap.size ≤ q ∧ q ≠ P + 1 + 1) (fun W q h1 h2 h3 => ⟨h3.1.trans ((But.putObj W q (.deferred none)).below h3.1.size (fun k hk => by omega)), ((But.putObj W q (.deferred none)).cell (p := ⟨P + 1 + 1, 0, none⟩) (World.block_lt_of_cell? _ _ h3.2) (fun e => h1.2 e.symm)).trans h3.2⟩) (fun W h => ⟨rfl, h.1⟩) [w6.heap.size] _ ⟨by simp, fun q hq => by simp at hq; subst hq; exact HEND.out.2.2⟩ (fun q hq => by simp at hq; subst hq; have := H6.out; omega) ⟨HEND.out.1, by rw [Lib.cell_of_heap HEND.out.2.1]; rfl⟩
  case left =>
    intro V hL hd
    have hT := hL.pp
    obtain ⟨k2, n2⟩ := hL.has _ _ ⟨rfl, rfl⟩
    have HEND : Hid (Below w.heap.size w V ∧ V.heap[P + 1 + 1]? = some (Obj.cells #[.bool false] 4) ∧ V.heap[w6.heap.size]? = some (.deferred (some []))) := ⟨hL.bel, k2, hd⟩
    clear hL k2 n2 hd
    gi_wp2
    rw [hT]
    exact leaves_marksC (Rw := fun W => Below w.heap.size w W ∧ W.cell? ⟨P + 1 + 1, 0, none⟩ = some (.bool false)) (v := .bool false) (fun W h => results_cell1 rfl _ _ _ rfl (by simp [go_sem, loadVar, h.2])) (fun q => w.heap.size ≤ q ∧ q ≠ P + 1 + 1) (fun W q h1 h2 h3 => ⟨h3.1.trans ((But.putObj W q (.deferred none)).below h3.1.size (fun k hk => by omega)), ((But.putObj W q (.deferred none)).cell (p := ⟨P + 1 + 1, 0, none⟩) (World.block_lt_of_cell? _ _ h3.2) (fun e => h1.2 e.symm)).trans h3.2⟩) (fun W h => ⟨rfl, h.1⟩) [w6.heap.size] _ ⟨by simp, fun q hq => by simp at hq; subst hq; exact HEND.out.2.2⟩ (fun q hq => by simp at hq; subst hq; have := H6.out; omega) ⟨HEND.out.1, by rw [Lib.cell_of_heap HEND.out.2.1]; rfl⟩
end Go.Proofs.Ytoocafcagelbgaa
