/- Stacks: the program's Paths. -/
import Derived.Test.YtjpbfckdiojghaaPPaths0
namespace Go.Proofs.Ytjpbfckdiojghaa
open Go.RowKit Go.Shelf
attribute [local go_sem] Oper.semAt_some

/-- The rows back, and what is told of them. -/
def rowsG (l : List Gn) (node n : Int) : List (List Int) := (tailsN l n.toNat node).map (node :: ·)
def pathsF (l : List Gn) (node n : Int) : List (List Int) × Int := if leadB l node n = true then (if (rowsG l node n).length ≤ 4000 then (rowsG l node n, 0) else ([], 15)) else ([], 0)

theorem tails_len (l : List Gn) : ∀ (n : Nat) (k : Int) (t : List Int), t ∈ tailsN l n k → t.length = n
  | 0, k, t, h => by simp [tailsN] at h; simp [h]
  | n + 1, k, t, h => by
    simp only [tailsN, List.mem_flatMap, List.mem_map] at h
    obtain ⟨j, _, r, hr, rfl⟩ := h
    simp [tails_len l n j r hr]
theorem leaves_marksC {F : Fence} {n : Nat} {P : Program} {fn : Func} {tmps : Array Value} {Rw : World → Prop} {R : Ending → World → Prop} {v : Value} (hres : ∀ W, Rw W → (results fn tmps).run P W = .ok v W) (D0 : Nat → Prop)
    (hR : ∀ W d, D0 d → W.heap[d]? = some (.deferred (some [])) → Rw W → Rw (W.putObj d (.deferred none))) (hfin : ∀ W, Rw W → R (.returned v) W) :
    ∀ (Ds : List Nat) (W : World), Mk Ds W → (∀ d ∈ Ds, D0 d) → Rw W → LeavesInM F n P fn tmps R (Ds.map mark) .returning W
  | [], W, _, _, h => ⟨v, hres W h, hfin W h⟩
  | d :: Ds, W, hM, hD, h => by
    have hd := hM.2 d (by simp)
    have hn := List.nodup_cons.1 hM.1
    refine ⟨by simp, .inl ⟨d, _, rfl, run_takeDeferred hd, ?_⟩⟩
    refine leaves_marksC hres D0 hR hfin Ds _ ⟨hn.2, fun e he => ?_⟩ (fun e he => hD e (by simp [he])) (hR W d (hD d (by simp)) hd h)
    exact (World.putObj_heap_other (fun h' => hn.1 (by rw [← h']; exact he))).trans (hM.2 e (by simp [he]))
theorem own_base {W : World} {B B' n k : Nat} {e : TypeId} {v : Value} {xs : List Value} (h : W.ownsRow B e k v n xs) (hB : B' ≤ B) : W.ownsRow B' e k v n xs := by
  refine ⟨h.1, h.2.imp id ?_⟩
  rintro ⟨g, c, cur, h0, h1, h2⟩
  exact ⟨g, c, cur, h0, Nat.le_trans hB h1, h2⟩
theorem run_cell2 {t u : TypeId} {fn : Func} {p q : Tmp} (h : fn.results = #[.cell p t, .cell q u]) (tmps : Array Value) (w : World) {a b : Nat} {x y : Value} (ha : tmps[p]?.getD undef = .pointer (some ⟨a, 0, none⟩)) (hb : tmps[q]?.getD undef = .pointer (some ⟨b, 0, none⟩)) (hx : (loadVar t ⟨a, 0, none⟩).run Try.prog w = .ok x w) (hy : (loadVar u ⟨b, 0, none⟩).run Try.prog w = .ok y w) : (results fn tmps).run Try.prog w = .ok (.tuple #[x, y]) w := results_cell2 h tmps Try.prog w ha hb hx hy

set_option maxRecDepth 100000 in
set_option maxHeartbeats 8000000 in
theorem paths_any (l : List Gn) (v : Value) (node n : Int) (w : World) (hl : SlN l v w) (hf : fitP l) :
    Calls Try.prog 16 #[.agg #[v], .int .i64 node, .int .i64 n] w fun e w' => ∃ v', e = .returned (.tuple #[v', .int .i64 (pathsF l node n).2]) ∧ SlR (pathsF l node n).1 v' w' ∧ Below w.heap.size w w' := by
  have HL : Hid (∀ W, Below w.heap.size w W → SlN l v W) := fun W hb => hl.next hb
  have HFT : Hid (fitP l) := hf
  have hlen := hf.1
  clear hf
  obtain ⟨la, lc, rfl, _⟩ := hl
  have B0 : Below w.heap.size w (((w.alloc (Obj.cells #[.slice la l.length lc] 24)).alloc (Obj.cells #[.slice none 0 0] 39)).alloc (Obj.cells #[.int .i64 0] 40)) := (((Below.refl _ _).alloc (Nat.le_refl _) _).alloc (by simp) _).alloc (by simp; omega) _
  have k0 : (((w.alloc (Obj.cells #[.slice la l.length lc] 24)).alloc (Obj.cells #[.slice none 0 0] 39)).alloc (Obj.cells #[.int .i64 0] 40)).heap[w.heap.size]? = some (Obj.cells #[.slice la l.length lc] 24) := blk_new (blk_new (heap_alloc_new _ _))
  have k1 : (((w.alloc (Obj.cells #[.slice la l.length lc] 24)).alloc (Obj.cells #[.slice none 0 0] 39)).alloc (Obj.cells #[.int .i64 0] 40)).heap[w.heap.size + 1]? = some (Obj.cells #[.slice none 0 0] 39) := blk_new (by simpa using heap_alloc_new (w.alloc (Obj.cells #[.slice la l.length lc] 24)) (Obj.cells #[.slice none 0 0] 39))
  have k2 : (((w.alloc (Obj.cells #[.slice la l.length lc] 24)).alloc (Obj.cells #[.slice none 0 0] 39)).alloc (Obj.cells #[.int .i64 0] 40)).heap[w.heap.size + 1 + 1]? = some (Obj.cells #[.int .i64 0] 40) := by simpa using heap_alloc_new ((w.alloc (Obj.cells #[.slice la l.length lc] 24)).alloc (Obj.cells #[.slice none 0 0] 39)) (Obj.cells #[.int .i64 0] 40)
  have HC := leadsBack_any la l lc node n (((w.alloc (Obj.cells #[.slice la l.length lc] 24)).alloc (Obj.cells #[.slice none 0 0] 39)).alloc (Obj.cells #[.int .i64 0] 40))
  refine (callsIn_wide (n := 70)).1 ?_
  refine callsIn_of_wp_marks Try.func16 rfl trivial ?_ rfl
  simp only [Try.ntmps16, List.size_toArray, List.length_cons, List.length_nil, Nat.reduceAdd, Nat.reduceSub, Array.replicate_succ, Array.replicate_zero, List.push_toArray, List.append_toArray, List.nil_append, List.cons_append]
  gi_wp2_with fail
  refine ⟨trivial, (callsIn_wide.2 HC).mono ?_⟩
  rintro e w1 ⟨rfl, hb1⟩
  clear HC
  generalize (((w.alloc (Obj.cells #[.slice la l.length lc] 24)).alloc (Obj.cells #[.slice none 0 0] 39)).alloc (Obj.cells #[.int .i64 0] 40)) = wa at *
  have j0 := (hb1.block _ (blk_lt k0)).trans k0
  have j1 := (hb1.block _ (blk_lt k1)).trans k1
  have j2 := (hb1.block _ (blk_lt k2)).trans k2
  have hza : w.heap.size + 1 + 1 < wa.heap.size := blk_lt k2
  have B1 : Below w.heap.size w w1 := below_then B0 hb1 B0.size
  have HB1 : Hid (Below w.heap.size w w1) := B1
  have c0 : w1.cell? ⟨w.heap.size, 0, none⟩ = some (.slice la l.length lc) := by rw [Lib.cell_of_heap j0]; rfl
  have c1 : w1.cell? ⟨w.heap.size + 1, 0, none⟩ = some (.slice none 0 0) := by rw [Lib.cell_of_heap j1]; rfl
  have c2 : w1.cell? ⟨w.heap.size + 1 + 1, 0, none⟩ = some (.int .i64 0) := by rw [Lib.cell_of_heap j2]; rfl
  have hza1 : w.heap.size + 1 + 1 < w1.heap.size := Nat.lt_of_lt_of_le hza hb1.size
  have f1 : w1.frozen? ⟨w.heap.size + 1, 0, none⟩ = false := Lib.frozen_of_heap j1 _
  have f2 : w1.frozen? ⟨w.heap.size + 1 + 1, 0, none⟩ = false := Lib.frozen_of_heap j2 _
  clear k0 k1 k2 B0 hb1 hza
  by_cases hg : leadB l node n = true
  case neg =>
    have HP : Hid (pathsF l node n = ([], 0)) := by show _ = _; unfold pathsF; rw [if_neg hg]
    have hg' : leadB l node n = false := by simpa using hg
    have m1 := blk_set (o := 0) j1 (.slice none 0 0)
    have m2 := set_blk (o := 0) (v := .int .i64 0) m1 (show w.heap.size + 1 ≠ w.heap.size + 1 + 1 by omega)
    have m3 := blk_set (o := 0) (set_blk (o := 0) (v := .slice none 0 0) j2 (show w.heap.size + 1 + 1 ≠ w.heap.size + 1 by omega)) (.int .i64 0)
    have z1 : ((w1.setCell ⟨w.heap.size + 1, 0, none⟩ (.slice none 0 0)).setCell ⟨w.heap.size + 1 + 1, 0, none⟩ (.int .i64 0)).cell? ⟨w.heap.size + 1, 0, none⟩ = some (.slice none 0 0) := by rw [Lib.cell_of_heap m2]; rfl
    have z2 : ((w1.setCell ⟨w.heap.size + 1, 0, none⟩ (.slice none 0 0)).setCell ⟨w.heap.size + 1 + 1, 0, none⟩ (.int .i64 0)).cell? ⟨w.heap.size + 1 + 1, 0, none⟩ = some (.int .i64 0) := by rw [Lib.cell_of_heap m3]; rfl
    have HB : Hid (Below w.heap.size w ((w1.setCell ⟨w.heap.size + 1, 0, none⟩ (.slice none 0 0)).setCell ⟨w.heap.size + 1 + 1, 0, none⟩ (.int .i64 0))) := (HB1.out.setCell (by simp) _).setCell (by simp; omega) _
    rw [hg']
    clear m1 m2 m3 j0 j1 j2 hza1 c0
    gi_wp2
    refine ⟨_, results_cell2 (x := .slice none 0 0) (y := .int .i64 0) rfl _ _ _ rfl rfl (by go_simp) (by go_simp), ?_⟩
    rw [HP.out]
    exact ⟨_, rfl, ⟨none, 0, rfl, fun i r h => by simp at h, fun _ => rfl, Nat.le_refl _⟩, HB.out⟩
  have hg2 : 0 ≤ node ∧ node < l.length ∧ 0 ≤ n ∧ n ≤ 64 := by unfold leadB at hg; simpa using hg
  obtain ⟨m, rfl⟩ : ∃ m : Nat, n = m := ⟨n.toNat, by omega⟩
  obtain ⟨nk, rfl⟩ : ∃ nk : Nat, node = nk := ⟨node.toNat, by omega⟩
  have hm64 : m ≤ 64 := by omega
  have hnk : nk < l.length := by omega
  have HP : Hid (pathsF l nk m = if (rowsG l nk m).length ≤ 4000 then (rowsG l nk m, 0) else ([], 15)) := by show _ = _; unfold pathsF; rw [if_pos hg]
  have BT : Below w1.heap.size w1 (w1.alloc (Obj.cells #[.slice none 0 0] 39)) := below_box _ _ _
  have BTw := below_then B1 BT B1.size
  have HC2 := trailOf_any l (.slice la l.length lc) m (w1.alloc (Obj.cells #[.slice none 0 0] 39)) (HL.out _ BTw) HFT.out hm64
  have c0t : (w1.alloc (Obj.cells #[.slice none 0 0] 39)).cell? ⟨w.heap.size, 0, none⟩ = some (.slice la l.length lc) := cell_new c0
  have jt : (w1.alloc (Obj.cells #[.slice none 0 0] 39)).heap[w1.heap.size]? = some (Obj.cells #[.slice none 0 0] 39) := heap_alloc_new _ _
  have i1 := (BT.block _ (blk_lt j1)).trans j1
  have i2 := (BT.block _ (blk_lt j2)).trans j2
  rw [hg]
  clear c0 c1 c2 f1 f2 j0 j1 j2 B1
  gi_wp2_with fail
  refine ⟨trivial, (callsIn_wide.2 HC2).mono ?_⟩
  rintro e w3 ⟨fv, F, rfl, hFar, hsF, hfb, hb3⟩
  clear HC2
  generalize w1.alloc (Obj.cells #[.slice none 0 0] 39) = wt at *
  have kt := (hb3.block _ (blk_lt jt)).trans jt
  have k1 := (hb3.block _ (blk_lt i1)).trans i1
  have k2 := (hb3.block _ (blk_lt i2)).trans i2
  have B3 := below_then BTw hb3 BTw.size
  have hwt : w1.heap.size < wt.heap.size := blk_lt jt
  have h3s := hb3.size
  generalize w1.heap.size = tb at *
  have HSF : Hid (SlI F fv w3) := hsF
  obtain ⟨fa, fc, rfl, _⟩ := hsF
  have HRO := rowsF_any (.slice la l.length lc) (.slice fa F.length fc) (.slice (some ⟨w3.heap.size, 0, none⟩) 1 1) m ⟨_, _, _, rfl⟩ ⟨_, _, _, rfl⟩ ⟨_, _, _, rfl⟩ (w3.alloc (Obj.cells #[.int .i64 nk] 3))
  clear c0t jt i1 i2 BTw
  gi_wp2_with fail
  refine ⟨trivial, (callsIn_wide.2 HRO).mono ?_⟩
  rintro e w5 ⟨rfl, hL5, hb5, hs5⟩
  clear HRO
  have hz4 : (w3.alloc (Obj.cells #[.int .i64 nk] 3)).heap.size = w3.heap.size + 1 := by simp
  have B4 : Below w3.heap.size w3 (w3.alloc (Obj.cells #[.int .i64 nk] 3)) := below_box _ _ _
  have o4 : (w3.alloc (Obj.cells #[.int .i64 nk] 3)).ownsRow 0 3 1 (.slice (some ⟨w3.heap.size, 0, none⟩) 1 1) 1 [.int .i64 nk] := ⟨rfl, .inr ⟨w3.heap.size, 1, #[.int .i64 nk], rfl, Nat.zero_le _, heap_alloc_new _ _, Nat.le_refl _, by unfold maxLen; omega, rfl, rfl⟩⟩
  have o5 := ownsRow_below4 o4 hb5
  rw [hz4] at hL5 hs5 ⊢
  have B5 : Below w3.heap.size w3 w5 := below_then B4 hb5 B4.size
  have hFl : F.length = l.length := hFar.len
  have hFne : F ≠ [] := fun e => by rw [e] at hFl; simp at hFl; omega
  have HFB : Hid (∀ k, (Value.slice fa F.length fc).ownBlock = some k → k < w3.heap.size ∧ tb < k) := fun k hk => ⟨HSF.out.blk hFne k hk, by have := hfb k hk; omega⟩
  obtain ⟨AI, hAI⟩ : ∃ AI : Nat → Prop, AI = (fun q => w3.heap.size ≤ q ∧ q < w3.heap.size + 4) := ⟨_, rfl⟩
  have HAI : Hid (∀ q, AI q ↔ (w3.heap.size ≤ q ∧ q < w3.heap.size + 4)) := fun q => by rw [hAI]
  have HL5 : Hid (Lvl (w3.heap.size + 1 + 1 + 1) (w3.heap.size + 1 + 1) (w3.heap.size + 1) m (.slice (some ⟨w3.heap.size, 0, none⟩) 1 1) (.slice la l.length lc) (.slice fa F.length fc) w5) := hL5
  have HGV : Hid (∀ V, Below w5.heap.size w5 V → GivesT 69 Try.prog 56 #[.pointer (some ⟨w3.heap.size + 1 + 1 + 1, 0, none⟩), .pointer (some ⟨w3.heap.size + 1 + 1, 0, none⟩), .pointer (some ⟨w3.heap.size + 1, 0, none⟩)] encRv (SR l m [(nk : Int)] nk (.slice (some ⟨w3.heap.size, 0, none⟩) 1 1)) OkRv (PfR l m [(nk : Int)] nk) AI (FxR w F (.slice fa F.length fc)) V) := fun V hV =>
    rows_all m w l F (.slice la l.length lc) (.slice fa F.length fc) (HL.out w (Below.refl _ _)) HFT.out hFar hm64 m 69 (Nat.le_refl _) (by omega) [(nk : Int)] (.slice (some ⟨w3.heap.size, 0, none⟩) 1 1) nk _ _ _ AI V (HL5.out.next hV) ((HAI.out _).2 (by omega)) ((HAI.out _).2 (by omega)) ((HAI.out _).2 (by omega)) (ownsRow_below4 o5 hV) (fun q hq => by
      have : w3.heap.size = q := by simpa [Value.ownBlock] using hq
      exact ⟨(HAI.out _).2 (by omega), by omega⟩) rfl hnk (by simp; omega) (fun y hy => by simp at hy; subst hy; unfold i64B; omega)
  have HB3 : Hid (Below w.heap.size w w3) := B3
  have HK : Hid (w3.heap[w.heap.size + 1]? = some (Obj.cells #[.slice none 0 0] 39) ∧ w3.heap[w.heap.size + 1 + 1]? = some (Obj.cells #[.int .i64 0] 40) ∧ w3.heap[tb]? = some (Obj.cells #[.slice none 0 0] 39)) := ⟨k1, k2, kt⟩
  have HALL : Hid (rowsG l nk m = (tailsN l m nk).map ([(nk : Int)] ++ ·)) := by show _ = _; unfold rowsG; simp
  have HS5 : Hid (w5.heap.size = w3.heap.size + 4) := by show _ = _; omega
  have HO5 : Hid (w5.ownsRow 0 3 1 (.slice (some ⟨w3.heap.size, 0, none⟩) 1 1) 1 [.int .i64 nk]) := o5
  clear k1 k2 kt o4 hL5 hfb hFar BT hb3 hb5 B3 B4 hAI HB1 hFl hz4 hs5 o5
  gi_wp2_with fail
  refine wpIn_range_T (α := Rv) (by omega) (gf := 56) (lb := #[.pointer (some ⟨w3.heap.size + 1 + 1 + 1, 0, none⟩), .pointer (some ⟨w3.heap.size + 1 + 1, 0, none⟩), .pointer (some ⟨w3.heap.size + 1, 0, none⟩)]) rfl (enters_of Try.func56 (by kernel_rfl) rfl) (encs := encRv) (S := SR l m [(nk : Int)] nk (.slice (some ⟨w3.heap.size, 0, none⟩) 1 1)) (Ok := OkRv) (Pf := PfR l m [(nk : Int)] nk) (A0 := AI) (Fx := FxR w F (.slice fa F.length fc)) (fun _ => rfl) (fun q hq => by have := (HAI.out q).1 hq; have := HS5.out; omega) HGV.out (fun A x V V' q h1 h2 h3 => h1.but h2 h3) (fun ys V V' h1 h2 => ?SS)
    (PInv w F (.slice fa F.length fc) (w.heap.size + 1) (w.heap.size + 1 + 1) tb ((tailsN l m nk).map ([(nk : Int)] ++ ·))) (PStop w (w.heap.size + 1) (w.heap.size + 1 + 1) ((tailsN l m nk).map ([(nk : Int)] ++ ·))) (PInv.keep w F hFne _ _ _ tb _) (fun V h1 h2 => ?init)
    (fun x a' => a' = { tmps := #[.agg #[.slice la l.length lc], .int .i64 nk, .int .i64 m, .pointer (some ⟨w.heap.size, 0, none⟩), undef, undef, .pointer (some ⟨w.heap.size + 1, 0, none⟩), .pointer (some ⟨w.heap.size + 1 + 1, 0, none⟩), .pointer (some ⟨tb, 0, none⟩), x.2, .agg #[.slice la l.length lc], .int .i64 nk, .int .i64 m, .bool true, .bool false, .agg #[.slice la l.length lc], .int .i64 m, .agg #[.slice la l.length lc, .slice fa F.length fc], .int .i64 nk, .slice (some ⟨w3.heap.size, 0, none⟩) 1 1, .int .i64 m, .func (.func 56) #[] #[.pointer (some ⟨w3.heap.size + 1 + 1 + 1, 0, none⟩), .pointer (some ⟨w3.heap.size + 1 + 1, 0, none⟩), .pointer (some ⟨w3.heap.size + 1, 0, none⟩)], x.2, undef, undef, undef, undef, undef, undef, undef, undef, undef], defers := [] }) ?assign ?body ?done ?left
  case SS =>
    refine ⟨h1.1, ownsRow_keep h1.2 h2 (fun q hq e => ?_)⟩
    have : w3.heap.size = q := by simpa [Value.ownBlock] using hq
    have := HS5.out
    omega
  case init =>
    have hs5 := HS5.out
    have B5V : Below w3.heap.size w3 V := below_then B5 h1 B5.size
    have hlow := HB3.out.size
    have hN : ∀ q, q < w3.heap.size → ¬ (AI q ∨ q = w5.heap.size ∨ q = w5.heap.size + 1) := fun q hq h => by
      rcases h with h | h | h
      · have := (HAI.out q).1 h; omega
      · omega
      · omega
    refine ⟨below_then HB3.out B5V hlow, HSF.out.next B5V, fun k hk => ⟨hN k (HFB.out k hk).1, by have := (HFB.out k hk).2; omega⟩, (B5V.block _ (blk_lt HK.out.1)).trans HK.out.1, (B5V.block _ (blk_lt HK.out.2.1)).trans HK.out.2.1, ⟨.slice none 0 0, [], (B5V.block _ (blk_lt HK.out.2.2)).trans HK.out.2.2, Told.nil _ _, fun k hk => by simp [Value.ownBlock] at hk, fun v hv => by simp at hv⟩, hN _ (blk_lt HK.out.1), hN _ (blk_lt HK.out.2.1), hN _ (blk_lt HK.out.2.2), fun k hk => ?_, Nat.zero_le _, List.nil_prefix⟩
    rcases hk with h | h | h
    · have := (HAI.out k).1 h; omega
    · omega
    · omega
  case assign =>
    intro l' x V K hK
    simp only [encRv]
    gi_wp2
    rfl
  case body =>
    rintro l' A' pre x a' V hI rfl hOk hPf
    have HIN : Hid (PInv w F (.slice fa F.length fc) (w.heap.size + 1) (w.heap.size + 1 + 1) tb ((tailsN l m nk).map ([(nk : Int)] ++ ·)) (fun q => A' q ∨ q = w5.heap.size ∨ q = w5.heap.size + 1) pre V) := hI
    obtain ⟨tv, vs, ht, hT, hn1, hn2⟩ := hI.told
    have hT1 : V.ownsRow w.heap.size 33 1 tv pre.length vs := by have := hT.1; rwa [List.length_map] at this
    obtain ⟨ta, tc, rfl⟩ := slice_of_own hT1
    have t0 : V.cell? ⟨tb, 0, none⟩ = some (.slice ta pre.length tc) := by rw [Lib.cell_of_heap ht]; rfl
    have htvb : ¬ (Value.slice ta pre.length tc).ownBlock = some tb := fun h => by obtain ⟨cs, e⟩ := own_blk hT1 h ht; simp at e
    have htvr : ¬ (Value.slice ta pre.length tc).ownBlock = some (w.heap.size + 1) := fun h => by obtain ⟨cs, e⟩ := own_blk hT1 h hI.r; simp at e
    have htve : ¬ (Value.slice ta pre.length tc).ownBlock = some (w.heap.size + 1 + 1) := fun h => by obtain ⟨cs, e⟩ := own_blk hT1 h hI.e; simp at e
    have HT : Hid (Told w.heap.size (pre.map Prod.fst) (.slice ta pre.length tc) vs V) := hT
    have HN : Hid ((∀ k, (Value.slice ta pre.length tc).ownBlock = some k → ¬ (A' k ∨ k = w5.heap.size ∨ k = w5.heap.size + 1) ∧ ¬ (Value.slice fa F.length fc).ownBlock = some k) ∧ ∀ v ∈ vs, ∀ k, v.ownBlock = some k → ¬ (A' k ∨ k = w5.heap.size ∨ k = w5.heap.size + 1)) := ⟨hn1, hn2⟩
    have hcnt := hI.cnt
    have c1 : V.cell? ⟨w.heap.size + 1, 0, none⟩ = some (.slice none 0 0) := by rw [Lib.cell_of_heap hI.r]; rfl
    have c2 : V.cell? ⟨w.heap.size + 1 + 1, 0, none⟩ = some (.int .i64 0) := by rw [Lib.cell_of_heap hI.e]; rfl
    have f1 : V.frozen? ⟨w.heap.size + 1, 0, none⟩ = false := Lib.frozen_of_heap hI.r _
    have f2 : V.frozen? ⟨w.heap.size + 1 + 1, 0, none⟩ = false := Lib.frozen_of_heap hI.e _
    have hPfL := hPf.length_le
    by_cases hc : pre.length = 4000
    · have HE : Hid (PStop w (w.heap.size + 1) (w.heap.size + 1 + 1) ((tailsN l m nk).map ([(nk : Int)] ++ ·)) (fun q => A' q ∨ q = w5.heap.size ∨ q = w5.heap.size + 1) ((V.setCell ⟨w.heap.size + 1, 0, none⟩ (.slice none 0 0)).setCell ⟨w.heap.size + 1 + 1, 0, none⟩ (.int .i64 15)) ∧ But (fun q => ¬ (A' q ∨ q = w5.heap.size ∨ q = w5.heap.size + 1)) V ((V.setCell ⟨w.heap.size + 1, 0, none⟩ (.slice none 0 0)).setCell ⟨w.heap.size + 1 + 1, 0, none⟩ (.int .i64 15))) := by
        have m1 := blk_set (o := 0) hI.r (.slice none 0 0)
        have m2 := set_blk (o := 0) (v := .int .i64 15) m1 (show w.heap.size + 1 ≠ w.heap.size + 1 + 1 by omega)
        have m3 := blk_set (o := 0) (set_blk (o := 0) (v := .slice none 0 0) hI.e (show w.heap.size + 1 + 1 ≠ w.heap.size + 1 by omega)) (.int .i64 15)
        refine ⟨⟨(hI.bel.setCell (by simp) _).setCell (by simp; omega) _, by simpa using m2, by simpa using m3, hI.nr, hI.ne, fun k hk => (hI.low k hk).1, ?_⟩, ((But.refl _ _).setCell _ _ (.inr hI.nr)).setCell _ _ (.inr hI.ne)⟩
        simp at hPfL ⊢
        omega
      have e4 : ((pre.length : Int) == 4000) = true := by rw [hc]; rfl
      clear hI hT hT1 hn1 hn2 ht hOk hPf hPfL htvb htvr htve hc hcnt
      gi_wp2
      have HE' := HE.out
      simp only [not_or] at HE'
      exact HE'
    · have e4 : ((pre.length : Int) == 4000) = false := by simp; omega
      have hxl : x.1.length ≤ 1000 := by
        have h1 : x.1 ∈ (pre ++ [x]).map Prod.fst := by simp
        have h2 := hPf.subset h1
        simp only [List.mem_map] at h2
        obtain ⟨t, ht', e⟩ := h2
        rw [← e]
        simp [tails_len l m _ t ht']
        omega
      have HCL : Calls Try.prog 36 #[x.2] V.drew fun e w' => ∃ v', e = .returned v' ∧ w'.ownsRow V.heap.size 3 1 v' x.1.length (x.1.map encI) ∧ Below V.heap.size V w' := (clone_any x.1 x.2 V.drew (hOk.1.next (below_drewN (Below.refl _ _) 1)) hOk.2.2 (by omega)).mono (fun e w' ⟨v', h1, h2, h3⟩ => ⟨v', h1, h2, ⟨h3.os, h3.tape, h3.output, h3.size, h3.block⟩⟩)
      have hwV : w.heap.size ≤ V.heap.size := hI.bel.size
      have HT2 : ∀ V2 : World, Below V.heap.size V V2 → V2.cell? ⟨tb, 0, none⟩ = some (.slice ta pre.length tc) := fun V2 h => (h.cell (p := ⟨tb, 0, none⟩) (blk_lt ht)).trans t0
      have HOK : Hid (∀ y ∈ x.1, i64B y) := by obtain ⟨_, _, _, _, _, _, h⟩ := hOk.1; exact h
      have HPF : Hid (PfR l m [(nk : Int)] nk (pre ++ [x])) := hPf
      clear hI hT hn1 hn2 hOk hPf hPfL c1 c2 f1 f2
      gi_wp2_with fail
      refine wpIn_region_L (fun W => W.cell? ⟨tb, 0, none⟩ = some (.slice ta pre.length tc)) 5 (by kernel_rfl) 6 rfl (by kernel_rfl) (by rintro ⟨_, _, h⟩; rcases h with ⟨h, _⟩ | ⟨h, _⟩ <;> cases h) ?_
      refine wpAnyL_take' (i := 0) (v := ?_) (oi := { dst := some 26, op := Op.load 39 (Operand.tmp 8), type := 39, pos := "gss.go:84", after := #[], guard := none }) rfl (by kernel_rfl) (by kernel_rfl) (by kernel_rfl) (by kernel_rfl) rfl (fun _ _ _ h => h) (Or.inl ⟨by rfl, ?_⟩) (HT2 V.drew (below_drewN (Below.refl _ _) 1)) ?_
      rotate_left
      · intro W hSW
        go_simp
        try with_reducible rfl
      simp only [Act.put, List.setIfInBounds_toArray, List.set_cons_zero, List.set_cons_succ]
      refine wpAnyL_take' (i := 1) (v := ?_) (oi := { dst := some 27, op := Op.move (Operand.tmp 9), type := 33, pos := "gss.go:84", after := #[], guard := none }) rfl (by kernel_rfl) (by kernel_rfl) (by kernel_rfl) (by kernel_rfl) rfl (fun _ _ _ h => h) (Or.inl ⟨by rfl, ?_⟩) (HT2 V.drew (below_drewN (Below.refl _ _) 1)) ?_
      rotate_left
      · intro W hSW
        go_simp
        try with_reducible rfl
      simp only [Act.put, List.setIfInBounds_toArray, List.set_cons_zero, List.set_cons_succ]
      refine wpAnyL_one' (i := 2) (o := { dst := some 28, op := Op.call { callee := Callee.value (Operand.func 36), args := #[Operand.tmp 27], argTypes := #[33] }, type := 33, pos := "gss.go:84", after := #[{ on := 1, ground := Ground.data }], guard := none }) (by kernel_rfl) rfl rfl (fun K hK => ?_)
      go_simp
      refine (HCL).mono ?_
      rintro e V2 ⟨cv, rfl, oc, hb2⟩
      refine hK.out _ _ (fun _ => HT2 V2 hb2) ?_
      clear hK
      obtain ⟨ca, cc, rfl⟩ := slice_of_own oc
      have b2s := hb2.size
      refine wpAnyL_one' (i := 3) (o := { dst := some 29, op := Op.buildSlice 39 1 #[(0, Operand.tmp 28)], type := 39, pos := "gss.go:84", after := #[{ on := 2, ground := Ground.data }], guard := none }) (by kernel_rfl) rfl rfl (fun K hK => ?_)
      go_simp
      refine hK.out _ _ (fun _ => cell_new (HT2 V2 hb2)) ?_
      clear hK
      try simp only [Act.put, List.setIfInBounds_toArray, List.set_cons_zero, List.set_cons_succ]
      obtain ⟨ii, hii, hz0, hz1, hz2⟩ := info_parts infoR
      obtain ⟨nv, V4, hap, ho4, hg4, _, hat4⟩ := run_append_own_at (P := Try.prog) (V2.alloc (Obj.cells #[.slice ca x.1.length cc] 33)) w.heap.size 39 39 33 ii _ 1 24 Try.underlying39 hii hz0 hz1 hz2 rfl (by omega) (.slice ta pre.length tc) pre.length vs (ownsRow_below4 (ownsRow_below4 hT1 hb2) (below_box _ _ _)) ⟨V2.heap.size, 0, none⟩ 1 1 [.slice ca x.1.length cc] rfl (new_cell V2 _ _) (by simp [Value.oneCell']) (by unfold maxLen; omega) (by omega) (by simp; omega)
      obtain ⟨na, nc, rfl⟩ := slice_of_own ho4
      have b3 : Below V2.heap.size V2 (V2.alloc (Obj.cells #[.slice ca x.1.length cc] 33)) := below_box _ _ _
      have B24 : But (fun k => (Value.slice ta pre.length tc).ownBlock = some k) V2 V4 := (But.of_next b3).trans ⟨hg4.os, hg4.tape, hg4.output, hg4.size, fun k hk hd => hg4.block k hk (fun e => hd e.symm)⟩
      have tb4 : V4.heap[tb]? = some (Obj.cells #[.slice ta pre.length tc] 39) := but_blk B24 ((hb2.block _ (blk_lt ht)).trans ht) htvb
      have t4 : V4.cell? ⟨tb, 0, none⟩ = some (.slice ta pre.length tc) := by rw [Lib.cell_of_heap tb4]; rfl
      have tf4 : V4.frozen? ⟨tb, 0, none⟩ = false := Lib.frozen_of_heap tb4 _
      refine wpAnyL_one' (i := 4) (o := { dst := some 30, op := Op.call { callee := Callee.builtin Builtin.append, args := #[Operand.tmp 26, Operand.tmp 29], argTypes := #[39, 39] }, type := 39, pos := "gss.go:84", after := #[{ on := 0, ground := Ground.data }, { on := 3, ground := Ground.data }, { on := 2, ground := Ground.chain }], guard := none }) (by kernel_rfl) rfl rfl (fun K hK => ?_)
      refine step_append_runI rfl _ _ 39 39 rfl _ _ rfl rfl hap ?_
      refine hK.out _ _ (fun _ => t4) ?_
      clear hK
      simp only [Act.put, List.setIfInBounds_toArray, List.set_cons_zero, List.set_cons_succ]
      refine wpAnyL_one' (i := 5) (o := { dst := none, op := Op.store 39 (Operand.tmp 8) (Operand.tmp 30), type := 0, pos := "gss.go:84", after := #[{ on := 4, ground := Ground.data }, { on := 4, ground := Ground.chain }, { on := 0, ground := Ground.phase }, { on := 1, ground := Ground.phase }, { on := 2, ground := Ground.phase }, { on := 3, ground := Ground.phase }, { on := 4, ground := Ground.phase }], guard := none }) (by kernel_rfl) rfl rfl (fun K hK => ?_)
      go_simp
      refine hK.out _ _ (fun h => absurd h (by decide)) ?_
      clear hK
      try simp only [Act.put, List.setIfInBounds_toArray, List.set_cons_zero, List.set_cons_succ]
      refine wpAnyL_done (by kernel_rfl) ?_ _
      have HE : PInv w F (.slice fa F.length fc) (w.heap.size + 1) (w.heap.size + 1 + 1) tb ((tailsN l m nk).map ([(nk : Int)] ++ ·)) (fun q => A' q ∨ q = w5.heap.size ∨ q = w5.heap.size + 1) (pre ++ [x]) (V4.setCell ⟨tb, 0, none⟩ (.slice na (pre.length + 1) nc)) ∧ But (fun q => ¬ (A' q ∨ q = w5.heap.size ∨ q = w5.heap.size + 1)) V (V4.setCell ⟨tb, 0, none⟩ (.slice na (pre.length + 1) nc)) := by
        have hI := HIN.out
        have hT := HT.out
        have hTl := hT.len
        rw [List.length_map] at hTl
        have B45 : But (fun k => k = tb) V4 (V4.setCell ⟨tb, 0, none⟩ (.slice na (pre.length + 1) nc)) := (But.refl _ _).setCell _ _ (.inr rfl)
        have BD2 : But (fun k => (Value.slice ta pre.length tc).ownBlock = some k ∨ k = tb) V2 (V4.setCell ⟨tb, 0, none⟩ (.slice na (pre.length + 1) nc)) := (B24.mono (fun k _ h => .inl h)).trans (B45.mono (fun k _ h => .inr h))
        have BD : But (fun k => (Value.slice ta pre.length tc).ownBlock = some k ∨ k = tb) V (V4.setCell ⟨tb, 0, none⟩ (.slice na (pre.length + 1) nc)) := (But.of_next hb2).trans BD2
        have htbl := blk_lt ht
        have htvl : ∀ k, (Value.slice ta pre.length tc).ownBlock = some k → w.heap.size ≤ k ∧ k < V.heap.size := fun k hk => World.ownsRow.lt hT1 k hk
        have hcl : ∀ k, (Value.slice ca x.1.length cc).ownBlock = some k → V.heap.size ≤ k := fun k hk => (World.ownsRow.lt oc k hk).1
        refine ⟨⟨hI.bel.trans (BD.below hwV (fun k hk => hk.elim (fun h => (htvl k h).1) (fun h => by omega))), hI.sf.but BD (fun k hk h => h.elim (fun h => (HN.out.1 k h).2 hk) (fun h => (hI.fn k hk).2 h)), hI.fn, but_blk BD hI.r (fun h => h.elim htvr (fun h => by omega)), but_blk BD hI.e (fun h => h.elim htve (fun h => by omega)), ⟨.slice na (pre.length + 1) nc, vs ++ [.slice ca x.1.length cc], ?_, ⟨?_, ?_⟩, ?_, ?_⟩, hI.nr, hI.ne, hI.nt, fun k hk => ⟨(hI.low k hk).1, Nat.lt_of_lt_of_le (hI.low k hk).2 BD.size⟩, by simp; omega, HPF.out⟩, BD.mono (fun k _ h h2 => h.elim (fun h => (HN.out.1 k h).1 h2) (fun h => hI.nt (by rw [← h]; exact h2)))⟩
        · simpa using blk_set (o := 0) tb4 (.slice na (pre.length + 1) nc)
        · rw [List.length_map, List.length_append]
          exact ownsRow_keep ho4 B45 (fun k hk e => by obtain ⟨cs, e'⟩ := own_blk ho4 hk (by rw [e]; exact tb4); simp at e')
        · intro i r v hr hv
          by_cases hi : i < pre.length
          · rw [List.map_append, List.getElem?_append_left (by simpa using hi)] at hr
            rw [List.getElem?_append_left (by omega)] at hv
            have h0 := hT.2 i r v hr hv
            exact ⟨ownsRow_keep h0.1 BD (fun k hk h => h.elim (fun h => own_ne h0.1 hT1 (by decide) hk h) (fun h => by obtain ⟨cs, e⟩ := own_blk h0.1 hk (by rw [h]; exact ht); simp at e)), h0.2⟩
          · have hi2 : i = pre.length := by
              have := (List.getElem?_eq_some_iff.1 hr).1
              simp at this
              omega
            subst hi2
            rw [List.map_append, List.getElem?_append_right (by simp)] at hr
            rw [List.getElem?_append_right (by omega), hTl] at hv
            simp at hr hv
            subst hr
            subst hv
            refine ⟨own_base (ownsRow_keep oc BD2 (fun k hk h => ?_)) hwV, HOK.out⟩
            have h5 := hcl k hk
            rcases h with h | h
            · have := (htvl k h).2; omega
            · omega
        · intro k hk
          rcases hat4 with h | h
          · rw [h] at hk; exact HN.out.1 k hk
          · rw [h] at hk
            have hk2 : V2.heap.size + 1 = k := by simpa using hk
            exact ⟨fun hA => by have := (hI.low k hA).2; omega, fun hF => by have := hI.sf.blk hFne k hF; omega⟩
        · intro v hv k hk
          rcases List.mem_append.1 hv with hv | hv
          · exact HN.out.2 v hv k hk
          · simp at hv
            rw [hv] at hk
            have := hcl k hk
            exact fun hA => by have := (hI.low k hA).2; omega
      exact .inl ⟨rfl, HE⟩
  case done =>
    intro xs V hS hI hd
    obtain ⟨tv, vs, ht, hT, hn1, hn2⟩ := hI.told
    have hall : xs.map Prod.fst = rowsG l nk m := by rw [hS.1, HALL.out]
    rw [hall] at hT
    have HP2 : Hid (pathsF l nk m = (rowsG l nk m, 0)) := by show _ = _; rw [HP.out, if_pos (by rw [← hall]; simpa using hI.cnt)]
    obtain ⟨ta, tc, rfl⟩ := slice_of_own hT.1
    have htvr : ¬ (Value.slice ta (rowsG l nk m).length tc).ownBlock = some (w.heap.size + 1) := fun h => by obtain ⟨cs, e⟩ := own_blk hT.1 h hI.r; simp at e
    have htve : ¬ (Value.slice ta (rowsG l nk m).length tc).ownBlock = some (w.heap.size + 1 + 1) := fun h => by obtain ⟨cs, e⟩ := own_blk hT.1 h hI.e; simp at e
    have t0 : V.cell? ⟨tb, 0, none⟩ = some (.slice ta (rowsG l nk m).length tc) := by rw [Lib.cell_of_heap ht]; rfl
    have c1 : V.cell? ⟨w.heap.size + 1, 0, none⟩ = some (.slice none 0 0) := by rw [Lib.cell_of_heap hI.r]; rfl
    have c2 : V.cell? ⟨w.heap.size + 1 + 1, 0, none⟩ = some (.int .i64 0) := by rw [Lib.cell_of_heap hI.e]; rfl
    have f1 : V.frozen? ⟨w.heap.size + 1, 0, none⟩ = false := Lib.frozen_of_heap hI.r _
    have f2 : V.frozen? ⟨w.heap.size + 1 + 1, 0, none⟩ = false := Lib.frozen_of_heap hI.e _
    have hs5 := HS5.out
    have m1 := blk_set (o := 0) hI.r (.slice ta (rowsG l nk m).length tc)
    have m2 := set_blk (o := 0) (v := .int .i64 0) m1 (show w.heap.size + 1 ≠ w.heap.size + 1 + 1 by omega)
    have m3 := blk_set (o := 0) (set_blk (o := 0) (v := .slice ta (rowsG l nk m).length tc) hI.e (show w.heap.size + 1 + 1 ≠ w.heap.size + 1 by omega)) (.int .i64 0)
    have BRE : But (fun k => k = w.heap.size + 1 ∨ k = w.heap.size + 1 + 1) V ((V.setCell ⟨w.heap.size + 1, 0, none⟩ (.slice ta (rowsG l nk m).length tc)).setCell ⟨w.heap.size + 1 + 1, 0, none⟩ (.int .i64 0)) := ((But.refl _ _).setCell _ _ (.inr (.inl rfl))).setCell _ _ (.inr (.inr rfl))
    have HD : Hid (Mk [w5.heap.size] ((V.setCell ⟨w.heap.size + 1, 0, none⟩ (.slice ta (rowsG l nk m).length tc)).setCell ⟨w.heap.size + 1 + 1, 0, none⟩ (.int .i64 0))) := ⟨by simp, fun d hd' => by
      simp at hd'
      subst hd'
      exact but_blk BRE hd (fun h => by omega)⟩
    have HRW : Hid ((fun W : World => W.heap[w.heap.size + 1]? = some (Obj.cells #[.slice ta (rowsG l nk m).length tc] 39) ∧ W.heap[w.heap.size + 1 + 1]? = some (Obj.cells #[.int .i64 0] 40) ∧ Told w.heap.size (rowsG l nk m) (.slice ta (rowsG l nk m).length tc) vs W ∧ Below w.heap.size w W) ((V.setCell ⟨w.heap.size + 1, 0, none⟩ (.slice ta (rowsG l nk m).length tc)).setCell ⟨w.heap.size + 1 + 1, 0, none⟩ (.int .i64 0))) := by
      refine ⟨by simpa using m2, by simpa using m3, hT.but BRE (fun k hk h => h.elim (fun h => htvr (by rw [← h]; exact hk)) (fun h => htve (by rw [← h]; exact hk))) (fun v hv k hk h => ?_), (hI.bel.setCell (by simp) _).setCell (by simp; omega) _⟩
      obtain ⟨i, hi⟩ := List.getElem?_of_mem hv
      have hi' : i < (rowsG l nk m).length := by rw [← hT.len]; exact (List.getElem?_eq_some_iff.1 hi).1
      have h0 := (hT.2 i _ v (List.getElem?_eq_getElem hi') hi).1
      rcases h with h | h
      · obtain ⟨cs, e⟩ := own_blk h0 hk (by rw [h]; exact hI.r); simp at e
      · obtain ⟨cs, e⟩ := own_blk h0 hk (by rw [h]; exact hI.e); simp at e
    clear hS hI hd hT hn1 hn2 hall htvr htve ht m1 m2 m3 BRE hs5
    gi_wp2
    refine leaves_marksC (v := .tuple #[.slice ta (rowsG l nk m).length tc, .int .i64 0]) (Rw := fun W : World => W.heap[w.heap.size + 1]? = some (Obj.cells #[.slice ta (rowsG l nk m).length tc] 39) ∧ W.heap[w.heap.size + 1 + 1]? = some (Obj.cells #[.int .i64 0] 40) ∧ Told w.heap.size (rowsG l nk m) (.slice ta (rowsG l nk m).length tc) vs W ∧ Below w.heap.size w W) (fun W h => ?_) (fun q => w.heap.size ≤ q) (fun W d hd hh h => ?_) (fun W h => ?_) [w5.heap.size] _ HD.out (fun d hd => by have := HS5.out; have := HB3.out.size; simp at hd; omega) HRW.out
    · have z1 : W.cell? ⟨w.heap.size + 1, 0, none⟩ = some (.slice ta (rowsG l nk m).length tc) := by rw [Lib.cell_of_heap h.1]; rfl
      have z2 : W.cell? ⟨w.heap.size + 1 + 1, 0, none⟩ = some (.int .i64 0) := by rw [Lib.cell_of_heap h.2.1]; rfl
      clear HD HRW
      refine results_cell2 (x := .slice ta (rowsG l nk m).length tc) (y := .int .i64 0) rfl _ _ _ rfl rfl (by go_simp) (by go_simp)
    · have hb := But.putObj W d (.deferred none)
      have key : ∀ {B n k : Nat} {e : TypeId} {v : Value} {xs : List Value}, W.ownsRow B e k v n xs → ∀ q, v.ownBlock = some q → ¬ q = d := fun ho q hq e => by
        obtain ⟨cs, e'⟩ := own_blk ho hq (by rw [e]; exact hh)
        cases e'
      refine ⟨but_blk hb h.1 (fun e => ?_), but_blk hb h.2.1 (fun e => ?_), h.2.2.1.but hb (fun k hk => key h.2.2.1.1 k hk) (fun v hv k hk => ?_), h.2.2.2.trans (hb.below h.2.2.2.size (fun k hk => by omega))⟩
      · have h1 := h.1; rw [e, hh] at h1; cases h1
      · have h1 := h.2.1; rw [e, hh] at h1; cases h1
      · obtain ⟨i, hi⟩ := List.getElem?_of_mem hv
        have hi' : i < (rowsG l nk m).length := by rw [← h.2.2.1.len]; exact (List.getElem?_eq_some_iff.1 hi).1
        exact key (h.2.2.1.2 i _ v (List.getElem?_eq_getElem hi') hi).1 k hk
    · rw [HP2.out]
      exact ⟨_, rfl, h.2.2.1.rows, h.2.2.2⟩
  case left =>
    intro V hI hd
    have HP2 : Hid (pathsF l nk m = ([], 15)) := by show _ = _; rw [HP.out, if_neg (by rw [HALL.out]; have := hI.many; omega)]
    have HD : Hid (Mk [w5.heap.size] V) := ⟨by simp, fun d hd' => by simp at hd'; subst hd'; exact hd⟩
    have HRW : Hid (PStop w (w.heap.size + 1) (w.heap.size + 1 + 1) ((tailsN l m nk).map ([(nk : Int)] ++ ·)) (fun q => AI q ∨ q = w5.heap.size ∨ q = w5.heap.size + 1) V) := hI
    clear hI hd
    gi_wp2
    refine leaves_marksC (v := .tuple #[.slice none 0 0, .int .i64 15]) (Rw := fun W : World => PStop w (w.heap.size + 1) (w.heap.size + 1 + 1) ((tailsN l m nk).map ([(nk : Int)] ++ ·)) (fun q => AI q ∨ q = w5.heap.size ∨ q = w5.heap.size + 1) W) (fun W h => ?_) (fun q => q = w5.heap.size) (fun W d hd hh h => ?_) (fun W h => ?_) [w5.heap.size] _ HD.out (fun d hd => by simpa using hd) HRW.out
    · have z1 : W.cell? ⟨w.heap.size + 1, 0, none⟩ = some (.slice none 0 0) := by rw [Lib.cell_of_heap h.r]; rfl
      have z2 : W.cell? ⟨w.heap.size + 1 + 1, 0, none⟩ = some (.int .i64 15) := by rw [Lib.cell_of_heap h.e]; rfl
      clear HD HRW
      refine results_cell2 (x := .slice none 0 0) (y := .int .i64 15) rfl _ _ _ rfl rfl (by go_simp) (by go_simp)
    · exact (PInv.keep w F hFne (.slice fa F.length fc) (w.heap.size + 1) (w.heap.size + 1 + 1) tb _).sturn _ _ _ h ((But.putObj W d (.deferred none)).mono (fun q _ e => by rw [e, hd]; exact .inr (.inl rfl)))
    · rw [HP2.out]
      exact ⟨_, rfl, ⟨none, 0, rfl, fun i r h => by simp at h, fun _ => rfl, Nat.le_refl _⟩, h.bel⟩
end Go.Proofs.Ytjpbfckdiojghaa
