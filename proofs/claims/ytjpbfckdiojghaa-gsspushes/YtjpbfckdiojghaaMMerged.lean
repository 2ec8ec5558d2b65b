/- Stacks: the program's merged: all nodes and links of two stacks. -/
import Derived.Test.YtjpbfckdiojghaaMComp
namespace Go.Proofs.Ytjpbfckdiojghaa
open Go.RowKit Go.Maps

def zeroG : GnV := (⟨0, 0, []⟩, .slice none 0 0)
theorem flat_zero (n : Nat) : (List.replicate n zeroG).flatMap encG = (madeCells #[.int .i64 0, .int .i64 0, .slice none 0 0] (n * 3)).toList := by
  have hl : ((List.replicate n zeroG).flatMap encG).length = n * 3 := by
    induction n with
    | zero => simp
    | succ n ih => rw [List.replicate_succ, List.flatMap_cons, List.length_append, ih, encG_len]; omega
  apply List.ext_getElem?
  intro i
  rcases Nat.lt_or_ge i (n * 3) with h | h
  · have e : i = i / 3 * 3 + i % 3 := by omega
    have h2 : i / 3 < n := by omega
    have h3 : i % 3 < 3 := by omega
    have h1 : ((List.replicate n zeroG).flatMap encG)[i]? = (encG zeroG)[i % 3]? := by
      conv => lhs; rw [e]
      exact flatK_get encG_len (by rw [List.getElem?_replicate, if_pos h2]) h3
    rw [h1]
    unfold madeCells
    rcases (by omega : i % 3 = 0 ∨ i % 3 = 1 ∨ i % 3 = 2) with h4 | h4 | h4
    · rw [h4]; simp [h, h4, encG, zeroG]
    · rw [h4]; simp [h, h4, encG, zeroG]
    · rw [h4]; simp [h, h4, encG, zeroG]
  · rw [List.getElem?_eq_none (by omega), List.getElem?_eq_none (by simp [size_madeCells]; omega)]
theorem OwnS.made {B g n : Nat} {W : World} (h : W.ownsRow B 35 3 (.slice (some ⟨g, 0, none⟩) n n) n (madeCells #[.int .i64 0, .int .i64 0, .slice none 0 0] (n * 3)).toList) : OwnS B (List.replicate n zeroG) (.slice (some ⟨g, 0, none⟩) n n) W := by
  refine ⟨by rw [flat_zero]; simpa using h, fun p hp => ?_, ?_, fun p hp => ?_⟩
  · rw [List.eq_of_mem_replicate hp]; exact World.ownsRow_nil _ _ _ _
  · rw [List.pairwise_iff_getElem]
    intro i j hi hj hij k hk
    simp [zeroG, Value.ownBlock] at hk
  · rw [List.eq_of_mem_replicate hp]
    refine ⟨?_, ?_, fun y hy => ?_, ?_⟩ <;> simp [zeroG, i64B] at *
/-- The links of the first i nodes stand in order. -/
def srt (M : List Gn) (i : Nat) (m : List Gn) : Prop := m.length = M.length ∧ ∀ (p : Nat) (x y : Gn), M[p]? = some x → m[p]? = some y → (p < i → y.st = x.st ∧ y.pl = x.pl ∧ UpL y.links ∧ ∀ j, j ∈ y.links ↔ j ∈ x.links) ∧ (i ≤ p → y = x)
theorem srt.start (M : List Gn) : srt M 0 M := ⟨rfl, fun p x y hx hy => ⟨fun h => by omega, fun _ => by rw [hx] at hy; exact (Option.some.inj hy).symm⟩⟩
theorem srt.step {M m : List Gn} {i : Nat} (h : srt M i m) {x : Gn} (hx : m[i]? = some x) {ls : List Int} (hu : UpL ls) (hl : ∀ j, j ∈ ls ↔ j ∈ x.links) : srt M (i + 1) (m.set i ⟨x.st, x.pl, ls⟩) := by
  refine ⟨by simp [h.1], fun p z y hz hy => ?_⟩
  rcases set_cases hy with ⟨rfl, rfl, _⟩ | ⟨hne, hy'⟩
  · have e := (h.2 p z x hz hx).2 (Nat.le_refl _)
    subst e
    exact ⟨fun _ => ⟨rfl, rfl, hu, hl⟩, fun h => by omega⟩
  · have h1 := h.2 p z y hz hy'
    exact ⟨fun hp => h1.1 (by omega), fun hp => h1.2 (by omega)⟩

set_option maxRecDepth 100000 in
set_option maxHeartbeats 8000000 in
theorem merged_any (mb sb : Nat) (S : List Sp) (a b : List Gn) (u v : Value) (w : World) (ha : SlN a u w) (hb : SlN b v w) (hfa : fitP a) (hfb : fitP b) (hla : a.length ≤ 400) (hlb : b.length ≤ 400) (hup : S.Pairwise ltS) (hS : MetB (fun s => VG a s ∨ VG b s) S) (hSl : S.length ≤ 2000) (hM : MapN mb S (fun s => posS S s) w) (hsb : w.heap[sb]? = some (Obj.cells #[u, v] 24)) :
    Calls Try.prog 32 #[.map (some mb), .slice (some ⟨sb, 0, none⟩) 2 2] w fun e w' => ∃ m v', e = .returned (.agg #[v']) ∧ Joins2 a b m ∧ SlN m v' w' ∧ m.length = S.length ∧ Below w.heap.size w w' := by
  have B1 : Below w.heap.size w (w.alloc (Obj.cells #[.slice none 0 0] 24)) := below_box _ _ _
  have k1 : (w.alloc (Obj.cells #[.slice none 0 0] 24)).heap[w.heap.size]? = some (Obj.cells #[.slice none 0 0] 24) := heap_alloc_new _ _
  have HM1 : Hid (MapN mb S (fun s => posS S s) (w.alloc (Obj.cells #[.slice none 0 0] 24))) := hM.next B1
  have HSB : Hid ((w.alloc (Obj.cells #[.slice none 0 0] 24)).heap[sb]? = some (Obj.cells #[u, v] 24)) := (B1.block _ (blk_lt hsb)).trans hsb
  have HA : Hid (SlN a u (w.alloc (Obj.cells #[.slice none 0 0] 24))) := ha.next B1
  have HB : Hid (SlN b v (w.alloc (Obj.cells #[.slice none 0 0] 24))) := hb.next B1
  have HFT : Hid (fitP a ∧ fitP b) := ⟨hfa, hfb⟩
  have HMB : Hid (mb < w.heap.size) := hM.lt
  have HUP : Hid (S.Pairwise ltS ∧ MetB (fun s => VG a s ∨ VG b s) S) := ⟨hup, hS⟩
  have hz1 : (w.alloc (Obj.cells #[.slice none 0 0] 24)).heap.size = w.heap.size + 1 := by simp
  have HZ1 : Hid ((w.alloc (Obj.cells #[.slice none 0 0] 24)).heap.size = w.heap.size + 1) := hz1
  have hln := HM1.out.len 3
  obtain ⟨aa, ac, rfl, _⟩ := ha
  obtain ⟨ba, bc, rfl, _⟩ := hb
  obtain ⟨n, hn⟩ : ∃ n, n = S.length := ⟨_, rfl⟩
  have HNS : Hid (n = S.length) := hn
  rw [← hn] at hln
  have hn2 : n ≤ 2000 := by omega
  clear hM hsb hfa hfb hup hS hz1 hn
  go_enter Try.func32, Try.ntmps32
  by_cases h0 : n = 0
  · have d0 : ((n : Int) == 0) = true := by rw [h0]; rfl
    have HE : Hid (Joins2 a b []) := by
      have hS0 : S = [] := List.eq_nil_of_length_eq_zero (by have := HNS.out; omega)
      have hS := HUP.out.2
      rw [hS0] at hS
      have hV : ∀ s, ¬ (VG a s ∨ VG b s) := fun s h => by have := (hS s).2 h; simp at this
      refine ⟨fit_of (by simp) List.Pairwise.nil (fun x hx => by simp at hx), fun s => ⟨fun ⟨x, hx, _⟩ => by simp at hx, fun h => (hV s h).elim⟩, fun s t => ⟨fun ⟨x, hx, _⟩ => by simp at hx, fun h => ?_⟩⟩
      rcases h with h | h
      · exact (hV s (.inl h.spots.1)).elim
      · exact (hV s (.inr h.spots.1)).elim
    clear HUP HFT HA HB HSB HMB
    go_wp2_with fail
    refine bodyPost_ret (results_cell1 rfl _ _ _ rfl (run_loadVar_row _ _ _ _ _ _ _ k1 Try.underlying24 rfl (by kernel_rfl))) rfl ?_
    exact ⟨[], _, rfl, HE.out, SlN.nil _, by rw [← HNS.out, h0]; rfl, B1⟩
  have d0 : ((n : Int) == 0) = false := by simp; omega
  obtain ⟨ig, hig, hge0, hge1, hge2⟩ := info_parts infoG
  go_wp2_with (at_make; refine wpList_make_full _ rfl _ _ 22 rfl (w.heap.size + 1) 35 ig _ 3 Try.underlying22 hig hge0 hge1 _ _ _ _ n rfl rfl rfl rfl (by rw [hge2]; omega) (by unfold maxLen; omega) (by simp) ?_)
  generalize (w.alloc (Obj.cells #[.slice none 0 0] 24)) = w1 at *
  rintro w2 hown hg2
  obtain ⟨gm, hgm⟩ : ∃ gm, gm = w.heap.size + 1 := ⟨_, rfl⟩
  have HGM : Hid (gm = w.heap.size + 1) := hgm
  rw [← hgm] at hown ⊢
  have hB2 : Below (w.heap.size + 1) w1 w2 := by
    have := (Below.refl w1.heap.size w1).grown hg2 (Nat.le_refl _) (fun k e => by cases e)
    rwa [HZ1.out] at this
  have HO0 : Hid (OwnS (w.heap.size + 1) (List.replicate n zeroG) (.slice (some ⟨gm, 0, none⟩) n n) w2) := OwnS.made (by simpa [hgm] using hown)
  have HB2 : Hid (Below (w.heap.size + 1) w1 w2) := hB2
  have k2 : w2.heap[w.heap.size]? = some (Obj.cells #[.slice none 0 0] 24) := (hB2.block _ (by omega)).trans k1
  clear hown hg2 hB2 k1 hig hge0 hge1 hge2 hgm
  have BD : Below w2.heap.size w2 (w2.alloc (Obj.cells #[.slice (some ⟨gm, 0, none⟩) n n] 24)) := below_box _ _ _
  have kd : (w2.alloc (Obj.cells #[.slice (some ⟨gm, 0, none⟩) n n] 24)).heap[w2.heap.size]? = some (Obj.cells #[.slice (some ⟨gm, 0, none⟩) n n] 24) := heap_alloc_new _ _
  have kr := (BD.block _ (blk_lt k2)).trans k2
  have HOD : Hid (OwnS (w.heap.size + 1) (List.replicate n zeroG) (.slice (some ⟨gm, 0, none⟩) n n) (w2.alloc (Obj.cells #[.slice (some ⟨gm, 0, none⟩) n n] 24))) := HO0.out.next BD
  have HBD : Hid (Below (w.heap.size + 1) w1 (w2.alloc (Obj.cells #[.slice (some ⟨gm, 0, none⟩) n n] 24))) := HB2.out.trans (BD.mono (by have := HB2.out.size; have := HZ1.out; omega))
  go_upto_region 4 with fail
  obtain ⟨db, hdb⟩ : ∃ db, db = w2.heap.size := ⟨_, rfl⟩
  have HDB : Hid (db = w2.heap.size) := hdb
  rw [← hdb] at kd ⊢
  generalize w2.alloc (Obj.cells #[.slice (some ⟨gm, 0, none⟩) n n] 24) = wd at *
  have HKD : Hid (wd.heap[db]? = some (Obj.cells #[.slice (some ⟨gm, 0, none⟩) n n] 24) ∧ wd.heap[w.heap.size]? = some (Obj.cells #[.slice none 0 0] 24) ∧ wd.heap[sb]? = some (Obj.cells #[.slice aa a.length ac, .slice ba b.length bc] 24)) := ⟨kd, kr, by
    have h9 := HSB.out
    by_cases e : sb < w.heap.size + 1
    · exact (HBD.out.block _ e).trans h9
    · have := blk_lt h9; have := HZ1.out; omega⟩
  obtain ⟨Kq, hKq⟩ : ∃ Kq : World → Prop, Kq = fun W => Below (w.heap.size + 1) w1 W ∧ ∀ (k : Nat) cs, wd.heap[k]? = some (Obj.cells cs 24) → W.heap[k]? = some (Obj.cells cs 24) := ⟨_, rfl⟩
  have HK0 : Hid (Kq wd) := by rw [hKq]; exact ⟨HBD.out, fun _ _ h => h⟩
  have HKX : Hid (∀ W, Kq W → Below (w.heap.size + 1) w1 W ∧ W.heap[db]? = some (Obj.cells #[.slice (some ⟨gm, 0, none⟩) n n] 24) ∧ W.heap[w.heap.size]? = some (Obj.cells #[.slice none 0 0] 24) ∧ W.heap[sb]? = some (Obj.cells #[.slice aa a.length ac, .slice ba b.length bc] 24)) := fun W hk => by
    rw [hKq] at hk
    exact ⟨hk.1, hk.2 _ _ HKD.out.1, hk.2 _ _ HKD.out.2.1, hk.2 _ _ HKD.out.2.2⟩
  have HKB : Hid (∀ W W', Kq W → Below (w.heap.size + 1) W W' → (∀ (k : Nat) cs, W.heap[k]? = some (Obj.cells cs 24) → W'.heap[k]? = some (Obj.cells cs 24)) → Kq W') := fun W W' hk hb h => by
    rw [hKq] at hk ⊢
    exact ⟨hk.1.trans hb, fun k cs hcs => h k cs (hk.2 k cs hcs)⟩
  clear hKq kd kr hdb HO0 HB2 HSB HKD HBD BD k2 hln
  go_wp2_with fail
  go_loopw [20] (fun iv wr => ∃ (k : Nat) (L : List GnV), iv = .int .i64 k ∧ k ≤ 2 ∧ Hid (OwnS (w.heap.size + 1) L (.slice (some ⟨gm, 0, none⟩) n n) wr) ∧ Hid (InvM S (fun s => (1 ≤ k ∧ VG a s) ∨ (2 ≤ k ∧ VG b s)) (fun s t => (1 ≤ k ∧ EG a s t) ∨ (2 ≤ k ∧ EG b s t)) (L.map Prod.fst)) ∧ Hid (∀ p ∈ L, p.1.links.length ≤ k * 160000) ∧ Hid (Kq wr)) (fun i _ => 2 - (intOf i).toNat)
  case atStart =>
    refine ⟨0, _, rfl, Nat.zero_le _, HOD, ?_, fun p hp => ?_, HK0⟩
    · have h9 := InvM.start HNS.out
      have e9 : (List.replicate n zeroG).map Prod.fst = List.replicate n ⟨0, 0, []⟩ := by rw [List.map_replicate]; rfl
      show InvM _ _ _ _
      rw [e9]
      exact h9.congr (fun s h => by omega) (fun s t => ⟨fun h => h.elim, fun h => by omega⟩)
    · rw [List.eq_of_mem_replicate hp]; simp [zeroG]
  case round =>
  clear HOD HK0
  obtain ⟨k, L, rfl, hk, HO, HI, HK, HP⟩ := hrel
  obtain ⟨kB, kd, kr, ks⟩ := HKX.out wr HP.out
  have c0 : wr.cell? ⟨db, 0, none⟩ = some (.slice (some ⟨gm, 0, none⟩) n n) := by rw [Lib.cell_of_heap kd]; rfl
  have hBr : w.heap.size + 1 ≤ wr.heap.size := by have := kB.size; have := HZ1.out; omega
  by_cases hlt : k < 2
  case neg =>
    obtain rfl : k = 2 := by omega
    have HI2 : Hid (InvM S (fun s => VG a s ∨ VG b s) (fun s t => EG a s t ∨ EG b s t) (L.map Prod.fst)) := HI.out.congr (fun s h => by simpa using h) (fun s t => by simp)
    have HK4 : Hid (∀ p ∈ L, p.1.links.length ≤ 320000) := HK.out
    have HLN : Hid ((L.map Prod.fst).length = n) := by show _ = _; rw [HI2.out.len, HNS.out]
    clear HI HK ks kr HA HB
    have h22 : ((2 : Nat) : Int) = 2 := rfl
    rw [h22]
    clear h22
    go_wp2_with fail
    clear c0 kB kd hBr
    go_loopw [32] (fun iv wq => ∃ (i : Nat) (L' : List GnV), iv = .int .i64 i ∧ i ≤ n ∧ Hid (OwnS (w.heap.size + 1) L' (.slice (some ⟨gm, 0, none⟩) n n) wq) ∧ Hid (srt (L.map Prod.fst) i (L'.map Prod.fst)) ∧ Hid (∀ p ∈ L', p.1.links.length ≤ 320000) ∧ Hid (Kq wq)) (fun i _ => n - (intOf i).toNat)
    case atStart => exact ⟨0, L, rfl, Nat.zero_le _, HO, srt.start _, HK4, HP⟩
    case round =>
    clear HO HK4 HP
    obtain ⟨i, L1, rfl, hi, HO1, HS1, HK1, HP1⟩ := hrel
    obtain ⟨kB, kd, kr, _⟩ := HKX.out wr HP1.out
    have c0 : wr.cell? ⟨db, 0, none⟩ = some (.slice (some ⟨gm, 0, none⟩) n n) := by rw [Lib.cell_of_heap kd]; rfl
    have hBr : w.heap.size + 1 ≤ wr.heap.size := by have := kB.size; have := HZ1.out; omega
    have HL1 : Hid (L1.length = n) := by
      have h9 := HS1.out.1
      rw [HLN.out, List.length_map] at h9
      exact h9
    by_cases hlt1 : i < n
    case neg =>
      obtain rfl : i = n := by omega
      have cr : wr.cell? ⟨w.heap.size, 0, none⟩ = some (.slice none 0 0) := by rw [Lib.cell_of_heap kr]; rfl
      have fr : wr.frozen? ⟨w.heap.size, 0, none⟩ = false := Lib.frozen_of_heap kr _
      have z : (wr.setCell ⟨w.heap.size, 0, none⟩ (.slice (some ⟨gm, 0, none⟩) i i)).heap[w.heap.size]? = some (Obj.cells #[.slice (some ⟨gm, 0, none⟩) i i] 24) := by
        have := blk_set (o := 0) kr (.slice (some ⟨gm, 0, none⟩) i i)
        simpa using this
      have HE : Hid (Joins2 a b (L1.map Prod.fst) ∧ SlN (L1.map Prod.fst) (.slice (some ⟨gm, 0, none⟩) i i) (wr.setCell ⟨w.heap.size, 0, none⟩ (.slice (some ⟨gm, 0, none⟩) i i)) ∧ (L1.map Prod.fst).length = S.length ∧ Below w.heap.size w (wr.setCell ⟨w.heap.size, 0, none⟩ (.slice (some ⟨gm, 0, none⟩) i i))) := by
        have hl := HL1.out
        refine ⟨HI2.out.joins HFT.out.1 HFT.out.2 HUP.out.1 HUP.out.2 (by omega) HS1.out.1 (fun p x y hx hy => (HS1.out.2 p x y hx hy).1 (by
          have := (List.getElem?_eq_some_iff.1 hx).1
          have := HLN.out
          omega)), ?_, by rw [List.length_map, hl, HNS.out], ?_⟩
        · have h9 := HO1.out.keep (D := fun k => k = w.heap.size) (W' := wr.setCell ⟨w.heap.size, 0, none⟩ (.slice (some ⟨gm, 0, none⟩) i i)) ((But.refl _ _).setCell _ _ (.inr rfl)) (fun k hk => by omega)
          exact h9.sl (by omega)
        · exact (B1.trans (kB.mono (by omega))).setCell (by simp) _
      clear HO1 HS1 HK1 HP1 HI2 kd kr HLN HL1
      go_wp2_with fail
      refine bodyPost_ret (results_cell1 rfl _ _ _ rfl (run_loadVar_row _ _ _ _ _ _ _ z Try.underlying24 rfl (by kernel_rfl))) rfl ?_
      exact ⟨_, _, rfl, HE.out⟩
    obtain ⟨⟨⟨ys, yp, yk⟩, yu⟩, hy⟩ : ∃ p, L1[i]? = some p := ⟨_, List.getElem?_eq_getElem (by have := HL1.out; omega)⟩
    have HY : Hid (L1[i]? = some (⟨ys, yp, yk⟩, yu)) := hy
    have HYK : Hid (yk.length ≤ 320000) := HK1.out _ (List.mem_of_getElem? hy)
    have HYO : Hid (OwnI (w.heap.size + 1) yk yu wr) := HO1.out.links _ (List.mem_of_getElem? hy)
    obtain ⟨ya, yc, rfl⟩ := slice_of_own HYO.out.own
    obtain ⟨s0, s1, s2, f2⟩ : wr.cell? ⟨gm, i * 3, none⟩ = some (.int .i64 ys) ∧ wr.cell? ⟨gm, i * 3 + 1, none⟩ = some (.int .i64 yp) ∧ wr.cell? ⟨gm, i * 3 + 2, none⟩ = some (.slice ya yk.length yc) ∧ wr.frozen? ⟨gm, i * 3 + 2, none⟩ = false := by
      obtain ⟨g', cap', e', _, _, hc⟩ := own_cells encG_len HO1.out.nodes (by have := HL1.out; omega)
      simp at e'
      obtain ⟨rfl, _⟩ := e'
      have h9 := HO1.out.nodes
      rw [HL1.out] at h9
      exact ⟨by simpa using hc i 0 _ _ hy (by omega) rfl, hc i 1 _ _ hy (by omega) rfl, hc i 2 _ _ hy (by omega) rfl, World.ownsRow.frozenAt h9 _⟩
    have hbn : Below wr.heap.size wr (wr.alloc (Obj.cells #[.int .i64 ys, .int .i64 yp, .slice ya yk.length yc] 35)) := (Below.refl _ _).alloc (Nat.le_refl _) _
    have kn : (wr.alloc (Obj.cells #[.int .i64 ys, .int .i64 yp, .slice ya yk.length yc] 35)).heap[wr.heap.size]? = some (Obj.cells #[.int .i64 ys, .int .i64 yp, .slice ya yk.length yc] 35) := heap_alloc_new _ _
    have kdn := (hbn.block _ (blk_lt kd)).trans kd
    have HON : Hid (OwnS (w.heap.size + 1) L1 (.slice (some ⟨gm, 0, none⟩) n n) (wr.alloc (Obj.cells #[.int .i64 ys, .int .i64 yp, .slice ya yk.length yc] 35))) := HO1.out.next hbn
    have HYN : Hid (OwnI (w.heap.size + 1) yk (.slice ya yk.length yc) (wr.alloc (Obj.cells #[.int .i64 ys, .int .i64 yp, .slice ya yk.length yc] 35))) := ownsRow_below4 HYO.out hbn
    have s2n := (hbn.cell (p := ⟨gm, i * 3 + 2, none⟩) (cell_lt s2)).trans s2
    have f2n : (wr.alloc (Obj.cells #[.int .i64 ys, .int .i64 yp, .slice ya yk.length yc] 35)).frozen? ⟨gm, i * 3 + 2, none⟩ = false := by
      have h9 := HON.out.nodes
      rw [HL1.out] at h9
      exact World.ownsRow.frozenAt h9 _
    have HBN : Hid (Below wr.heap.size wr (wr.alloc (Obj.cells #[.int .i64 ys, .int .i64 yp, .slice ya yk.length yc] 35))) := hbn
    have HSO := sortO_any yk (.slice ya yk.length yc) (w.heap.size + 1) (wr.alloc (Obj.cells #[.int .i64 ys, .int .i64 yp, .slice ya yk.length yc] 35)) HYN.out (by have := HYK.out; omega)
    have n2 : (wr.alloc (Obj.cells #[.int .i64 ys, .int .i64 yp, .slice ya yk.length yc] 35)).cell? ⟨wr.heap.size, 2, none⟩ = some (.slice ya yk.length yc) := by rw [Lib.cell_of_heap kn]; rfl
    clear hy kd kr kB HO1 HYO hbn f2
    go_wp2_with fail
    obtain ⟨nb, hnb⟩ : ∃ nb, nb = wr.heap.size := ⟨_, rfl⟩
    rw [← hnb] at kn n2 ⊢
    refine HSO.mono ?_
    clear c0 s0 s1 s2 hnb
    generalize wr.alloc (Obj.cells #[.int .i64 ys, .int .i64 yp, .slice ya yk.length yc] 35) = wn at *
    rintro e ws ⟨⟨ru, rfl⟩, os, bs⟩
    clear HSO n2
    have ngm : ¬ (Value.slice ya yk.length yc).ownBlock = some gm := fun e => own_types HON.out.nodes HYN.out.own (by decide) gm rfl e
    have ndb : ¬ (Value.slice ya yk.length yc).ownBlock = some db := fun e => by obtain ⟨cs, e'⟩ := own_blk HYN.out.own e kdn; simp at e'
    have nnb : ¬ (Value.slice ya yk.length yc).ownBlock = some nb := fun e => by obtain ⟨cs, e'⟩ := own_blk HYN.out.own e kn; simp at e'
    have kds := but_blk bs kdn ndb
    have kns := but_blk bs kn nnb
    have HS6 : ∀ W, But (fun k => (Value.slice ya yk.length yc).ownBlock = some k) ws W → W.cell? ⟨db, 0, none⟩ = some (.slice (some ⟨gm, 0, none⟩) n n) ∧ W.cell? ⟨nb, 2, none⟩ = some (.slice ya yk.length yc) := fun W hW => ⟨by rw [Lib.cell_of_heap (but_blk hW kds ndb)]; rfl, by rw [Lib.cell_of_heap (but_blk hW kns nnb)]; rfl⟩
    have HCO := compactO_any (sortL yk) (.slice ya yk.length yc) (w.heap.size + 1) ws.drew os (by rw [sortL_len]; have := HYK.out; omega)
    have HFZ : Hid (∀ W, But (fun k => (Value.slice ya yk.length yc).ownBlock = some k) ws W → W.cell? ⟨gm, i * 3 + 2, none⟩ = some (.slice ya yk.length yc) ∧ W.frozen? ⟨gm, i * 3 + 2, none⟩ = false) := fun W hW => ⟨((bs.trans hW).cell (p := ⟨gm, i * 3 + 2, none⟩) (cell_lt s2n) ngm).trans s2n, ((bs.trans hW).frozen (p := ⟨gm, i * 3 + 2, none⟩) (cell_lt s2n) ngm).trans f2n⟩
    have BSD : But (fun k => (Value.slice ya yk.length yc).ownBlock = some k) ws ws.drew := (But.refl _ _).drew
    have HFIN : Hid (∀ wc cu, OwnI (w.heap.size + 1) (Lib.compact (sortL yk)) cu wc → But (fun k => (Value.slice ya yk.length yc).ownBlock = some k) ws.drew wc → cu.ownBlock = (Value.slice ya yk.length yc).ownBlock → ∃ L', OwnS (w.heap.size + 1) L' (.slice (some ⟨gm, 0, none⟩) n n) (wc.setCell ⟨gm, i * 3 + 2, none⟩ cu) ∧ srt (L.map Prod.fst) (i + 1) (L'.map Prod.fst) ∧ (∀ p ∈ L', p.1.links.length ≤ 320000) ∧ Kq (wc.setCell ⟨gm, i * 3 + 2, none⟩ cu)) := fun wc cu oc bc ec => by
      have hmz := List.mem_of_getElem? HY.out
      have hoz := HON.out.ok _ hmz
      have hcs := compact_sorted (sortL yk) (sortL_sorted yk)
      have hcl : (Lib.compact (sortL yk)).length ≤ yk.length := by
        have h1 := Lib.compact_length_le (sortL yk)
        rw [sortL_len] at h1; exact h1
      have bn : But (fun k => (Value.slice ya yk.length yc).ownBlock = some k) wn wc := (bs.trans BSD).trans bc
      have hk4 := HYK.out
      refine ⟨L1.set i (⟨ys, yp, Lib.compact (sortL yk)⟩, cu), ?_, ?_, fun p hp => ?_, ?_⟩
      · exact HON.out.setRow HY.out bn oc (.inl ec) (fun y hy => hoz.2.2.1 y (sortL_mem.1 ((hcs.2 y).1 hy))) (by omega)
      · rw [List.map_set]
        exact HS1.out.step (by rw [List.getElem?_map, HY.out]; rfl) hcs.1 (fun j => by rw [hcs.2 j, sortL_mem])
      · rcases List.mem_or_eq_of_mem_set hp with hp | rfl
        · exact HK1.out p hp
        · simp only; omega
      · have bz : But (fun k => (Value.slice ya yk.length yc).ownBlock = some k ∨ k = gm) wr (wc.setCell ⟨gm, i * 3 + 2, none⟩ cu) := (But.of_next HBN.out).trans ((bn.mono (fun _ _ h => .inl h)).setCell _ _ (.inr (.inr rfl)))
        refine HKB.out _ _ HP1.out (bz.below hBr (fun k hk => ?_)) (fun k cs hk => but_blk bz hk (fun h => ?_))
        · rcases hk with h | h
          · exact (World.ownsRow.lt HYN.out.own k h).1
          · have := HGM.out; omega
        · have hkn := (HBN.out.block _ (blk_lt hk)).trans hk
          rcases h with h | h
          · obtain ⟨cs', e⟩ := own_blk HYN.out.own h hkn; simp at e
          · obtain ⟨cs', e⟩ := own_blk HON.out.nodes (show (Value.slice (some ⟨gm, 0, none⟩) n n).ownBlock = some k by rw [h]; rfl) hkn; simp at e
    clear HON HYN HY HYK HK1 HS1 HP1 HBN bs os kdn kn kds kns ngm ndb nnb s2n f2n
    go_upto_region 13 with fail
    refine wp_region_L (fun W => W.cell? ⟨db, 0, none⟩ = some (.slice (some ⟨gm, 0, none⟩) n n) ∧ W.cell? ⟨nb, 2, none⟩ = some (.slice ya yk.length yc)) 8 (by kernel_rfl) 9 rfl ?_
    refine wpAnyL_take' (i := 0) (v := ?_) (oi := { dst := some 40, op := Op.fieldAddr 24 (Operand.tmp 5) 0, type := 0, pos := "merge.go:35", after := #[], guard := none }) rfl (by kernel_rfl) (by kernel_rfl) (by kernel_rfl) (by kernel_rfl) rfl (fun _ _ _ h => h) (Or.inl ⟨by rfl, ?_⟩) (HS6 _ BSD) ?_
    rotate_left
    · intro W hSW
      go_simp
      try with_reducible rfl
    simp only [Act.put, List.setIfInBounds_toArray, List.set_cons_zero, List.set_cons_succ]
    refine wpAnyL_take' (i := 1) (v := ?_) (oi := { dst := some 41, op := Op.load 22 (Operand.tmp 40), type := 22, pos := "merge.go:35", after := #[{ on := 0, ground := Ground.data }], guard := none }) rfl (by kernel_rfl) (by kernel_rfl) (by kernel_rfl) (by kernel_rfl) rfl (fun _ _ _ h => h) (Or.inl ⟨by rfl, ?_⟩) (HS6 _ BSD) ?_
    rotate_left
    · intro W hSW
      go_simp
      try with_reducible rfl
    simp only [Act.put, List.setIfInBounds_toArray, List.set_cons_zero, List.set_cons_succ]
    refine wpAnyL_take' (i := 2) (v := ?_) (oi := { dst := some 42, op := Op.move (Operand.tmp 8), type := 3, pos := "merge.go:35", after := #[], guard := none }) rfl (by kernel_rfl) (by kernel_rfl) (by kernel_rfl) (by kernel_rfl) rfl (fun _ _ _ h => h) (Or.inl ⟨by rfl, ?_⟩) (HS6 _ BSD) ?_
    rotate_left
    · intro W hSW
      go_simp
      try with_reducible rfl
    simp only [Act.put, List.setIfInBounds_toArray, List.set_cons_zero, List.set_cons_succ]
    refine wpAnyL_take' (i := 3) (v := ?_) (oi := { dst := some 43, op := Op.fieldAddr 35 (Operand.tmp 9) 2, type := 0, pos := "merge.go:35", after := #[], guard := none }) rfl (by kernel_rfl) (by kernel_rfl) (by kernel_rfl) (by kernel_rfl) rfl (fun _ _ _ h => h) (Or.inl ⟨by rfl, ?_⟩) (HS6 _ BSD) ?_
    rotate_left
    · intro W hSW
      go_simp
      try with_reducible rfl
    simp only [Act.put, List.setIfInBounds_toArray, List.set_cons_zero, List.set_cons_succ]
    refine wpAnyL_take' (i := 4) (v := ?_) (oi := { dst := some 44, op := Op.load 33 (Operand.tmp 43), type := 33, pos := "merge.go:35", after := #[{ on := 3, ground := Ground.data }], guard := none }) rfl (by kernel_rfl) (by kernel_rfl) (by kernel_rfl) (by kernel_rfl) rfl (fun _ _ _ h => h) (Or.inl ⟨by rfl, ?_⟩) (HS6 _ BSD) ?_
    rotate_left
    · intro W hSW
      go_simp
      try with_reducible rfl
    simp only [Act.put, List.setIfInBounds_toArray, List.set_cons_zero, List.set_cons_succ]
    refine wpAnyL_one' (i := 5) (o := { dst := some 45, op := Op.call { callee := Callee.value (Operand.func 52), args := #[Operand.tmp 44], argTypes := #[33] }, type := 33, pos := "merge.go:35", after := #[{ on := 4, ground := Ground.data }], guard := none }) (by kernel_rfl) rfl rfl (fun K hK => ?_)
    go_simp
    refine (HCO).mono ?_
    rintro e wc ⟨cu, rfl, oc, bc, ec⟩
    refine hK.out _ _ (fun _ => HS6 wc (BSD.trans bc)) ?_
    clear hK
    obtain ⟨ca, cc, rfl⟩ := slice_of_own oc.own
    obtain ⟨s9, f9⟩ := HFZ.out wc (BSD.trans bc)
    obtain ⟨L9, z1, z2, z3, z4⟩ := HFIN.out wc _ oc bc ec
    have HE : Hid (_ ∧ _ ∧ _ ∧ _) := ⟨z1, z2, z3, z4⟩
    clear z1 z2 z3 z4 HFIN
    refine wpAnyL_one' (i := 6) (o := { dst := some 46, op := Op.indexAddr 22 (Operand.tmp 41) (Operand.tmp 42), type := 0, pos := "merge.go:35", after := #[{ on := 1, ground := Ground.data }, { on := 2, ground := Ground.data }, { on := 0, ground := Ground.phase }, { on := 1, ground := Ground.phase }, { on := 2, ground := Ground.phase }, { on := 3, ground := Ground.phase }, { on := 4, ground := Ground.phase }, { on := 5, ground := Ground.phase }], guard := none }) (by kernel_rfl) rfl rfl (fun K hK => ?_)
    go_simp
    refine hK.out _ _ (fun _ => HS6 wc (BSD.trans bc)) ?_
    clear hK
    try simp only [Act.put, List.setIfInBounds_toArray, List.set_cons_zero, List.set_cons_succ]
    refine wpAnyL_take' (i := 7) (v := ?_) (oi := { dst := some 47, op := Op.fieldAddr 35 (Operand.tmp 46) 2, type := 0, pos := "merge.go:35", after := #[{ on := 6, ground := Ground.data }, { on := 0, ground := Ground.phase }, { on := 1, ground := Ground.phase }, { on := 2, ground := Ground.phase }, { on := 3, ground := Ground.phase }, { on := 4, ground := Ground.phase }, { on := 5, ground := Ground.phase }], guard := none }) rfl (by kernel_rfl) (by kernel_rfl) (by kernel_rfl) (by kernel_rfl) rfl (fun _ _ _ h => h) (Or.inl ⟨by rfl, ?_⟩) (HS6 wc (BSD.trans bc)) ?_
    rotate_left
    · intro W hSW
      go_simp
      try with_reducible rfl
    simp only [Act.put, List.setIfInBounds_toArray, List.set_cons_zero, List.set_cons_succ]
    refine wpAnyL_one' (i := 8) (o := { dst := none, op := Op.store 33 (Operand.tmp 47) (Operand.tmp 45), type := 0, pos := "merge.go:35", after := #[{ on := 7, ground := Ground.data }, { on := 5, ground := Ground.data }, { on := 5, ground := Ground.chain }, { on := 0, ground := Ground.phase }, { on := 1, ground := Ground.phase }, { on := 2, ground := Ground.phase }, { on := 3, ground := Ground.phase }, { on := 4, ground := Ground.phase }, { on := 5, ground := Ground.phase }], guard := none }) (by kernel_rfl) rfl rfl (fun K hK => ?_)
    go_simp
    refine hK.out _ _ (fun h => absurd h (by decide)) ?_
    clear hK
    refine wpAnyL_done (by kernel_rfl) ?_ _

    clear HS6 HFZ s9 f9 HCO oc bc ec BSD
    go_wp2_with fail
    obtain ⟨z1, z2, z3, z4⟩ := HE.out
    exact ⟨⟨i + 1, L9, by go_num, by omega, z1, z2, z3, z4⟩, by simp [intOf]; omega⟩
  obtain ⟨g, ga, gc, hcell, HSG, hgl, HFG, HVG, HEG, HSUB⟩ : ∃ g ga gc, wr.cell? ⟨sb, k, none⟩ = some (.slice ga (List.length g) gc) ∧ Hid (SlN g (.slice ga g.length gc) w1) ∧ g.length ≤ 400 ∧ Hid (fitP g) ∧ Hid (∀ s, ((1 ≤ k + 1 ∧ VG a s) ∨ (2 ≤ k + 1 ∧ VG b s)) ↔ ((1 ≤ k ∧ VG a s) ∨ (2 ≤ k ∧ VG b s)) ∨ VG g s) ∧ Hid (∀ s t, ((1 ≤ k + 1 ∧ EG a s t) ∨ (2 ≤ k + 1 ∧ EG b s t)) ↔ ((1 ≤ k ∧ EG a s t) ∨ (2 ≤ k ∧ EG b s t)) ∨ EG g s t) ∧ Hid (∀ s, VG g s → s ∈ S) := by
    rcases (by omega : k = 0 ∨ k = 1) with rfl | rfl
    · exact ⟨a, aa, ac, by rw [Lib.cell_of_heap ks]; rfl, HA, hla, HFT.out.1, fun s => by simp, fun s t => by simp, fun s h => (HUP.out.2 s).2 (.inl h)⟩
    · exact ⟨b, ba, bc, by rw [Lib.cell_of_heap ks]; rfl, HB, hlb, HFT.out.2, fun s => by simp, fun s t => by simp, fun s h => (HUP.out.2 s).2 (.inr h)⟩
  have dk : decide ((k : Int) < 2) = true := decide_eq_true (by omega)
  have b7 : Below wr.heap.size wr (wr.alloc (Obj.cells #[.slice ga g.length gc] 24)) := below_box _ _ _
  have HB7 : Hid (Below (w.heap.size + 1) w1 (wr.alloc (Obj.cells #[.slice ga g.length gc] 24))) := kB.trans (b7.mono hBr)
  have HP7 : Hid (Kq (wr.alloc (Obj.cells #[.slice ga g.length gc] 24))) := HKB.out _ _ HP.out (b7.mono hBr) (fun k' cs hk' => (b7.block _ (blk_lt hk')).trans hk')
  have HLAY := lay_any (w.heap.size + 1) gm n mb S g (.slice ga g.length gc) L _ _ (k * 160000) (wr.alloc (Obj.cells #[.slice ga g.length gc] 24)) (HO.out.next b7) HNS.out HI.out HUP.out.1 (HM1.out.kept (HB7.out.block _ (by have := HMB.out; omega))) (by have := HMB.out; omega) (by simp; omega) w1 HZ1.out HB7.out HSG.out HFG.out hgl HSUB.out HK.out (by omega) hSl
  have c7 : (wr.alloc (Obj.cells #[.slice ga g.length gc] 24)).cell? ⟨db, 0, none⟩ = some (.slice (some ⟨gm, 0, none⟩) n n) := cell_new c0
  have hz7 : w.heap.size + 1 ≤ (wr.alloc (Obj.cells #[.slice ga g.length gc] 24)).heap.size := by simp; omega
  have e7 : (wr.alloc (Obj.cells #[.slice ga g.length gc] 24)).cell? ⟨wr.heap.size, 0, none⟩ = some (.slice ga g.length gc) := by simp
  clear HSG HFG HSUB HO HI HK HP kB kd kr ks c0 HA HB hla hlb b7
  go_wp2_with fail
  refine HLAY.mono ?_
  rintro e w8 ⟨rfl, L', hO', hI', hK', hb', hgs'⟩
  clear HLAY c7 e7
  generalize wr.alloc (Obj.cells #[.slice ga g.length gc] 24) = w7 at *
  have HE : Hid (OwnS (w.heap.size + 1) L' (.slice (some ⟨gm, 0, none⟩) n n) w8 ∧ InvM S (fun s => (1 ≤ k + 1 ∧ VG a s) ∨ (2 ≤ k + 1 ∧ VG b s)) (fun s t => (1 ≤ k + 1 ∧ EG a s t) ∨ (2 ≤ k + 1 ∧ EG b s t)) (L'.map Prod.fst) ∧ (∀ p ∈ L', p.1.links.length ≤ (k + 1) * 160000) ∧ Kq w8) := by
    refine ⟨hO', hI'.congr (fun s h => (HVG.out s).1 h) (fun s t => (HEG.out s t).symm), fun p hp => ?_, HKB.out _ _ HP7.out hb' hgs'⟩
    have h1 := hK' p hp
    have h2 : g.length * 400 ≤ 400 * 400 := Nat.mul_le_mul_right _ hgl
    omega
  clear hO' hI' hK' hb' hgs' HVG HEG HP7 HB7
  go_wp2_with fail
  exact ⟨⟨k + 1, L', by go_num, by omega, HE.out⟩, by simp [intOf]; omega⟩
end Go.Proofs.Ytjpbfckdiojghaa
