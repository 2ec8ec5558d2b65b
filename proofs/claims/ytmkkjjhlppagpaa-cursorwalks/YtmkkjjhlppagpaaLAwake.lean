/- The example of chapter 21. -/
import Derived.Test.YtmkkjjhlppagpaaRAll
import Derived.Test.YtmkkjjhlppagpaaRField
import Derived.Test.YtmkkjjhlppagpaaCOrd
namespace Go.Proofs.Ytmkkjjhlppagpaa
open Go.RowKit

theorem SlP.own (l : List Int) {v : Value} {W : World} (h : SlP l v W) : ∃ ao c, v = .slice ao l.length c ∧ RowI l ao W := by
  obtain ⟨ao, c, e, h1, _⟩ := h
  exact ⟨ao, c, e, h1⟩
/-- ints, over rows that are read. -/
theorem ints_call (l m : List Int) (lv mv : Value) (w : World) (hl : SlP l lv w) (hm : SlP m mv w) (hll : l.length ≤ 140737488351232) (hml : m.length ≤ 140737488351232) :
    Calls Try.prog 12 #[lv, mv] w fun e w' => e = .returned (.bool (decide (l = m))) ∧ Below w.heap.size w w' := by
  obtain ⟨la, lc, rfl, h1, _⟩ := hl
  obtain ⟨ma, mc, rfl, h2, _⟩ := hm
  exact ints_any l m la ma lc mc w h1 h2 hll hml
theorem SlP.two {W : World} (i j : Int) : SlP [i, j] (.slice (some ⟨W.heap.size, 0, none⟩) 2 2) (W.alloc (Obj.cells #[.int .i64 i, .int .i64 j] 3)) :=
  ⟨_, 2, rfl, fun k x hx => ⟨W.heap.size, 0, rfl, by simp, by
    match k, hx with
    | 0, hx => simp at hx; subst hx; simp
    | 1, hx => simp at hx; subst hx; simp⟩, (fun h => by cases h), by simp, by omega⟩
theorem OwnPP.at {B : Nat} {L : List Pl} {v : Value} {W : World} (h : OwnPP B L v W) {i : Nat} (hi : i < L.length) : ∃ g cap, v = .slice (some ⟨g, 0, none⟩) L.length cap ∧ W.cell? ⟨g, i, none⟩ = some L[i].2 ∧ SlP L[i].1 L[i].2 W := by
  rcases h.own.2 with ⟨rfl, hn⟩ | ⟨g, cap, cur, rfl, hB, hg, hle, hmx, hcs, htk⟩
  · omega
  · refine ⟨g, cap, rfl, ?_, h.sl _ (List.getElem_mem hi)⟩
    have e1 : (cur.toList.take (L.length * 1))[i]? = some L[i].2 := by rw [htk, List.getElem?_map, List.getElem?_eq_getElem hi]; rfl
    rw [List.getElem?_take, if_pos (by omega)] at e1
    simp [World.cell?, hg]
    simpa using e1
def cE : Nd := .mk ⟨⟨#[99]⟩, false, ⟨#[]⟩, 0, 0, 0⟩ []
def aE : Nd := .mk ⟨⟨#[97]⟩, false, ⟨#[102]⟩, 0, 0, 0⟩ [cE]
def bE : Nd := .mk ⟨⟨#[98]⟩, false, ⟨#[]⟩, 0, 0, 0⟩ []
def rE : Nd := .mk ⟨⟨#[114]⟩, false, ⟨#[]⟩, 0, 0, 0⟩ [aE, bE]
theorem cnt_rE : cntN rE = 4 := by simp [rE, aE, bE, cE, cntN, cntL]
theorem all_rE : allP [] rE = [[], [0], [0, 0], [1]] := by simp [rE, aE, bE, cE, allP, allL]
theorem find00 : findN rE [0, 0] = some cE := by rw [findN_yes (by decide) (by simp [rE, Nd.kids])]; rw [findN_yes (by decide) (by simp [rE, aE, Nd.kids])]; simp [findN, rE, aE, Nd.kids]
theorem find0 : findN rE [0] = some aE := by rw [findN_yes (by decide) (by simp [rE, Nd.kids])]; simp [findN, rE, Nd.kids]
theorem find1 : findN rE [1] = some bE := by rw [findN_yes (by decide) (by simp [rE, Nd.kids])]; simp [findN, rE, Nd.kids]
theorem findE : findN rE [] = some rE := rfl
theorem next_rE : nextN rE [0, 0] = some [1] := by
  unfold nextN
  rw [find00]
  have h1 : upR rE ([0] ++ [0]) = _ := upR_snoc rE [0] 0
  have h2 : upR rE ([] ++ [0]) = _ := upR_snoc rE [] 0
  rw [asideN_snoc, find0] at h1
  rw [asideN_snoc, findE] at h2
  simp only [List.nil_append, List.cons_append] at h1 h2
  simp only
  rw [h1, h2]
  simp [hasI, cE, aE, rE, Nd.kids]
theorem field_rE : fieldN rE [] ⟨#[102]⟩ = some [0] := by
  unfold fieldN
  rw [findE]
  simp [fieldI, rE, aE, Nd.kids, Nd.h, List.findIdx?_cons]
theorem down_rE : downN rE [1] = none := by
  unfold downN
  rw [find1]
  simp [hasI, bE, Nd.kids]
def rowA : Array Value := #[.string ⟨#[99]⟩, .bool false, .string ⟨#[]⟩, .int .i64 0, .int .i64 0, .int .i64 0, .slice none 0 0]
def rowB (b : Nat) : Array Value := #[.string ⟨#[97]⟩, .bool false, .string ⟨#[102]⟩, .int .i64 0, .int .i64 0, .int .i64 0, .slice (some ⟨b, 0, none⟩) 1 1, .string ⟨#[98]⟩, .bool false, .string ⟨#[]⟩, .int .i64 0, .int .i64 0, .int .i64 0, .slice none 0 0]
theorem rE_at (b : Nat) (W : World) (h1 : W.heap[b]? = some (.cells rowA 24 (0, 0))) (h2 : W.heap[b + 1]? = some (.cells (rowB b) 24 (0, 0))) : TAt (fun k => k = b ∨ k = b + 1) 3 rE (ndV rE.h (.slice (some ⟨b + 1, 0, none⟩) 2 2)) W := by
  have ok : ∀ (k f : ByteArray), k.size ≤ 10 → f.size ≤ 10 → HdOk ⟨k, false, f, 0, 0, 0⟩ := fun k f h1 h2 => ⟨by unfold i64B; simp only; omega, by unfold i64B; simp only; omega, by unfold i64B; simp only; omega, by simp only; omega, by simp only; omega⟩
  have c1 : ∀ o, W.cell? ⟨b, o, none⟩ = rowA[o]? := fun o => by simp [World.cell?, h1]
  have c2 : ∀ o, W.cell? ⟨b + 1, o, none⟩ = (rowB b)[o]? := fun o => by simp [World.cell?, h2]
  have l1 : b < W.heap.size := (Array.getElem?_eq_some_iff.1 h1).1
  have l2 : b + 1 < W.heap.size := (Array.getElem?_eq_some_iff.1 h2).1
  have hc : TAt (fun k => k = b ∨ k = b + 1) 1 cE (ndV cE.h (.slice none 0 0)) W := leaf_at _ _ (ok _ _ (by decide) (by decide)) _
  have ha : TAt (fun k => k = b ∨ k = b + 1) 2 aE (ndV aE.h (.slice (some ⟨b, 0, none⟩) 1 1)) W := by
    refine ⟨some ⟨b, 0, none⟩, 1, rfl, ok _ _ (by decide) (by decide), (fun h => by cases h), by simp [aE, Nd.kids], by simp [aE, Nd.kids], fun i t ht => ?_⟩
    have hk : aE.kids = [cE] := rfl
    rw [hk] at ht
    match i, ht with
    | 0, ht =>
      simp at ht
      subst ht
      exact ⟨b, 0, none, 0, rfl, .inl rfl, l1, ⟨c1 _, c1 _, c1 _, c1 _, c1 _, c1 _, c1 _⟩, hc⟩
  refine ⟨some ⟨b + 1, 0, none⟩, 2, rfl, ok _ _ (by decide) (by decide), (fun h => by cases h), by simp [rE, Nd.kids], by simp [rE, Nd.kids], fun i t ht => ?_⟩
  have hk : rE.kids = [aE, bE] := rfl
  rw [hk] at ht
  match i, ht with
  | 0, ht =>
    simp at ht
    subst ht
    exact ⟨b + 1, 0, some ⟨b, 0, none⟩, 1, rfl, .inr rfl, l2, ⟨c2 _, c2 _, c2 _, c2 _, c2 _, c2 _, c2 _⟩, ha⟩
  | 1, ht =>
    simp at ht
    subst ht
    exact ⟨b + 1, 0, none, 0, rfl, .inr rfl, l2, ⟨c2 _, c2 _, c2 _, c2 _, c2 _, c2 _, c2 _⟩, TAt.more (m := 2) (leaf_at _ _ (ok _ _ (by decide) (by decide)) _ : TAt (fun k => k = b ∨ k = b + 1) 1 bE _ W) (by decide)⟩

set_option maxRecDepth 100000 in
set_option maxHeartbeats 8000000 in
theorem awake_any (w : World) : Calls Try.prog 9 #[] w fun e w' => e = .returned (.bool true) ∧ Below w.heap.size w w' := by
  obtain ⟨W0, hW0⟩ : ∃ W0, W0 = ((w.alloc (Obj.cells rowA 24)).alloc (Obj.cells (rowB w.heap.size) 24)).alloc (Obj.cells #[.string ⟨#[114]⟩, .bool false, .string ⟨#[]⟩, .int .i64 0, .int .i64 0, .int .i64 0, .slice (some ⟨w.heap.size + 1, 0, none⟩) 2 2] 24) := ⟨_, rfl⟩
  have hB0 : Below w.heap.size w W0 := by rw [hW0]; exact (((Below.refl _ _).alloc (Nat.le_refl _) _).alloc (by simp) _).alloc (by simp; omega) _
  have b0 : W0.heap[w.heap.size]? = some (.cells rowA 24 (0, 0)) := by rw [hW0]; exact (Below.heap_alloc _ _ _ (by simp; omega)).trans ((Below.heap_alloc _ _ _ (by simp)).trans (World.alloc_heap_new w _))
  have b1 : W0.heap[w.heap.size + 1]? = some (.cells (rowB w.heap.size) 24 (0, 0)) := by
    have := World.alloc_heap_new (w.alloc (Obj.cells rowA 24)) (Obj.cells (rowB w.heap.size) 24)
    rw [World.size_alloc] at this
    rw [hW0]; exact (Below.heap_alloc _ _ _ (by simp)).trans this
  have b2 : W0.heap[w.heap.size + 1 + 1]? = some (.cells #[.string ⟨#[114]⟩, .bool false, .string ⟨#[]⟩, .int .i64 0, .int .i64 0, .int .i64 0, .slice (some ⟨w.heap.size + 1, 0, none⟩) 2 2] 24 (0, 0)) := by
    have := World.alloc_heap_new ((w.alloc (Obj.cells rowA 24)).alloc (Obj.cells (rowB w.heap.size) 24)) (Obj.cells #[.string ⟨#[114]⟩, .bool false, .string ⟨#[]⟩, .int .i64 0, .int .i64 0, .int .i64 0, .slice (some ⟨w.heap.size + 1, 0, none⟩) 2 2] 24)
    rw [World.size_alloc, World.size_alloc] at this
    rw [hW0]; exact this
  have hz : W0.heap.size = w.heap.size + 1 + 1 + 1 := by rw [hW0]; simp
  have HT : Hid (∀ W, Below W0.heap.size W0 W → TAt (fun k => k = w.heap.size ∨ k = w.heap.size + 1) 3 rE (.agg #[.string ⟨#[114]⟩, .bool false, .string ⟨#[]⟩, .int .i64 0, .int .i64 0, .int .i64 0, .slice (some ⟨w.heap.size + 1, 0, none⟩) 2 2]) W) := fun W hb => (rE_at _ _ b0 b1).next hb
  have HR : Hid (∀ W, Below W0.heap.size W0 W → W.heap[w.heap.size + 1 + 1]? = some (.cells #[.string ⟨#[114]⟩, .bool false, .string ⟨#[]⟩, .int .i64 0, .int .i64 0, .int .i64 0, .slice (some ⟨w.heap.size + 1, 0, none⟩) 2 2] 24 (0, 0))) := fun W hb => (hb.block _ (by omega)).trans b2
  have hc : cntN rE ≤ 5000 := by rw [cnt_rE]; decide
  have HAL : Hid (∀ W, Below W0.heap.size W0 W → Calls Try.prog 23 #[.agg #[.string ⟨#[114]⟩, .bool false, .string ⟨#[]⟩, .int .i64 0, .int .i64 0, .int .i64 0, .slice (some ⟨w.heap.size + 1, 0, none⟩) 2 2]] W fun e w' => ∃ (L : List Pl) (rv : Value), L.map Prod.fst = allP [] rE ∧ e = .returned rv ∧ OwnPP W.heap.size L rv w' ∧ Below W.heap.size W w') := fun W hb => all_any 3 rE _ W (HT.out W hb) hc
  have HNX : Hid (∀ W pv, Below W0.heap.size W0 W → SlP [0, 0] pv W → Calls Try.prog 19 #[.agg #[.string ⟨#[114]⟩, .bool false, .string ⟨#[]⟩, .int .i64 0, .int .i64 0, .int .i64 0, .slice (some ⟨w.heap.size + 1, 0, none⟩) 2 2], pv] W fun e w' => GivesP W.heap.size (some [1]) e w' ∧ Below W.heap.size W w') := fun W pv hb hp => by
    have := next_any 3 rE _ [0, 0] pv W (HT.out W hb) hc hp (by decide)
    rw [next_rE] at this
    exact this
  have HFI : Hid (∀ W, Below W0.heap.size W0 W → Calls Try.prog 21 #[.agg #[.string ⟨#[114]⟩, .bool false, .string ⟨#[]⟩, .int .i64 0, .int .i64 0, .int .i64 0, .slice (some ⟨w.heap.size + 1, 0, none⟩) 2 2], .slice none 0 0, .string ⟨#[102]⟩] W fun e w' => GivesP W.heap.size (some [0]) e w' ∧ Below W.heap.size W w') := fun W hb => by
    have := field_any 3 rE _ [] (.slice none 0 0) ⟨#[102]⟩ W (HT.out W hb) hc (SlP.nil W) (by decide)
    rw [field_rE] at this
    exact this
  have HDN : Hid (∀ W pv, Below W0.heap.size W0 W → SlP [1] pv W → Calls Try.prog 10 #[.agg #[.string ⟨#[114]⟩, .bool false, .string ⟨#[]⟩, .int .i64 0, .int .i64 0, .int .i64 0, .slice (some ⟨w.heap.size + 1, 0, none⟩) 2 2], pv] W fun e w' => GivesP W.heap.size none e w' ∧ Below W.heap.size W w') := fun W pv hb hp => by
    have := down_any 3 rE _ [1] pv W (HT.out W hb) hc hp (by decide)
    rw [down_rE] at this
    exact this
  clear HT b0 b1 b2 hc
  unfold rowA rowB at hW0
  have hz2 : w.heap.size + 1 + 1 < W0.heap.size := by omega
  clear hz
  have hc1 := HAL.out W0 (Below.refl _ _)
  rw [hW0] at hc1
  go_enter Try.func9, Try.ntmps9
  go_wp2_with fail
  refine hc1.mono ?_
  rw [← hW0]
  rintro e w1 ⟨L, lv, hL, rfl, hlo, hb1⟩
  clear hc1 hW0
  have HLO : Hid (L.map Prod.fst = [[], [0], [0, 0], [1]] ∧ OwnPP W0.heap.size L lv w1) := ⟨by rw [hL, all_rE], hlo⟩
  have hL4 : L.length = 4 := by have := congrArg List.length HLO.out.1; simpa using this
  obtain ⟨lg, lc, hlv, hq1, hq2⟩ := hlo.at (i := 2) (by omega)
  clear hq1 hq2
  rw [hL4] at hlv
  subst hlv
  have HLT : Hid (∀ W, Below w1.heap.size w1 W → ∃ xv, W.cell? ⟨lg, 2, none⟩ = some xv ∧ SlP [0, 0] xv W) := fun W hb => by
    have h1 : (L.map Prod.fst)[2]? = some [0, 0] := by rw [HLO.out.1]; rfl
    rw [List.getElem?_map, List.getElem?_eq_getElem (by omega)] at h1
    have h2 : L[2].1 = [0, 0] := by simpa using h1
    have h3 := hlo.sl L[2] (List.getElem_mem _)
    rw [h2] at h3
    obtain ⟨g, cap, e1, e2, _⟩ := hlo.at (i := 2) (by omega)
    injection e1 with e1
    injection e1 with e1
    injection e1 with e1
    subst e1
    exact ⟨_, (hb.cell (p := ⟨lg, 2, none⟩) (World.block_lt_of_cell? _ _ e2)).trans e2, h3.next hb⟩
  have HB1 : Hid (Below W0.heap.size W0 w1) := hb1
  obtain ⟨v0, v1, v2, v3, v4, v5, v6⟩ := cells7_at (HR.out w1 hb1)
  have hn1 : Below w1.heap.size w1 (w1.alloc (Obj.cells #[.int .i64 0, .int .i64 0] 3)) := (Below.refl _ _).alloc (Nat.le_refl _) _
  have hnx := HNX.out _ _ (below_next hb1 hn1) (SlP.two (W := w1) 0 0)
  have HB2 : Hid (Below W0.heap.size W0 (w1.alloc (Obj.cells #[.int .i64 0, .int .i64 0] 3)) ∧ Below w1.heap.size w1 (w1.alloc (Obj.cells #[.int .i64 0, .int .i64 0] 3))) := ⟨below_next hb1 hn1, hn1⟩
  clear hL hlo hb1 hn1 HLO HAL HNX
  go_wp2_with fail
  refine hnx.mono ?_
  rintro e w2 ⟨⟨xv, rfl, hx⟩, hb2⟩
  have HB3 : Hid (Below W0.heap.size W0 w2 ∧ Below w1.heap.size w1 w2) := ⟨below_next HB2.out.1 hb2, below_next HB2.out.2 hb2⟩
  have HX : Hid (SlP [1] xv w2) := SlP.of_own hx
  clear hnx hx hb2 v0 v1 v2 v3 v4 v5 v6 HB2
  obtain ⟨v0, v1, v2, v3, v4, v5, v6⟩ := cells7_at (HR.out w2 HB3.out.1)
  have hfi := HFI.out w2 HB3.out.1
  simp only [Option.isSome_some]
  go_wp2_with fail
  refine hfi.mono ?_
  rintro e w3 ⟨⟨fv, rfl, hx⟩, hb3⟩
  have HB4 : Hid (Below W0.heap.size W0 w3 ∧ Below w1.heap.size w1 w3) := ⟨below_next HB3.out.1 hb3, below_next HB3.out.2 hb3⟩
  have HF : Hid (SlP [0] fv w3 ∧ SlP [1] xv w3) := ⟨SlP.of_own hx, HX.out.next hb3⟩
  clear hfi hx hb3 v0 v1 v2 v3 v4 v5 v6 HB3 HX HFI
  obtain ⟨v0, v1, v2, v3, v4, v5, v6⟩ := cells7_at (HR.out w3 HB4.out.1)
  have hn1 : Below w3.heap.size w3 (w3.alloc (Obj.cells #[.int .i64 1] 3)) := (Below.refl _ _).alloc (Nat.le_refl _) _
  have hdn := HDN.out _ _ (below_next HB4.out.1 hn1) (SlP.one (W := w3) 1)
  have HB5 : Hid (Below w3.heap.size w3 (w3.alloc (Obj.cells #[.int .i64 1] 3))) := hn1
  clear hn1 HDN HR
  simp only [Option.isSome_some]
  go_wp2_with fail
  refine hdn.mono ?_
  rintro e w4 ⟨⟨dv, rfl, _⟩, hb4⟩
  have hb34 := below_next HB5.out hb4
  have HB6 : Hid (Below W0.heap.size W0 w4 ∧ Below w1.heap.size w1 w4 ∧ SlP [0] fv w4 ∧ SlP [1] xv w4) := ⟨below_next HB4.out.1 hb34, below_next HB4.out.2 hb34, HF.out.1.next hb34, HF.out.2.next hb34⟩
  clear hdn hb4 hb34 HB4 HB5 HF v0 v1 v2 v3 v4 v5 v6
  obtain ⟨lx, hlx, hls⟩ := HLT.out w4 HB6.out.2.1
  have hn1 : Below w4.heap.size w4 (w4.alloc (Obj.cells #[.int .i64 0, .int .i64 0] 3)) := (Below.refl _ _).alloc (Nat.le_refl _) _
  have hi1 := ints_call [0, 0] [0, 0] lx _ _ (hls.next hn1) (SlP.two (W := w4) 0 0) (by decide) (by decide)
  have HB7 : Hid (Below W0.heap.size W0 (w4.alloc (Obj.cells #[.int .i64 0, .int .i64 0] 3)) ∧ SlP [0] fv (w4.alloc (Obj.cells #[.int .i64 0, .int .i64 0] 3)) ∧ SlP [1] xv (w4.alloc (Obj.cells #[.int .i64 0, .int .i64 0] 3))) := ⟨below_next HB6.out.1 hn1, HB6.out.2.2.1.next hn1, HB6.out.2.2.2.next hn1⟩
  clear hn1 hls HB6 HLT
  simp only [Option.isSome_none]
  go_wp2_with fail
  refine hi1.mono ?_
  rintro e w5 ⟨rfl, hb5⟩
  have HB8 : Hid (Below W0.heap.size W0 w5 ∧ SlP [0] fv w5 ∧ SlP [1] xv w5) := ⟨below_next HB7.out.1 hb5, HB7.out.2.1.next hb5, HB7.out.2.2.next hb5⟩
  clear hi1 hb5 HB7 hlx
  have hn1 : Below w5.heap.size w5 (w5.alloc (Obj.cells #[.int .i64 1] 3)) := (Below.refl _ _).alloc (Nat.le_refl _) _
  have hi1 := ints_call [1] [1] xv _ _ (HB8.out.2.2.next hn1) (SlP.one (W := w5) 1) (by decide) (by decide)
  have HB9 : Hid (Below W0.heap.size W0 (w5.alloc (Obj.cells #[.int .i64 1] 3)) ∧ SlP [0] fv (w5.alloc (Obj.cells #[.int .i64 1] 3))) := ⟨below_next HB8.out.1 hn1, HB8.out.2.1.next hn1⟩
  clear hn1 HB8
  go_wp2_with fail
  refine hi1.mono ?_
  rintro e w6 ⟨rfl, hb6⟩
  have HB10 : Hid (Below W0.heap.size W0 w6 ∧ SlP [0] fv w6) := ⟨below_next HB9.out.1 hb6, HB9.out.2.next hb6⟩
  clear hi1 hb6 HB9
  have hn1 : Below w6.heap.size w6 (w6.alloc (Obj.cells #[.int .i64 0] 3)) := (Below.refl _ _).alloc (Nat.le_refl _) _
  have hi1 := ints_call [0] [0] fv _ _ (HB10.out.2.next hn1) (SlP.one (W := w6) 0) (by decide) (by decide)
  have HB11 : Hid (Below W0.heap.size W0 (w6.alloc (Obj.cells #[.int .i64 0] 3))) := below_next HB10.out.1 hn1
  clear hn1 HB10
  go_wp2_with fail
  refine hi1.mono ?_
  rintro e w7 ⟨rfl, hb7⟩
  have HB12 : Hid (Below W0.heap.size W0 w7) := below_next HB11.out hb7
  clear hi1 hb7 HB11
  have hn1 : Below w7.heap.size w7 (w7.alloc (Obj.cells #[.int .i64 0] 3)) := (Below.refl _ _).alloc (Nat.le_refl _) _
  have hn2 : Below (w7.alloc (Obj.cells #[.int .i64 0] 3)).heap.size (w7.alloc (Obj.cells #[.int .i64 0] 3)) ((w7.alloc (Obj.cells #[.int .i64 0] 3)).alloc (Obj.cells #[.int .i64 0, .int .i64 1] 3)) := (Below.refl _ _).alloc (Nat.le_refl _) _
  have ho := order_any [0] [0, 1] _ _ _ ((SlP.one (W := w7) 0).next hn2) (SlP.two (W := w7.alloc (Obj.cells #[.int .i64 0] 3)) 0 1) (by decide) (by decide)
  have HB13 : Hid (Below W0.heap.size W0 ((w7.alloc (Obj.cells #[.int .i64 0] 3)).alloc (Obj.cells #[.int .i64 0, .int .i64 1] 3))) := below_next (below_next HB12.out hn1) hn2
  rw [show (w7.alloc (Obj.cells #[.int .i64 0] 3)).heap.size = w7.heap.size + 1 by simp] at ho
  clear hn1 hn2 HB12
  go_wp2_with fail
  refine ho.mono ?_
  rintro e w8 ⟨rfl, rfl⟩
  have HO : Hid (ordN [0] [0, 1] = -1) := rfl
  clear ho
  rw [HO.out]
  go_wp2_with fail
  go_ret
  exact ⟨rfl, below_next hB0 HB13.out⟩
end Go.Proofs.Ytmkkjjhlppagpaa
