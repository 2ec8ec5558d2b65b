/- Stacks: the document's Merge. -/
import Derived.Test.YtjpbfckdiojghaaWPush
import Derived.Test.YtjpbfckdiojghaaMLay0
namespace Go.Proofs.Ytjpbfckdiojghaa
open Go.RowKit

set_option maxRecDepth 100000 in
set_option maxHeartbeats 8000000 in
theorem rmerge_any (a b : List Gn) (u v : Value) (w : World) (ha : SlN a u w) (hb : SlN b v w) (hfa : fitP a) (hfb : fitP b) (hla : a.length ≤ 400) (hlb : b.length ≤ 400) :
    Calls Try.prog 12 #[.agg #[u], .agg #[v]] w fun e w' => ∃ m ma mc, e = .returned (.agg #[.slice ma (List.length m) mc]) ∧ Joins2 a b m ∧ SlN m (.slice ma m.length mc) w' ∧ Below w.heap.size w w' := by
  have HA : Hid (∀ W, Below w.heap.size w W → SlN a u W) := fun W h => ha.next h
  have HBL : Hid (∀ W, Below w.heap.size w W → SlN b v W) := fun W h => hb.next h
  have HFA : Hid (fitP a) := hfa
  have HFB : Hid (fitP b) := hfb
  clear hfa hfb
  obtain ⟨aa, ac, rfl, _⟩ := ha
  obtain ⟨ba, bc, rfl, _⟩ := hb
  obtain ⟨w0, hw0⟩ : ∃ w0, w0 = ((w.alloc (Obj.cells #[.slice aa a.length ac] 24)).alloc (Obj.cells #[.slice ba b.length bc] 24)).alloc (Obj.cells #[.slice none 0 0] 24) := ⟨_, rfl⟩
  have B0 : Below w.heap.size w w0 := by rw [hw0]; exact (((Below.refl _ _).alloc (Nat.le_refl _) _).alloc (by simp) _).alloc (by simp; omega) _
  have k0 : w0.heap[w.heap.size]? = some (Obj.cells #[.slice aa a.length ac] 24) := by rw [hw0]; exact blk_new (blk_new (heap_alloc_new _ _))
  have k1 : w0.heap[w.heap.size + 1]? = some (Obj.cells #[.slice ba b.length bc] 24) := by rw [hw0]; exact blk_new (by simpa using heap_alloc_new (w.alloc (Obj.cells #[.slice aa a.length ac] 24)) (Obj.cells #[.slice ba b.length bc] 24))
  have k2 : w0.heap[w.heap.size + 1 + 1]? = some (Obj.cells #[.slice none 0 0] 24) := by rw [hw0]; simpa using heap_alloc_new ((w.alloc (Obj.cells #[.slice aa a.length ac] 24)).alloc (Obj.cells #[.slice ba b.length bc] 24)) (Obj.cells #[.slice none 0 0] 24)
  have hz0 : w0.heap.size = w.heap.size + 1 + 1 + 1 := by rw [hw0]; simp
  have HT : Hid (∀ W, Below w0.heap.size w0 W → W.cell? ⟨w.heap.size + 1, 0, none⟩ = some (.slice ba b.length bc) ∧ W.heap[w.heap.size + 1 + 1]? = some (Obj.cells #[.slice none 0 0] 24) ∧ Below w.heap.size w W) := fun W hW => by
    have h2 := (hW.block _ (blk_lt k1)).trans k1
    have h3 := (hW.block _ (blk_lt k2)).trans k2
    exact ⟨by rw [Lib.cell_of_heap h2]; rfl, h3, below_then B0 hW B0.size⟩
  have HNJ : Hid (∀ j (hj : j < b.length), ∃ p o u, ba = some ⟨p, o, none⟩ ∧ i64B b[j].st ∧ i64B b[j].pl ∧ (∃ a c, u = .slice a b[j].links.length c) ∧ ∀ W, Below w.heap.size w W → W.cell? ⟨p, o + j * 3, none⟩ = some (.int .i64 b[j].st) ∧ W.cell? ⟨p, o + j * 3 + 1, none⟩ = some (.int .i64 b[j].pl) ∧ W.cell? ⟨p, o + j * 3 + 2, none⟩ = some u ∧ SlI b[j].links u W) := fun j hj => by
    obtain ⟨_, _, e, hgn, _⟩ := HBL.out w (Below.refl _ _)
    cases e
    obtain ⟨p, o, u, e, hb, q0, q1, q2, hs, i1, i2, _⟩ := hgn.at (Below.refl _ _) hj
    exact ⟨p, o, u, e, i1, i2, hs.imp fun _ h => h.imp fun _ h => h.1, fun W hW => ⟨(hW.cell (p := ⟨p, o + j * 3, none⟩) hb).trans q0, (hW.cell (p := ⟨p, o + j * 3 + 1, none⟩) hb).trans q1, (hW.cell (p := ⟨p, o + j * 3 + 2, none⟩) hb).trans q2, hs.next hW⟩⟩
  have b1 : Below w0.heap.size w0 (w0.alloc (Obj.cells #[.slice aa a.length ac] 24)) := below_box _ _ _
  have ko : (w0.alloc (Obj.cells #[.slice aa a.length ac] 24)).heap[w0.heap.size]? = some (Obj.cells #[.slice aa a.length ac] 24) := heap_alloc_new _ _
  have HS1 : Hid (SlN a (.slice aa a.length ac) (w0.alloc (Obj.cells #[.slice aa a.length ac] 24))) := HA.out _ (below_then B0 b1 B0.size)
  have HB1 : Hid (Below w0.heap.size w0 (w0.alloc (Obj.cells #[.slice aa a.length ac] 24))) := b1
  have c0 : w0.cell? ⟨w.heap.size, 0, none⟩ = some (.slice aa a.length ac) := by rw [Lib.cell_of_heap k0]; rfl
  go_enter Try.func12, Try.ntmps12
  go_upto_region 1 with fail
  rw [← hw0]
  have HZ0 : Hid (w0.heap.size = w.heap.size + 1 + 1 + 1) := hz0
  clear hw0 k0 k1 k2 B0 b1 hz0
  go_wp2_with fail
  obtain ⟨ob, hob⟩ : ∃ ob, ob = w0.heap.size := ⟨_, rfl⟩
  have HOB : Hid (ob = w0.heap.size) := hob
  rw [← hob] at ko ⊢
  clear hob c0
  generalize w0.alloc (Obj.cells #[.slice aa a.length ac] 24) = w1 at *
  go_loopw [6] (fun iv wr => ∃ (i : Nat) (M : List Gn) (ma : Option Addr) (mc : Nat), iv = .int .i64 i ∧ i ≤ b.length ∧ Hid (fitP M) ∧ Hid (∀ s, VG M s ↔ VG a s ∨ ∃ x ∈ b.take i, spG x = s) ∧ Hid (∀ s t, EG M s t ↔ EG a s t) ∧ M.length ≤ a.length + i ∧ Hid (SlN M (.slice ma M.length mc) wr) ∧ Hid (Below w0.heap.size w0 wr) ∧ Hid (wr.heap[ob]? = some (Obj.cells #[.slice ma M.length mc] 24))) (fun i _ => b.length - (intOf i).toNat)
  case atStart => exact ⟨0, a, aa, ac, rfl, Nat.zero_le _, HFA, fun s => by simp, fun s t => Iff.rfl, by omega, HS1, HB1, ko⟩
  case round =>
  clear HS1 HB1 ko
  obtain ⟨i, M, ma, mc, rfl, hi, HFM, HVM, HEM, hMl, HSM, HBR, HKO⟩ := hrel
  obtain ⟨tb, tr, tB⟩ := HT.out wr HBR.out
  have co : wr.cell? ⟨ob, 0, none⟩ = some (.slice ma M.length mc) := by rw [Lib.cell_of_heap HKO.out]; rfl
  by_cases hlt : i < b.length
  case neg =>
    obtain rfl : i = b.length := by omega
    have HVM2 : Hid (∀ s, VG M s ↔ VG a s ∨ VG b s) := fun s => by have := HVM.out s; rw [List.take_length] at this; exact this
    clear HVM hi hlt
    have HEND : Hid (∀ (m : List Gn) (na : Option Addr) (nc : Nat) W, Joins2 a b m → SlN m (.slice na m.length nc) W → Below w0.heap.size w0 W → W.heap[ob]? = some (Obj.cells #[.slice na m.length nc] 24) → W.cell? ⟨ob, 0, none⟩ = some (.slice na m.length nc) ∧ W.cell? ⟨w.heap.size + 1 + 1, 0, none⟩ = some (.slice none 0 0) ∧ W.frozen? ⟨w.heap.size + 1 + 1, 0, none⟩ = false ∧ (W.setCell ⟨w.heap.size + 1 + 1, 0, none⟩ (.slice na m.length nc)).heap[w.heap.size + 1 + 1]? = some (Obj.cells #[.slice na m.length nc] 24) ∧ SlN m (.slice na m.length nc) (W.setCell ⟨w.heap.size + 1 + 1, 0, none⟩ (.slice na m.length nc)) ∧ Below w.heap.size w (W.setCell ⟨w.heap.size + 1 + 1, 0, none⟩ (.slice na m.length nc))) := fun m na nc W hj hs hb hk => by
      obtain ⟨_, r9, B9⟩ := HT.out W hb
      refine ⟨by rw [Lib.cell_of_heap hk]; rfl, by rw [Lib.cell_of_heap r9]; rfl, Lib.frozen_of_heap r9 _, by simpa using blk_set (o := 0) r9 (.slice na m.length nc), hs.box r9 ((But.refl _ _).setCell _ _ (.inr rfl)), B9.setCell (by simp; omega) _⟩
    by_cases hM0 : M = []
    · subst hM0
      have hb0 : b = [] := by
        cases b with
        | nil => rfl
        | cons x l => have := (HVM2.out (spG x)).2 (.inr ⟨x, by simp, rfl⟩); obtain ⟨y, hy, _⟩ := this; simp at hy
      subst hb0
      have hJ : Joins2 a [] [] := ⟨HFM.out, HVM2.out, fun s t => (HEM.out s t).trans ⟨.inl, fun h => h.elim id (fun ⟨x, hx, _⟩ => by simp at hx)⟩⟩
      have HJ : Hid (Joins2 a [] []) := hJ
      have HSN := HSM.out
      simp only [List.length_nil] at *
      go_wp2_with (at_builtin; refine wpList_copy0 rfl _ _ rfl (.slice ma 0 mc) rfl rfl HSN ?_)
      intro na nc w6 hs6 b6
      have ko6 := (b6.block _ (blk_lt HKO.out)).trans HKO.out
      have co6 : w6.cell? ⟨ob, 0, none⟩ = some (.slice ma 0 mc) := by rw [Lib.cell_of_heap ko6]; rfl
      have cf6 : w6.frozen? ⟨ob, 0, none⟩ = false := Lib.frozen_of_heap ko6 _
      have hB7 : Below w0.heap.size w0 (w6.setCell ⟨ob, 0, none⟩ (.slice na 0 nc)) := (below_then HBR.out b6 HBR.out.size).setCell (by rw [← HOB.out]; exact Nat.le_refl _) _
      have tb7 := (HT.out _ hB7).1
      obtain ⟨_, r8, rf8, z8, HS8, HB8⟩ := HEND.out [] na nc (w6.setCell ⟨ob, 0, none⟩ (.slice na 0 nc)) HJ.out (hs6.box ko6 ((But.refl _ _).setCell _ _ (.inr rfl))) hB7 (by simpa using blk_set (o := 0) ko6 (.slice na 0 nc))
      have co7 : (w6.setCell ⟨ob, 0, none⟩ (.slice na 0 nc)).cell? ⟨ob, 0, none⟩ = some (.slice na 0 nc) := cell_set_eq ko6 (by simp) _
      simp only [List.length_nil] at *
      clear hB7 ko6 HSN HSM HBR HKO b6 hs6 HNJ HEND HT tb tr tB co HBL HA
      go_wp2_with fail
      obtain ⟨w7, hw7⟩ : ∃ w7, w7 = w6.setCell ⟨ob, 0, none⟩ (.slice na 0 nc) := ⟨_, rfl⟩
      rw [← hw7] at tb7 r8 rf8 z8 HS8 HB8 co7 ⊢
      clear hw7 co6 cf6
      go_loopw [9] (fun iv wq => iv = .int .i64 0 ∧ wq = w7) (fun _ _ => 0)
      case atStart => exact ⟨rfl, rfl⟩
      case round =>
      obtain ⟨rfl, rfl⟩ := hrel
      go_wp2_with fail
      refine bodyPost_ret (results_cell1 rfl _ _ _ rfl (run_loadVar_row _ _ _ _ _ _ _ z8 Try.underlying24 rfl (by kernel_rfl))) rfl ?_
      exact ⟨[], na, nc, rfl, HJ.out, HS8, HB8⟩
    have HCN := HSM.out
    have hml5 : M.length ≤ 5000 := by omega
    go_wp2_with (at_builtin; refine wpList_copyN rfl _ _ rfl wr.heap.size M (.slice ma M.length mc) rfl rfl HCN hM0 hml5 (fun x hx => by have := HFM.out.len hx; omega) (Nat.le_refl _) ?_)
    intro L g c w6 hL hR b6 hg6 hap6
    have ko6 := (b6.block _ (blk_lt HKO.out)).trans HKO.out
    have co6 : w6.cell? ⟨ob, 0, none⟩ = some (.slice ma M.length mc) := by rw [Lib.cell_of_heap ko6]; rfl
    have cf6 : w6.frozen? ⟨ob, 0, none⟩ = false := Lib.frozen_of_heap ko6 _
    have HOBL : Hid (ob < wr.heap.size ∧ w0.heap.size ≤ wr.heap.size) := ⟨blk_lt HKO.out, HBR.out.size⟩
    have HGB : Hid (w0.heap.size ≤ g ∧ g ≠ ob) := by have h1 := HOBL.out; show _ ∧ _; omega
    have b67 : But (fun k => k = ob) w6 (w6.setCell ⟨ob, 0, none⟩ (.slice (some ⟨g, 0, none⟩) M.length c)) := (But.refl _ _).setCell _ _ (.inr rfl)
    have HR7 : Hid (RowN w0.heap.size L (.slice (some ⟨g, 0, none⟩) M.length c) (w6.setCell ⟨ob, 0, none⟩ (.slice (some ⟨g, 0, none⟩) M.length c))) := by
      have h1 := hR.keep b67 (fun k hk e => by
        have h1 : g = k := by simpa [Value.ownBlock] using hk
        have := HGB.out.2
        omega) (fun p hp hne k hk e => (hR.links p hp).notBox hne ko6 (by rw [hk, e]))
      exact ⟨own_base h1.nodes HOBL.out.2, h1.links, h1.ok⟩
    have HB7 : Hid (Below w0.heap.size w0 (w6.setCell ⟨ob, 0, none⟩ (.slice (some ⟨g, 0, none⟩) M.length c))) := (below_then HBR.out b6 HBR.out.size).setCell (by rw [← HOB.out]; exact Nat.le_refl _) _
    have HK7 : Hid ((w6.setCell ⟨ob, 0, none⟩ (.slice (some ⟨g, 0, none⟩) M.length c)).heap[ob]? = some (Obj.cells #[.slice (some ⟨g, 0, none⟩) M.length c] 24)) := by show _ = _; simpa using blk_set (o := 0) ko6 (.slice (some ⟨g, 0, none⟩) M.length c)
    have HAP7 : Hid (∀ p ∈ L, p.1.links ≠ [] → p.2.ownBlock ≠ some g) := fun p hp hne => hap6 p.1 p.2 hp hne
    have HL7 : Hid (L.map Prod.fst = M) := hL
    have HLN : Hid (L.length = M.length) := by show _ = _; rw [← hL]; simp
    clear ko6 b67 hR b6 hg6 hap6 hL HSM HBR HKO HCN tb tr tB co HBL HA
    go_wp2_with fail
    obtain ⟨w7, HW7⟩ : ∃ w7, Hid (w6.setCell ⟨ob, 0, none⟩ (.slice (some ⟨g, 0, none⟩) M.length c) = w7) := ⟨_, rfl⟩
    rw [HW7.out] at HR7 HB7 HK7 ⊢
    have HFM7 : Hid (fitP (L.map Prod.fst) ∧ (∀ s, VG (L.map Prod.fst) s ↔ VG a s ∨ VG b s) ∧ (∀ s t, EG (L.map Prod.fst) s t ↔ EG a s t ∨ EdN b 0 s t)) := by
      rw [HL7.out]
      exact ⟨HFM.out, HVM2.out, fun s t => (HEM.out s t).trans ⟨.inl, fun h => h.elim id (fun ⟨x, hx, _⟩ => by simp at hx)⟩⟩
    obtain ⟨n, hn⟩ : ∃ n, n = M.length := ⟨_, rfl⟩
    rw [← hn] at HR7 HK7 HLN hml5 hMl ⊢
    clear co6 cf6 hM0 hn HL7 HW7 HVM2 HFM HEM
    go_loopw [9] (fun iv wq => ∃ (i : Nat) (L : List GnV), iv = .int .i64 i ∧ i ≤ b.length ∧ Hid (RowN w0.heap.size L (.slice (some ⟨g, 0, none⟩) n c) wq) ∧ Hid (L.length = n) ∧ Hid (fitP (L.map Prod.fst) ∧ (∀ s, VG (L.map Prod.fst) s ↔ VG a s ∨ VG b s) ∧ (∀ s t, EG (L.map Prod.fst) s t ↔ EG a s t ∨ EdN b i s t)) ∧ Hid (∀ p ∈ L, p.1.links ≠ [] → p.2.ownBlock ≠ some g) ∧ Hid (Below w0.heap.size w0 wq) ∧ Hid (wq.heap[ob]? = some (Obj.cells #[.slice (some ⟨g, 0, none⟩) n c] 24))) (fun i _ => b.length - (intOf i).toNat)
    case atStart => exact ⟨0, L, rfl, Nat.zero_le _, HR7, HLN, HFM7, HAP7, HB7, HK7⟩
    case round =>
    clear HR7 HLN HFM7 HAP7 HB7 HK7
    obtain ⟨i, L, rfl, hi, HR, HLN, HFM, HAP, HBR, HKO⟩ := hrel
    obtain ⟨tb, tr, tB⟩ := HT.out wr HBR.out
    have co : wr.cell? ⟨ob, 0, none⟩ = some (.slice (some ⟨g, 0, none⟩) n c) := by rw [Lib.cell_of_heap HKO.out]; rfl
    have HSL : Hid (∀ (L : List GnV) W, L.length = n → RowN w0.heap.size L (.slice (some ⟨g, 0, none⟩) n c) W → SlN (L.map Prod.fst) (.slice (some ⟨g, 0, none⟩) n c) W) := fun L W h1 h2 => h2.sl (by omega)
    by_cases hlt : i < b.length
    case neg =>
      obtain rfl : i = b.length := by omega
      have hJ : Joins2 a b (L.map Prod.fst) := ⟨HFM.out.1, HFM.out.2.1, fun s t => by rw [HFM.out.2.2 s t, EdN.all HFB.out]⟩
      have hml : (L.map Prod.fst).length = n := by rw [List.length_map, HLN.out]
      have HJ : Hid (Joins2 a b (L.map Prod.fst)) := hJ
      obtain ⟨_, r8, rf8, z8, HS8, HB8⟩ := HEND.out (L.map Prod.fst) (some ⟨g, 0, none⟩) c wr hJ (by rw [hml]; exact HSL.out L wr HLN.out HR.out) HBR.out (by rw [hml]; exact HKO.out)
      rw [hml] at z8 HS8 HB8
      have HE : Hid (Joins2 a b (L.map Prod.fst) ∧ SlN (L.map Prod.fst) (.slice (some ⟨g, 0, none⟩) (L.map Prod.fst).length c) (wr.setCell ⟨w.heap.size + 1 + 1, 0, none⟩ (.slice (some ⟨g, 0, none⟩) n c)) ∧ Below w.heap.size w (wr.setCell ⟨w.heap.size + 1 + 1, 0, none⟩ (.slice (some ⟨g, 0, none⟩) n c)) ∧ (L.map Prod.fst).length = n) := ⟨hJ, by rw [hml]; exact HS8, HB8, hml⟩
      clear hJ HJ HR HLN HFM HAP HBR HKO HEND HNJ HT HSL tr tB hml HS8 HB8
      go_wp2_with fail
      refine bodyPost_ret (results_cell1 rfl _ _ _ rfl (run_loadVar_row _ _ _ _ _ _ _ z8 Try.underlying24 rfl (by kernel_rfl))) rfl ?_
      exact ⟨L.map Prod.fst, some ⟨g, 0, none⟩, c, by rw [HE.out.2.2.2], HE.out.1, HE.out.2.1, HE.out.2.2.1⟩
    obtain ⟨b2, o2, yu, rfl, x64, y64, ⟨xa, xc, rfl⟩, hcells⟩ := HNJ.out i hlt
    obtain ⟨q0, q1, q2, _⟩ := hcells wr tB
    have HXL : Hid (∀ W, Below w.heap.size w W → SlI b[i].links (.slice xa b[i].links.length xc) W) := fun W hW => (hcells W hW).2.2.2
    have HTK : Hid (b.take (i + 1) = b.take i ++ [b[i]]) := List.take_succ_eq_append_getElem hlt
    have HFX : Hid (∀ j ∈ b[i].links, 0 ≤ j ∧ j < b.length ∧ ∀ y, b[j.toNat]? = some y → y.pl ≤ b[i].pl) := fun j hj => by
      have h0 := HFB.out.at_ (List.getElem?_eq_getElem hlt)
      obtain ⟨h1, y, hy, hle⟩ := h0.2.2.2 j hj
      exact ⟨h1, (HFB.out.links _ (List.getElem_mem hlt) j hj).2, fun y' hy' => by rw [hy] at hy'; cases hy'; exact hle⟩
    have HXC : Hid (b[i].links.length ≤ 4096) := HFB.out.len (List.getElem_mem hlt)
    have hxc := HXC.out
    have HXV : Hid (VG b (spG b[i])) := ⟨_, List.getElem_mem hlt, rfl⟩
    clear hcells HXC
    generalize b[i] = x at *
    obtain ⟨xs, xp, xk⟩ := x
    simp only at *
    obtain ⟨p0, hp0⟩ : ∃ p0 : Nat, ∃ z, (L.map Prod.fst)[p0]? = some z ∧ spG z = (xp, xs) := by
      obtain ⟨z, hz, e⟩ := (HFM.out.2.1 (xp, xs)).2 (.inr HXV.out)
      obtain ⟨k, hk⟩ := List.getElem?_of_mem hz
      exact ⟨k, z, hk, e⟩
    have HP0 : Hid (∃ z, (L.map Prod.fst)[p0]? = some z ∧ spG z = (xp, xs)) := hp0
    have HFV : Hid (findN xs xp (L.map Prod.fst) 0 = p0) := by obtain ⟨z, hz, e⟩ := hp0; exact find_spot HFM.out.1.up hz e
    have hpn : p0 < n := by obtain ⟨z, hz, _⟩ := hp0; have := (List.getElem?_eq_some_iff.1 hz).1; rw [List.length_map, HLN.out] at this; exact this
    clear hp0
    have bn : Below wr.heap.size wr (wr.alloc (Obj.cells #[.int .i64 xs, .int .i64 xp, .slice xa xk.length xc] 35)) := (Below.refl _ _).alloc (Nat.le_refl _) _
    have kn : (wr.alloc (Obj.cells #[.int .i64 xs, .int .i64 xp, .slice xa xk.length xc] 35)).heap[wr.heap.size]? = some (Obj.cells #[.int .i64 xs, .int .i64 xp, .slice xa xk.length xc] 35) := heap_alloc_new _ _
    have kon := (bn.block _ (blk_lt HKO.out)).trans HKO.out
    have con : (wr.alloc (Obj.cells #[.int .i64 xs, .int .i64 xp, .slice xa xk.length xc] 35)).cell? ⟨ob, 0, none⟩ = some (.slice (some ⟨g, 0, none⟩) n c) := cell_new co
    have hlmap : (L.map Prod.fst).length = n := by rw [List.length_map, HLN.out]
    have HCF := gfind_any (L.map Prod.fst) (.slice (some ⟨g, 0, none⟩) n c) xs xp (wr.alloc (Obj.cells #[.int .i64 xs, .int .i64 xp, .slice xa xk.length xc] 35)) (HSL.out L _ HLN.out (HR.out.next bn))
    rw [HFV.out] at HCF
    have HBN : Hid (Below wr.heap.size wr (wr.alloc (Obj.cells #[.int .i64 xs, .int .i64 xp, .slice xa xk.length xc] 35))) := bn
    clear bn hlmap
    go_wp2_with fail
    obtain ⟨xb, hxb⟩ : ∃ xb, xb = wr.heap.size := ⟨_, rfl⟩
    have HXB : Hid (g < xb ∧ ob < xb ∧ w0.heap.size ≤ xb) := by
      rw [hxb]
      exact ⟨(World.ownsRow.lt HR.out.nodes g rfl).2, blk_lt HKO.out, HBR.out.size⟩
    rw [← hxb] at kn ⊢
    refine HCF.mono ?_
    generalize wr.alloc (Obj.cells #[.int .i64 xs, .int .i64 xp, .slice xa xk.length xc] 35) = wn at *
    rintro e w3 ⟨rfl, b3⟩
    clear HCF hxb con q0 q1 q2 co
    have HB3 : Hid (Below wr.heap.size wr w3) := below_then HBN.out b3 HBN.out.size
    have ko3 := (b3.block _ (blk_lt kon)).trans kon
    have kn3 := (b3.block _ (blk_lt kn)).trans kn
    have HR3 : Hid (RowN w0.heap.size L (.slice (some ⟨g, 0, none⟩) n c) w3) := HR.out.next HB3.out
    have HW3 : Hid (Below w0.heap.size w0 w3) := below_then HBR.out HB3.out HBR.out.size
    have HFM3 : Hid (fitP (L.map Prod.fst) ∧ (∀ s, VG (L.map Prod.fst) s ↔ VG a s ∨ VG b s) ∧ (∀ s t, EG (L.map Prod.fst) s t ↔ (EG a s t ∨ EdN b i s t) ∨ EdK b ⟨xs, xp, xk⟩ 0 s t)) := ⟨HFM.out.1, HFM.out.2.1, fun s t => (HFM.out.2.2 s t).trans ⟨.inl, fun h => h.elim id (fun ⟨_, j, hj, _⟩ => by simp at hj)⟩⟩
    have n2 : w3.cell? ⟨xb, 2, none⟩ = some (.slice xa xk.length xc) := by rw [Lib.cell_of_heap kn3]; rfl
    clear kon kn HBN b3 HR HBR HKO HFM HB3 HFV tb tr tB
    go_wp2_with fail
    clear n2
    go_loopw [12] (fun iv wq => ∃ (k : Nat) (L : List GnV), iv = .int .i64 k ∧ k ≤ xk.length ∧ Hid (RowN w0.heap.size L (.slice (some ⟨g, 0, none⟩) n c) wq) ∧ Hid (L.length = n) ∧ Hid (fitP (L.map Prod.fst) ∧ (∀ s, VG (L.map Prod.fst) s ↔ VG a s ∨ VG b s) ∧ (∀ s t, EG (L.map Prod.fst) s t ↔ (EG a s t ∨ EdN b i s t) ∨ EdK b ⟨xs, xp, xk⟩ k s t)) ∧ Hid (∀ p ∈ L, p.1.links ≠ [] → p.2.ownBlock ≠ some g) ∧ Hid (∃ z, (L.map Prod.fst)[p0]? = some z ∧ spG z = (xp, xs)) ∧ Hid (Below w0.heap.size w0 wq) ∧ Hid (wq.heap[ob]? = some (Obj.cells #[.slice (some ⟨g, 0, none⟩) n c] 24)) ∧ Hid (wq.heap[xb]? = some (Obj.cells #[.int .i64 xs, .int .i64 xp, .slice xa xk.length xc] 35))) (fun i _ => xk.length - (intOf i).toNat)
    case atStart => exact ⟨0, L, rfl, Nat.zero_le _, HR3, HLN, HFM3, HAP, HP0, HW3, ko3, kn3⟩
    case round =>
    clear HR3 HLN HFM3 HAP HP0 HW3 ko3 kn3
    obtain ⟨k, L, rfl, hk, HR, HLN, HFM, HAP, HP0, HBR, HKO, HKN⟩ := hrel
    obtain ⟨tb, tr, tB⟩ := HT.out wr HBR.out
    have n2 : wr.cell? ⟨xb, 2, none⟩ = some (.slice xa xk.length xc) := by rw [Lib.cell_of_heap HKN.out]; rfl
    by_cases hkl : k < xk.length
    case neg =>
      obtain rfl : k = xk.length := by omega
      have HE : Hid (fitP (L.map Prod.fst) ∧ (∀ s, VG (L.map Prod.fst) s ↔ VG a s ∨ VG b s) ∧ (∀ s t, EG (L.map Prod.fst) s t ↔ EG a s t ∨ EdN b (i + 1) s t)) := ⟨HFM.out.1, HFM.out.2.1, fun s t => by rw [HFM.out.2.2 s t, EdN.succ HTK.out, or_assoc]⟩
      clear HFM HKN HP0 HEND HNJ HT HSL tr tB tb HXL
      go_wp2_with fail
      exact ⟨⟨i + 1, L, by go_num, by omega, HR, HLN, HE, HAP, HBR, HKO⟩, by simp [intOf]; omega⟩
    obtain ⟨_, _, e0, hrx, _⟩ := HXL.out wr tB
    cases e0
    obtain ⟨b3, o3, rfl, hb3, q3⟩ := hrx.at (Below.refl _ _) hkl
    unfold encI at q3
    have HLT : Hid (xk.take (k + 1) = xk.take k ++ [xk[k]]) := List.take_succ_eq_append_getElem hkl
    have hlk := HFX.out _ (List.getElem_mem hkl)
    generalize xk[k] = jj at *
    obtain ⟨jn, rfl⟩ : ∃ jn : Nat, jj = jn := ⟨jj.toNat, by omega⟩
    have hjn : jn < b.length := by omega
    obtain ⟨b2', o2', yu, e9, _, _, ⟨ta, tc, rfl⟩, hcells⟩ := HNJ.out jn hjn
    cases e9
    have HGY : Hid (b[jn]? = some b[jn]) := List.getElem?_eq_getElem hjn
    have HYL : Hid (b[jn].pl ≤ xp) := hlk.2.2 _ (by rw [Int.toNat_natCast]; exact HGY.out)
    have HYV : Hid (VG b (spG b[jn])) := ⟨_, List.getElem_mem hjn, rfl⟩
    clear hrx hlk
    generalize b[jn] = y at *
    obtain ⟨ts, tp, tk⟩ := y
    simp only at *
    have HS20 : ∀ W, Below wr.heap.size wr W → W.cell? ⟨w.heap.size + 1, 0, none⟩ = some (.slice (some ⟨b2, o2, none⟩) b.length bc) ∧ W.cell? ⟨xb, 2, none⟩ = some (.slice (some ⟨b3, o3, none⟩) xk.length xc) ∧ W.cell? ⟨b3, o3 + k, none⟩ = some (.int .i64 jn) ∧ W.cell? ⟨b2, o2 + jn * 3, none⟩ = some (.int .i64 ts) ∧ W.cell? ⟨b2, o2 + jn * 3 + 1, none⟩ = some (.int .i64 tp) ∧ W.cell? ⟨b2, o2 + jn * 3 + 2, none⟩ = some (.slice ta tk.length tc) := fun W hW => by
      have h1 := HT.out W (below_then HBR.out hW HBR.out.size)
      obtain ⟨d0, d1, d2, _⟩ := hcells W h1.2.2
      exact ⟨h1.1, (hW.cell (p := ⟨xb, 2, none⟩) (blk_lt HKN.out)).trans n2, (hW.cell (p := ⟨b3, o3 + k, none⟩) hb3).trans q3, d0, d1, d2⟩
    have D0 : Below wr.heap.size wr wr.drew := below_drewN (Below.refl _ _) 1
    go_upto_region 20 with fail
    clear n2 q3 tb tr tB hcells hb3
    refine wp_region_L (fun W => W.cell? ⟨w.heap.size + 1, 0, none⟩ = some (.slice (some ⟨b2, o2, none⟩) b.length bc) ∧ W.cell? ⟨xb, 2, none⟩ = some (.slice (some ⟨b3, o3, none⟩) xk.length xc) ∧ W.cell? ⟨b3, o3 + k, none⟩ = some (.int .i64 jn) ∧ W.cell? ⟨b2, o2 + jn * 3, none⟩ = some (.int .i64 ts) ∧ W.cell? ⟨b2, o2 + jn * 3 + 1, none⟩ = some (.int .i64 tp) ∧ W.cell? ⟨b2, o2 + jn * 3 + 2, none⟩ = some (.slice ta tk.length tc)) 11 (by kernel_rfl) 11 rfl ?_
    refine wpAnyL_take' (i := 0) (v := ?_) (oi := { dst := some 72, op := Op.fieldAddr 24 (Operand.tmp 3) 0, type := 0, pos := "ref.go:242", after := #[], guard := none }) rfl (by kernel_rfl) (by kernel_rfl) (by kernel_rfl) (by kernel_rfl) rfl (fun _ _ _ h => h) (Or.inl ⟨by rfl, ?_⟩) (HS20 _ D0) ?_
    rotate_left
    · intro W hSW
      go_simp
      try with_reducible rfl
    simp only [Act.put, List.setIfInBounds_toArray, List.set_cons_zero, List.set_cons_succ]
    refine wpAnyL_take' (i := 1) (v := ?_) (oi := { dst := some 73, op := Op.load 22 (Operand.tmp 72), type := 22, pos := "ref.go:242", after := #[{ on := 0, ground := Ground.data }], guard := none }) rfl (by kernel_rfl) (by kernel_rfl) (by kernel_rfl) (by kernel_rfl) rfl (fun _ _ _ h => h) (Or.inl ⟨by rfl, ?_⟩) (HS20 _ D0) ?_
    rotate_left
    · intro W hSW
      go_simp
      try with_reducible rfl
    simp only [Act.put, List.setIfInBounds_toArray, List.set_cons_zero, List.set_cons_succ]
    refine wpAnyL_take' (i := 2) (v := ?_) (oi := { dst := some 74, op := Op.fieldAddr 35 (Operand.tmp 10) 2, type := 0, pos := "ref.go:242", after := #[], guard := none }) rfl (by kernel_rfl) (by kernel_rfl) (by kernel_rfl) (by kernel_rfl) rfl (fun _ _ _ h => h) (Or.inl ⟨by rfl, ?_⟩) (HS20 _ D0) ?_
    rotate_left
    · intro W hSW
      go_simp
      try with_reducible rfl
    simp only [Act.put, List.setIfInBounds_toArray, List.set_cons_zero, List.set_cons_succ]
    refine wpAnyL_take' (i := 3) (v := ?_) (oi := { dst := some 75, op := Op.load 33 (Operand.tmp 74), type := 33, pos := "ref.go:242", after := #[{ on := 2, ground := Ground.data }], guard := none }) rfl (by kernel_rfl) (by kernel_rfl) (by kernel_rfl) (by kernel_rfl) rfl (fun _ _ _ h => h) (Or.inl ⟨by rfl, ?_⟩) (HS20 _ D0) ?_
    rotate_left
    · intro W hSW
      go_simp
      try with_reducible rfl
    simp only [Act.put, List.setIfInBounds_toArray, List.set_cons_zero, List.set_cons_succ]
    refine wpAnyL_take' (i := 4) (v := ?_) (oi := { dst := some 76, op := Op.move (Operand.tmp 12), type := 3, pos := "ref.go:242", after := #[], guard := none }) rfl (by kernel_rfl) (by kernel_rfl) (by kernel_rfl) (by kernel_rfl) rfl (fun _ _ _ h => h) (Or.inl ⟨by rfl, ?_⟩) (HS20 _ D0) ?_
    rotate_left
    · intro W hSW
      go_simp
      try with_reducible rfl
    simp only [Act.put, List.setIfInBounds_toArray, List.set_cons_zero, List.set_cons_succ]
    refine wpAnyL_take' (i := 5) (v := ?_) (oi := { dst := some 77, op := Op.indexAddr 33 (Operand.tmp 75) (Operand.tmp 76), type := 0, pos := "ref.go:242", after := #[{ on := 3, ground := Ground.data }, { on := 4, ground := Ground.data }], guard := none }) rfl (by kernel_rfl) (by kernel_rfl) (by kernel_rfl) (by kernel_rfl) rfl (fun _ _ _ h => h) (Or.inl ⟨by rfl, ?_⟩) (HS20 _ D0) ?_
    rotate_left
    · intro W hSW
      go_simp
      try with_reducible rfl
    simp only [Act.put, List.setIfInBounds_toArray, List.set_cons_zero, List.set_cons_succ]
    refine wpAnyL_take' (i := 6) (v := ?_) (oi := { dst := some 78, op := Op.load 3 (Operand.tmp 77), type := 3, pos := "ref.go:242", after := #[{ on := 5, ground := Ground.data }], guard := none }) rfl (by kernel_rfl) (by kernel_rfl) (by kernel_rfl) (by kernel_rfl) rfl (fun _ _ _ h => h) (Or.inl ⟨by rfl, ?_⟩) (HS20 _ D0) ?_
    rotate_left
    · intro W hSW
      go_simp
      try with_reducible rfl
    simp only [Act.put, List.setIfInBounds_toArray, List.set_cons_zero, List.set_cons_succ]
    refine wpAnyL_take' (i := 7) (v := ?_) (oi := { dst := some 79, op := Op.indexAddr 22 (Operand.tmp 73) (Operand.tmp 78), type := 0, pos := "ref.go:242", after := #[{ on := 1, ground := Ground.data }, { on := 6, ground := Ground.data }], guard := none }) rfl (by kernel_rfl) (by kernel_rfl) (by kernel_rfl) (by kernel_rfl) rfl (fun _ _ _ h => h) (Or.inl ⟨by rfl, ?_⟩) (HS20 _ D0) ?_
    rotate_left
    · intro W hSW
      go_simp
      try with_reducible rfl
    simp only [Act.put, List.setIfInBounds_toArray, List.set_cons_zero, List.set_cons_succ]
    refine wpAnyL_take' (i := 8) (v := ?_) (oi := { dst := some 80, op := Op.load 35 (Operand.tmp 79), type := 35, pos := "ref.go:242", after := #[{ on := 7, ground := Ground.data }], guard := none }) rfl (by kernel_rfl) (by kernel_rfl) (by kernel_rfl) (by kernel_rfl) rfl (fun _ _ _ h => h) (Or.inl ⟨by rfl, ?_⟩) (HS20 _ D0) ?_
    rotate_left
    · intro W hSW
      go_simp
      try with_reducible rfl
    simp only [Act.put, List.setIfInBounds_toArray, List.set_cons_zero, List.set_cons_succ]
    refine wpAnyL_one' (i := 9) (o := { dst := some 13, op := Op.alloc 35, type := 0, pos := "ref.go:242", after := #[], guard := none }) (by kernel_rfl) rfl rfl (fun K hK => ?_)
    go_simp
    refine hK.out _ _ (fun _ => HS20 _ (D0.alloc D0.size _)) ?_
    clear hK
    try simp only [Act.put, List.setIfInBounds_toArray, List.set_cons_zero, List.set_cons_succ]
    refine wpAnyL_one' (i := 10) (o := { dst := none, op := Op.store 35 (Operand.tmp 13) (Operand.tmp 80), type := 0, pos := "ref.go:242", after := #[{ on := 9, ground := Ground.data }, { on := 8, ground := Ground.data }, { on := 0, ground := Ground.phase }, { on := 1, ground := Ground.phase }, { on := 2, ground := Ground.phase }, { on := 3, ground := Ground.phase }, { on := 4, ground := Ground.phase }, { on := 5, ground := Ground.phase }, { on := 6, ground := Ground.phase }, { on := 7, ground := Ground.phase }, { on := 8, ground := Ground.phase }, { on := 9, ground := Ground.phase }], guard := none }) (by kernel_rfl) rfl rfl (fun K hK => ?_)
    go_simp
    refine hK.out _ _ (fun _ => HS20 _ (((Below.refl _ _).alloc (Nat.le_refl _) _).drew)) ?_
    clear hK
    refine wpAnyL_done (by kernel_rfl) ?_ _

    have bY : Below wr.heap.size wr (wr.alloc (Obj.cells #[.int .i64 ts, .int .i64 tp, .slice ta tk.length tc] 35)).drew := ((Below.refl _ _).alloc (Nat.le_refl _) _).drew
    have ky : (wr.alloc (Obj.cells #[.int .i64 ts, .int .i64 tp, .slice ta tk.length tc] 35)).drew.heap[wr.heap.size]? = some (Obj.cells #[.int .i64 ts, .int .i64 tp, .slice ta tk.length tc] 35) := heap_alloc_new _ _
    have HRY : Hid (RowN w0.heap.size L (.slice (some ⟨g, 0, none⟩) n c) (wr.alloc (Obj.cells #[.int .i64 ts, .int .i64 tp, .slice ta tk.length tc] 35)).drew) := HR.out.next bY
    have HBY : Hid (Below w0.heap.size w0 (wr.alloc (Obj.cells #[.int .i64 ts, .int .i64 tp, .slice ta tk.length tc] 35)).drew) := below_then HBR.out bY HBR.out.size
    have koy := (bY.block _ (blk_lt HKO.out)).trans HKO.out
    have kny := (bY.block _ (blk_lt HKN.out)).trans HKN.out
    obtain ⟨yb, hyb⟩ : ∃ yb, yb = wr.heap.size := ⟨_, rfl⟩
    rw [← hyb] at ky ⊢
    generalize (wr.alloc (Obj.cells #[.int .i64 ts, .int .i64 tp, .slice ta tk.length tc] 35)).drew = wy at *
    clear HS20 D0 bY hyb HR HBR HKO HKN
    obtain ⟨q, hq0⟩ : ∃ q : Nat, ∃ z, (L.map Prod.fst)[q]? = some z ∧ spG z = (tp, ts) := by
      obtain ⟨z, hz, e⟩ := (HFM.out.2.1 (tp, ts)).2 (.inr HYV.out)
      obtain ⟨k', hk'⟩ := List.getElem?_of_mem hz
      exact ⟨k', z, hk', e⟩
    have HQ0 : Hid (∃ z, (L.map Prod.fst)[q]? = some z ∧ spG z = (tp, ts)) := hq0
    have HFV : Hid (findN ts tp (L.map Prod.fst) 0 = q) := by obtain ⟨z, hz, e⟩ := hq0; exact find_spot HFM.out.1.up hz e
    have hqn : q < n := by obtain ⟨z, hz, _⟩ := hq0; have := (List.getElem?_eq_some_iff.1 hz).1; rw [List.length_map, HLN.out] at this; exact this
    clear hq0
    obtain ⟨⟨⟨zs, zp, zk⟩, zu⟩, hz⟩ : ∃ p, L[p0]? = some p := ⟨_, List.getElem?_eq_getElem (by have := HLN.out; omega)⟩
    have HZ : Hid (L[p0]? = some (⟨zs, zp, zk⟩, zu)) := hz
    have HZM : Hid ((L.map Prod.fst)[p0]? = some ⟨zs, zp, zk⟩) := by show _ = _; rw [List.getElem?_map, hz]; rfl
    have HZS : Hid (zp = xp ∧ zs = xs) := by
      obtain ⟨z', h1, h2⟩ := HP0.out
      rw [HZM.out] at h1; cases h1
      exact ⟨congrArg Prod.fst h2, congrArg Prod.snd h2⟩
    have HZL : Hid (SlI zk zu wy) := HRY.out.links _ (List.mem_of_getElem? hz)
    obtain ⟨za, zc, rfl⟩ : ∃ xa xc, zu = .slice xa zk.length xc := by have h9 := HZL.out; exact h9.imp fun _ h => h.imp fun _ h => h.1
    have HZK : Hid (zk.length ≤ 4096) := HFM.out.1.len (List.mem_of_getElem? HZM.out)
    have hzk := HZK.out
    obtain ⟨l7, lf7⟩ : wy.cell? ⟨g, p0 * 3 + 2, none⟩ = some (.slice za zk.length zc) ∧ wy.frozen? ⟨g, p0 * 3 + 2, none⟩ = false := by
      obtain ⟨g', cap', e', _, _, hc⟩ := own_cells encG_len HRY.out.nodes (by have := HLN.out; omega)
      simp at e'
      obtain ⟨rfl, _⟩ := e'
      have h9 := HRY.out.nodes
      rw [HLN.out] at h9
      exact ⟨hc p0 2 _ _ hz (by omega) rfl, World.ownsRow.frozenAt h9 _⟩
    have HS21 : ∀ W, Below wy.heap.size wy W → W.cell? ⟨ob, 0, none⟩ = some (.slice (some ⟨g, 0, none⟩) n c) ∧ W.cell? ⟨g, p0 * 3 + 2, none⟩ = some (.slice za zk.length zc) ∧ W.cell? ⟨yb, 0, none⟩ = some (.int .i64 ts) ∧ W.cell? ⟨yb, 1, none⟩ = some (.int .i64 tp) := fun W hW => ⟨by rw [Lib.cell_of_heap ((hW.block _ (blk_lt koy)).trans koy)]; rfl, (hW.cell (p := ⟨g, p0 * 3 + 2, none⟩) (cell_lt l7)).trans l7, by rw [Lib.cell_of_heap ((hW.block _ (blk_lt ky)).trans ky)]; rfl, by rw [Lib.cell_of_heap ((hW.block _ (blk_lt ky)).trans ky)]; rfl⟩
    have D1 : Below wy.heap.size wy wy.drew := below_drewN (Below.refl _ _) 1
    have HCF := gfind_any (L.map Prod.fst) (.slice (some ⟨g, 0, none⟩) n c) ts tp wy.drew (HSL.out L _ HLN.out (HRY.out.next D1))
    rw [HFV.out] at HCF
    have HPT : Hid (∀ W, Below wy.heap.size wy W → Calls Try.prog 29 #[.slice za zk.length zc, .int .i64 q] W fun e w' => ∃ v', e = .returned v' ∧ SlI (putL q zk) v' w' ∧ (v' = .slice za zk.length zc ∨ Apart W.heap.size v') ∧ Below W.heap.size W w') := fun W hW => gput_any zk q _ W (HZL.out.next hW) (by unfold i64B; omega) (by omega)
    have HFZ : Hid (∀ W, Below wy.heap.size wy W → W.cell? ⟨g, p0 * 3 + 2, none⟩ = some (.slice za zk.length zc) ∧ W.frozen? ⟨g, p0 * 3 + 2, none⟩ = false) := fun W hW => ⟨(hW.cell (p := ⟨g, p0 * 3 + 2, none⟩) (cell_lt l7)).trans l7, by
      have h9 := (HRY.out.next hW).nodes
      rw [HLN.out] at h9
      exact World.ownsRow.frozenAt h9 _⟩
    have HFIN : Hid (∀ w5 w6 lv, Below wy.heap.size wy w5 → Below w5.heap.size w5 w6 → SlI (putL q zk) lv w6 → (lv = .slice za zk.length zc ∨ Apart w5.heap.size lv) → ∃ L', RowN w0.heap.size L' (.slice (some ⟨g, 0, none⟩) n c) (w6.setCell ⟨g, p0 * 3 + 2, none⟩ lv) ∧ L'.length = n ∧ (fitP (L'.map Prod.fst) ∧ (∀ s, VG (L'.map Prod.fst) s ↔ VG a s ∨ VG b s) ∧ (∀ s t, EG (L'.map Prod.fst) s t ↔ (EG a s t ∨ EdN b i s t) ∨ EdK b ⟨xs, xp, xk⟩ (k + 1) s t)) ∧ (∀ p ∈ L', p.1.links ≠ [] → p.2.ownBlock ≠ some g) ∧ (∃ z, (L'.map Prod.fst)[p0]? = some z ∧ spG z = (xp, xs)) ∧ Below w0.heap.size w0 (w6.setCell ⟨g, p0 * 3 + 2, none⟩ lv) ∧ (w6.setCell ⟨g, p0 * 3 + 2, none⟩ lv).heap[ob]? = some (Obj.cells #[.slice (some ⟨g, 0, none⟩) n c] 24) ∧ (w6.setCell ⟨g, p0 * 3 + 2, none⟩ lv).heap[xb]? = some (Obj.cells #[.int .i64 xs, .int .i64 xp, .slice (some ⟨b3, o3, none⟩) xk.length xc] 35)) := fun w5 w6 lv e1 e2 hsl hlv => by
      have B6 : Below wy.heap.size wy w6 := below_then e1 e2 e1.size
      have hR6 := HRY.out.next B6
      have hglt : g < wy.heap.size := (World.ownsRow.lt HRY.out.nodes g rfl).2
      have hpk : (putL q zk).length ≤ zk.length + 1 := by rw [putL_len]; split <;> omega
      have hlg : lv.ownBlock ≠ some g := by
        rcases hlv with rfl | h
        · obtain ⟨_, _, e, _⟩ := hsl
          have hl9 : zk.length = (putL q zk).length := by simp only [Value.slice.injEq] at e; exact e.2.1
          have hne : zk ≠ [] := fun e9 => by rw [e9] at hl9; simp [putL] at hl9
          exact HAP.out _ (List.mem_of_getElem? HZ.out) hne
        · intro e
          obtain ⟨ao, cap, ev, _⟩ := hsl
          rw [ev] at e
          cases ao with
          | none => cases e
          | some ad =>
            have h8 := h ad _ _ ev
            have h7 : ad.block = g := by simpa [Value.ownBlock] using e
            have := e1.size
            omega
      have hR7 := hR6.set HZ.out hsl (fun _ => hlg) HAP.out (by omega)
      obtain ⟨z', hz', ez'⟩ := HQ0.out
      have hadd := add_link HFM.out.1 HZM.out hz' (by
        have h1 : z'.pl = tp := congrArg Prod.fst ez'
        have h2 := HZS.out.1
        have h3 := HYL.out
        show z'.pl ≤ zp
        omega)
      have hm : (L.set p0 ((⟨zs, zp, putL q zk⟩ : Gn), lv)).map Prod.fst = (L.map Prod.fst).set p0 ⟨zs, zp, putL q zk⟩ := by rw [List.map_set]
      have hW := below_then HBY.out B6 HBY.out.size
      refine ⟨_, hR7, by rw [List.length_set]; exact HLN.out, ?_, fun p hp => ?_, ?_, hW.setCell HGB.out.1 _, set_blk ((B6.block _ (blk_lt koy)).trans koy) (fun e => HGB.out.2 e.symm), set_blk ((B6.block _ (blk_lt kny)).trans kny) (by have := HXB.out.1; omega)⟩
      · rw [hm]
        refine ⟨hadd.1, fun s => (hadd.2.1 s).trans (HFM.out.2.1 s), fun s t => ?_⟩
        rw [hadd.2.2 s t, HFM.out.2.2 s t, EdK.succ HLT.out (by simpa using HGY.out), or_assoc]
        have h1 : spG (⟨zs, zp, zk⟩ : Gn) = spG (⟨xs, xp, xk⟩ : Gn) := by unfold spG; rw [HZS.out.1, HZS.out.2]
        rw [h1, ez']
        rfl
      · rcases List.mem_or_eq_of_mem_set hp with hp | rfl
        · exact HAP.out p hp
        · exact fun _ => hlg
      · rw [hm]
        refine ⟨⟨zs, zp, putL q zk⟩, ?_, by unfold spG; rw [HZS.out.1, HZS.out.2]⟩
        rw [List.getElem?_set_self (by rw [List.length_map, HLN.out]; exact hpn)]
    clear hz HRY HBY koy kny ky HQ0 HFV HZ HZM HZS HZL HZK HLT HGY HYL HYV HP0 HFM HAP HLN l7 lf7
    go_upto_region 21 with fail
    refine wp_region_L (fun W => W.cell? ⟨ob, 0, none⟩ = some (.slice (some ⟨g, 0, none⟩) n c) ∧ W.cell? ⟨g, p0 * 3 + 2, none⟩ = some (.slice za zk.length zc) ∧ W.cell? ⟨yb, 0, none⟩ = some (.int .i64 ts) ∧ W.cell? ⟨yb, 1, none⟩ = some (.int .i64 tp)) 18 (by kernel_rfl) 19 rfl ?_
    refine wpAnyL_take' (i := 0) (v := ?_) (oi := { dst := some 81, op := Op.fieldAddr 24 (Operand.tmp 5) 0, type := 0, pos := "ref.go:243", after := #[], guard := none }) rfl (by kernel_rfl) (by kernel_rfl) (by kernel_rfl) (by kernel_rfl) rfl (fun _ _ _ h => h) (Or.inl ⟨by rfl, ?_⟩) (HS21 _ D1) ?_
    rotate_left
    · intro W hSW
      go_simp
      try with_reducible rfl
    simp only [Act.put, List.setIfInBounds_toArray, List.set_cons_zero, List.set_cons_succ]
    refine wpAnyL_take' (i := 1) (v := ?_) (oi := { dst := some 82, op := Op.load 22 (Operand.tmp 81), type := 22, pos := "ref.go:243", after := #[{ on := 0, ground := Ground.data }], guard := none }) rfl (by kernel_rfl) (by kernel_rfl) (by kernel_rfl) (by kernel_rfl) rfl (fun _ _ _ h => h) (Or.inl ⟨by rfl, ?_⟩) (HS21 _ D1) ?_
    rotate_left
    · intro W hSW
      go_simp
      try with_reducible rfl
    simp only [Act.put, List.setIfInBounds_toArray, List.set_cons_zero, List.set_cons_succ]
    refine wpAnyL_take' (i := 2) (v := ?_) (oi := { dst := some 83, op := Op.move (Operand.tmp 11), type := 3, pos := "ref.go:243", after := #[], guard := none }) rfl (by kernel_rfl) (by kernel_rfl) (by kernel_rfl) (by kernel_rfl) rfl (fun _ _ _ h => h) (Or.inl ⟨by rfl, ?_⟩) (HS21 _ D1) ?_
    rotate_left
    · intro W hSW
      go_simp
      try with_reducible rfl
    simp only [Act.put, List.setIfInBounds_toArray, List.set_cons_zero, List.set_cons_succ]
    refine wpAnyL_take' (i := 3) (v := ?_) (oi := { dst := some 84, op := Op.fieldAddr 24 (Operand.tmp 5) 0, type := 0, pos := "ref.go:243", after := #[], guard := none }) rfl (by kernel_rfl) (by kernel_rfl) (by kernel_rfl) (by kernel_rfl) rfl (fun _ _ _ h => h) (Or.inl ⟨by rfl, ?_⟩) (HS21 _ D1) ?_
    rotate_left
    · intro W hSW
      go_simp
      try with_reducible rfl
    simp only [Act.put, List.setIfInBounds_toArray, List.set_cons_zero, List.set_cons_succ]
    refine wpAnyL_take' (i := 4) (v := ?_) (oi := { dst := some 85, op := Op.load 22 (Operand.tmp 84), type := 22, pos := "ref.go:243", after := #[{ on := 3, ground := Ground.data }], guard := none }) rfl (by kernel_rfl) (by kernel_rfl) (by kernel_rfl) (by kernel_rfl) rfl (fun _ _ _ h => h) (Or.inl ⟨by rfl, ?_⟩) (HS21 _ D1) ?_
    rotate_left
    · intro W hSW
      go_simp
      try with_reducible rfl
    simp only [Act.put, List.setIfInBounds_toArray, List.set_cons_zero, List.set_cons_succ]
    refine wpAnyL_take' (i := 5) (v := ?_) (oi := { dst := some 86, op := Op.move (Operand.tmp 11), type := 3, pos := "ref.go:243", after := #[], guard := none }) rfl (by kernel_rfl) (by kernel_rfl) (by kernel_rfl) (by kernel_rfl) rfl (fun _ _ _ h => h) (Or.inl ⟨by rfl, ?_⟩) (HS21 _ D1) ?_
    rotate_left
    · intro W hSW
      go_simp
      try with_reducible rfl
    simp only [Act.put, List.setIfInBounds_toArray, List.set_cons_zero, List.set_cons_succ]
    refine wpAnyL_take' (i := 6) (v := ?_) (oi := { dst := some 87, op := Op.indexAddr 22 (Operand.tmp 85) (Operand.tmp 86), type := 0, pos := "ref.go:243", after := #[{ on := 4, ground := Ground.data }, { on := 5, ground := Ground.data }], guard := none }) rfl (by kernel_rfl) (by kernel_rfl) (by kernel_rfl) (by kernel_rfl) rfl (fun _ _ _ h => h) (Or.inl ⟨by rfl, ?_⟩) (HS21 _ D1) ?_
    rotate_left
    · intro W hSW
      go_simp
      try with_reducible rfl
    simp only [Act.put, List.setIfInBounds_toArray, List.set_cons_zero, List.set_cons_succ]
    refine wpAnyL_take' (i := 7) (v := ?_) (oi := { dst := some 88, op := Op.fieldAddr 35 (Operand.tmp 87) 2, type := 0, pos := "ref.go:243", after := #[{ on := 6, ground := Ground.data }], guard := none }) rfl (by kernel_rfl) (by kernel_rfl) (by kernel_rfl) (by kernel_rfl) rfl (fun _ _ _ h => h) (Or.inl ⟨by rfl, ?_⟩) (HS21 _ D1) ?_
    rotate_left
    · intro W hSW
      go_simp
      try with_reducible rfl
    simp only [Act.put, List.setIfInBounds_toArray, List.set_cons_zero, List.set_cons_succ]
    refine wpAnyL_take' (i := 8) (v := ?_) (oi := { dst := some 89, op := Op.load 33 (Operand.tmp 88), type := 33, pos := "ref.go:243", after := #[{ on := 7, ground := Ground.data }], guard := none }) rfl (by kernel_rfl) (by kernel_rfl) (by kernel_rfl) (by kernel_rfl) rfl (fun _ _ _ h => h) (Or.inl ⟨by rfl, ?_⟩) (HS21 _ D1) ?_
    rotate_left
    · intro W hSW
      go_simp
      try with_reducible rfl
    simp only [Act.put, List.setIfInBounds_toArray, List.set_cons_zero, List.set_cons_succ]
    refine wpAnyL_take' (i := 9) (v := ?_) (oi := { dst := some 90, op := Op.load 24 (Operand.tmp 5), type := 24, pos := "ref.go:243", after := #[], guard := none }) rfl (by kernel_rfl) (by kernel_rfl) (by kernel_rfl) (by kernel_rfl) rfl (fun _ _ _ h => h) (Or.inl ⟨by rfl, ?_⟩) (HS21 _ D1) ?_
    rotate_left
    · intro W hSW
      go_simp
      try with_reducible rfl
    simp only [Act.put, List.setIfInBounds_toArray, List.set_cons_zero, List.set_cons_succ]
    refine wpAnyL_take' (i := 10) (v := ?_) (oi := { dst := some 91, op := Op.fieldAddr 35 (Operand.tmp 13) 0, type := 0, pos := "ref.go:243", after := #[], guard := none }) rfl (by kernel_rfl) (by kernel_rfl) (by kernel_rfl) (by kernel_rfl) rfl (fun _ _ _ h => h) (Or.inl ⟨by rfl, ?_⟩) (HS21 _ D1) ?_
    rotate_left
    · intro W hSW
      go_simp
      try with_reducible rfl
    simp only [Act.put, List.setIfInBounds_toArray, List.set_cons_zero, List.set_cons_succ]
    refine wpAnyL_take' (i := 11) (v := ?_) (oi := { dst := some 92, op := Op.load 3 (Operand.tmp 91), type := 3, pos := "ref.go:243", after := #[{ on := 10, ground := Ground.data }], guard := none }) rfl (by kernel_rfl) (by kernel_rfl) (by kernel_rfl) (by kernel_rfl) rfl (fun _ _ _ h => h) (Or.inl ⟨by rfl, ?_⟩) (HS21 _ D1) ?_
    rotate_left
    · intro W hSW
      go_simp
      try with_reducible rfl
    simp only [Act.put, List.setIfInBounds_toArray, List.set_cons_zero, List.set_cons_succ]
    refine wpAnyL_take' (i := 12) (v := ?_) (oi := { dst := some 93, op := Op.fieldAddr 35 (Operand.tmp 13) 1, type := 0, pos := "ref.go:243", after := #[], guard := none }) rfl (by kernel_rfl) (by kernel_rfl) (by kernel_rfl) (by kernel_rfl) rfl (fun _ _ _ h => h) (Or.inl ⟨by rfl, ?_⟩) (HS21 _ D1) ?_
    rotate_left
    · intro W hSW
      go_simp
      try with_reducible rfl
    simp only [Act.put, List.setIfInBounds_toArray, List.set_cons_zero, List.set_cons_succ]
    refine wpAnyL_take' (i := 13) (v := ?_) (oi := { dst := some 94, op := Op.load 3 (Operand.tmp 93), type := 3, pos := "ref.go:243", after := #[{ on := 12, ground := Ground.data }], guard := none }) rfl (by kernel_rfl) (by kernel_rfl) (by kernel_rfl) (by kernel_rfl) rfl (fun _ _ _ h => h) (Or.inl ⟨by rfl, ?_⟩) (HS21 _ D1) ?_
    rotate_left
    · intro W hSW
      go_simp
      try with_reducible rfl
    simp only [Act.put, List.setIfInBounds_toArray, List.set_cons_zero, List.set_cons_succ]
    refine wpAnyL_one' (i := 14) (o := { dst := some 95, op := Op.call { callee := Callee.value (Operand.func 27), args := #[Operand.tmp 90, Operand.tmp 92, Operand.tmp 94], argTypes := #[24, 3, 3] }, type := 3, pos := "ref.go:243", after := #[{ on := 9, ground := Ground.data }, { on := 11, ground := Ground.data }, { on := 13, ground := Ground.data }], guard := none }) (by kernel_rfl) rfl rfl (fun K hK => ?_)
    go_simp
    refine (HCF).mono ?_
    rintro e w5 ⟨rfl, e5⟩
    refine hK.out _ _ (fun _ => HS21 _ (below_then D1 e5 D1.size)) ?_
    clear hK
    have D5 := below_then D1 e5 D1.size
    have HCP := HPT.out w5 D5
    clear HCF e5
    refine wpAnyL_one' (i := 15) (o := { dst := some 96, op := Op.call { callee := Callee.value (Operand.func 29), args := #[Operand.tmp 89, Operand.tmp 95], argTypes := #[33, 3] }, type := 33, pos := "ref.go:243", after := #[{ on := 8, ground := Ground.data }, { on := 14, ground := Ground.data }, { on := 14, ground := Ground.chain }], guard := none }) (by kernel_rfl) rfl rfl (fun K hK => ?_)
    go_simp
    refine (HCP).mono ?_
    rintro e w6 ⟨lv, rfl, hsv, hlv, e6⟩
    refine hK.out _ _ (fun _ => HS21 _ (below_then D5 e6 D5.size)) ?_
    clear hK
    have D6 := below_then D5 e6 D5.size
    obtain ⟨y1, y2⟩ := HFZ.out w6 D6
    obtain ⟨L9, z1, z2, z3, z4, z5, z6, z7, z8⟩ := HFIN.out w5 w6 lv D5 e6 hsv hlv
    obtain ⟨va, vc, rfl⟩ : ∃ xa xc, lv = .slice xa (putL q zk).length xc := hsv.imp fun _ h => h.imp fun _ h => h.1
    have HE : Hid (_ ∧ _ ∧ _ ∧ _ ∧ _ ∧ _ ∧ _ ∧ _) := ⟨z1, z2, z3, z4, z5, z6, z7, z8⟩
    clear z1 z2 z3 z4 z5 z6 z7 z8 HFIN HPT HFZ hsv hlv e6 HCP
    refine wpAnyL_one' (i := 16) (o := { dst := some 97, op := Op.indexAddr 22 (Operand.tmp 82) (Operand.tmp 83), type := 0, pos := "ref.go:243", after := #[{ on := 1, ground := Ground.data }, { on := 2, ground := Ground.data }, { on := 0, ground := Ground.phase }, { on := 1, ground := Ground.phase }, { on := 2, ground := Ground.phase }, { on := 3, ground := Ground.phase }, { on := 4, ground := Ground.phase }, { on := 5, ground := Ground.phase }, { on := 6, ground := Ground.phase }, { on := 7, ground := Ground.phase }, { on := 8, ground := Ground.phase }, { on := 9, ground := Ground.phase }, { on := 10, ground := Ground.phase }, { on := 11, ground := Ground.phase }, { on := 12, ground := Ground.phase }, { on := 13, ground := Ground.phase }, { on := 14, ground := Ground.phase }, { on := 15, ground := Ground.phase }], guard := none }) (by kernel_rfl) rfl rfl (fun K hK => ?_)
    go_simp
    refine hK.out _ _ (fun _ => HS21 _ D6) ?_
    clear hK
    try simp only [Act.put, List.setIfInBounds_toArray, List.set_cons_zero, List.set_cons_succ]
    refine wpAnyL_take' (i := 17) (v := ?_) (oi := { dst := some 98, op := Op.fieldAddr 35 (Operand.tmp 97) 2, type := 0, pos := "ref.go:243", after := #[{ on := 16, ground := Ground.data }, { on := 0, ground := Ground.phase }, { on := 1, ground := Ground.phase }, { on := 2, ground := Ground.phase }, { on := 3, ground := Ground.phase }, { on := 4, ground := Ground.phase }, { on := 5, ground := Ground.phase }, { on := 6, ground := Ground.phase }, { on := 7, ground := Ground.phase }, { on := 8, ground := Ground.phase }, { on := 9, ground := Ground.phase }, { on := 10, ground := Ground.phase }, { on := 11, ground := Ground.phase }, { on := 12, ground := Ground.phase }, { on := 13, ground := Ground.phase }, { on := 14, ground := Ground.phase }, { on := 15, ground := Ground.phase }], guard := none }) rfl (by kernel_rfl) (by kernel_rfl) (by kernel_rfl) (by kernel_rfl) rfl (fun _ _ _ h => h) (Or.inl ⟨by rfl, ?_⟩) (HS21 _ D6) ?_
    rotate_left
    · intro W hSW
      go_simp
      try with_reducible rfl
    simp only [Act.put, List.setIfInBounds_toArray, List.set_cons_zero, List.set_cons_succ]
    refine wpAnyL_one' (i := 18) (o := { dst := none, op := Op.store 33 (Operand.tmp 98) (Operand.tmp 96), type := 0, pos := "ref.go:243", after := #[{ on := 17, ground := Ground.data }, { on := 15, ground := Ground.data }, { on := 15, ground := Ground.chain }, { on := 0, ground := Ground.phase }, { on := 1, ground := Ground.phase }, { on := 2, ground := Ground.phase }, { on := 3, ground := Ground.phase }, { on := 4, ground := Ground.phase }, { on := 5, ground := Ground.phase }, { on := 6, ground := Ground.phase }, { on := 7, ground := Ground.phase }, { on := 8, ground := Ground.phase }, { on := 9, ground := Ground.phase }, { on := 10, ground := Ground.phase }, { on := 11, ground := Ground.phase }, { on := 12, ground := Ground.phase }, { on := 13, ground := Ground.phase }, { on := 14, ground := Ground.phase }, { on := 15, ground := Ground.phase }], guard := none }) (by kernel_rfl) rfl rfl (fun K hK => ?_)
    go_simp
    refine hK.out _ _ (fun h => absurd h (by decide)) ?_
    clear hK
    refine wpAnyL_done (by kernel_rfl) ?_ _

    clear HS21 D1 D5 D6 y1 y2
    go_wp2_with fail
    obtain ⟨z1, z2, z3, z4, z5, z6, z7, z8⟩ := HE.out
    exact ⟨⟨k + 1, L9, by go_num, by omega, z1, z2, z3, z4, z5, z6, z7, z8⟩, by simp [intOf]; omega⟩
  obtain ⟨b2, o2, yu, rfl, x64, y64, ⟨xa, xc, rfl⟩, hcells⟩ := HNJ.out i hlt
  obtain ⟨q0, q1, q2, _⟩ := hcells wr tB
  have HTK : Hid (b.take (i + 1) = b.take i ++ [b[i]]) := List.take_succ_eq_append_getElem hlt
  have HXF : Hid (numB b[i].st = true ∧ numB b[i].pl = true) := by have := HFB.out.at_ (List.getElem?_eq_getElem hlt); exact ⟨this.1, this.2.1⟩
  clear hcells
  generalize b[i] = x at *
  obtain ⟨xs, xp, xk⟩ := x
  simp only at *
  have bn : Below wr.heap.size wr (wr.alloc (Obj.cells #[.int .i64 xs, .int .i64 xp, .slice xa xk.length xc] 35)) := (Below.refl _ _).alloc (Nat.le_refl _) _
  have kn : (wr.alloc (Obj.cells #[.int .i64 xs, .int .i64 xp, .slice xa xk.length xc] 35)).heap[wr.heap.size]? = some (Obj.cells #[.int .i64 xs, .int .i64 xp, .slice xa xk.length xc] 35) := heap_alloc_new _ _
  have kon := (bn.block _ (blk_lt HKO.out)).trans HKO.out
  have con : (wr.alloc (Obj.cells #[.int .i64 xs, .int .i64 xp, .slice xa xk.length xc] 35)).cell? ⟨ob, 0, none⟩ = some (.slice ma M.length mc) := cell_new co
  have HCF := gfind_any M (.slice ma M.length mc) xs xp (wr.alloc (Obj.cells #[.int .i64 xs, .int .i64 xp, .slice xa xk.length xc] 35)) (HSM.out.next bn)
  have HBN : Hid (Below wr.heap.size wr (wr.alloc (Obj.cells #[.int .i64 xs, .int .i64 xp, .slice xa xk.length xc] 35))) := bn
  clear bn
  go_wp2_with fail
  obtain ⟨xb, hxb⟩ : ∃ xb, xb = wr.heap.size := ⟨_, rfl⟩
  rw [← hxb] at kn ⊢
  refine HCF.mono ?_
  generalize wr.alloc (Obj.cells #[.int .i64 xs, .int .i64 xp, .slice xa xk.length xc] 35) = wn at *
  rintro e w3 ⟨rfl, b3⟩
  clear HCF hxb con q0 q1 q2 co
  have HB3 : Hid (Below wr.heap.size wr w3) := below_then HBN.out b3 HBN.out.size
  have ko3 := (b3.block _ (blk_lt kon)).trans kon
  have kn3 := (b3.block _ (blk_lt kn)).trans kn
  have HFV : Hid ((thereB M (xp, xs) = true → 0 ≤ findN xs xp M 0) ∧ (thereB M (xp, xs) = false → findN xs xp M 0 = -1)) := by
    refine ⟨fun h => ?_, fun h => find_not (fun h' => by rw [(there_spot HFM.out.up).2 h'] at h; cases h)⟩
    obtain ⟨y, hy, e⟩ := there_at h
    rw [find_spot HFM.out.up hy e]; omega
  generalize findN xs xp M 0 = fv at *
  obtain ⟨FR, HFE, hfr⟩ : ∃ FR : Bool, Hid (thereB M (xp, xs) = !FR) ∧ decide (fv < 0) = FR := by
    refine ⟨_, ?_, rfl⟩
    show _ = _
    cases ht : thereB M (xp, xs) with
    | true => have := HFV.out.1 ht; rw [decide_eq_false (by omega)]; rfl
    | false => have := HFV.out.2 ht; rw [decide_eq_true (by omega)]; rfl
  have HS3 : Hid (SlN M (.slice ma M.length mc) w3) := HSM.out.next HB3.out
  have HW3 : Hid (Below w0.heap.size w0 w3) := below_then HBR.out HB3.out HBR.out.size
  have HE : Hid (∀ W ga gc, SlN (base1 M xs xp) (.slice ga (base1 M xs xp).length gc) W → Below w0.heap.size w0 W → W.heap[ob]? = some (Obj.cells #[.slice ga (base1 M xs xp).length gc] 24) → fitP (base1 M xs xp) ∧ (∀ s, VG (base1 M xs xp) s ↔ VG a s ∨ ∃ x ∈ b.take (i + 1), spG x = s) ∧ (∀ s t, EG (base1 M xs xp) s t ↔ EG a s t) ∧ (base1 M xs xp).length ≤ a.length + (i + 1)) := fun W ga gc _ _ _ => by
    refine ⟨base_fit HFM.out HXF.out.1 HXF.out.2 (fun _ => by omega), fun s => ?_, fun s t => (base_edges HFM.out s t).trans (HEM.out s t), by rw [base_len]; split <;> omega⟩
    rw [base_spots, HVM.out s, HTK.out]
    constructor
    · rintro ((h | ⟨x, hx, e⟩) | ⟨_, rfl⟩)
      · exact .inl h
      · exact .inr ⟨x, by simp [hx], e⟩
      · exact .inr ⟨⟨xs, xp, xk⟩, by simp, rfl⟩
    · rintro (h | ⟨x, hx, e⟩)
      · exact .inl (.inl h)
      · rcases List.mem_append.1 hx with hx | hx
        · exact .inl (.inr ⟨x, hx, e⟩)
        · simp at hx; subst hx
          cases ht : thereB M (xp, xs) with
          | true => exact .inl ((HVM.out s).1 (e ▸ (there_spot HFM.out.up).1 ht))
          | false => exact .inr ⟨rfl, e.symm⟩
  clear HFV kon kn HBN b3
  cases FR with
  | false =>
    have hbm : base1 M xs xp = M := by unfold base1; rw [HFE.out]; rfl
    obtain ⟨z1, z2, z3, z4⟩ := HE.out w3 ma mc (by rw [hbm]; exact HS3.out) HW3.out (by rw [hbm]; exact ko3)
    rw [hbm] at z1 z2 z3 z4
    have HZ : Hid (fitP M ∧ (∀ s, VG M s ↔ VG a s ∨ ∃ x ∈ b.take (i + 1), spG x = s) ∧ (∀ s t, EG M s t ↔ EG a s t) ∧ M.length ≤ a.length + (i + 1)) := ⟨z1, z2, z3, z4⟩
    have HKO3 : Hid (w3.heap[ob]? = some (Obj.cells #[.slice ma M.length mc] 24)) := ko3
    clear hbm HE HFE HSM HBR HKO HVM HEM HFM hMl ko3 kn3 z1 z2 z3 z4 tb tr tB
    go_wp2_with fail
    exact ⟨⟨i + 1, M, ma, mc, by go_num, by omega, HZ.out.1, HZ.out.2.1, HZ.out.2.2.1, HZ.out.2.2.2, HS3, HW3, HKO3⟩, by simp [intOf]; omega⟩
  | true =>
    have co3 : w3.cell? ⟨ob, 0, none⟩ = some (.slice ma M.length mc) := by rw [Lib.cell_of_heap ko3]; rfl
    have dml : decide ((M.length : Int) ≥ 4096) = false := decide_eq_false (by omega)
    have dmn : decide (4096 ≤ M.length) = false := decide_eq_false (by omega)
    have n0 : w3.cell? ⟨xb, 0, none⟩ = some (.int .i64 xs) := by rw [Lib.cell_of_heap kn3]; rfl
    have n1 : w3.cell? ⟨xb, 1, none⟩ = some (.int .i64 xp) := by rw [Lib.cell_of_heap kn3]; rfl
    have n2 : w3.cell? ⟨xb, 2, none⟩ = some (.slice xa xk.length xc) := by rw [Lib.cell_of_heap kn3]; rfl
    have HCW := with_any M (.slice ma M.length mc) xs xp (.slice xa xk.length xc) w3 HS3.out (by omega) (fit_lk HFM.out) x64 y64 ⟨_, _, _, rfl⟩
    go_wp2_with fail
    refine HCW.mono ?_
    rintro e w4 ⟨gv, L, rfl, hL, hO, b4⟩
    clear HCW co3 n0 n1 n2
    have hbm : L.map Prod.fst = base1 M xs xp := by rw [hL]; unfold base1; rw [HFE.out]; rfl
    have hll : (base1 M xs xp).length ≤ 1000 := by rw [base_len]; split <;> omega
    have hLl : L.length = (base1 M xs xp).length := by rw [← hbm]; simp
    have hsl := hO.sl (by omega)
    rw [hbm] at hsl
    have HSL : Hid (SlN (base1 M xs xp) gv w4) := hsl
    obtain ⟨ga, gc, rfl, _⟩ := hsl
    have ko4 := (b4.block _ (blk_lt ko3)).trans ko3
    have co4 : w4.cell? ⟨ob, 0, none⟩ = some (.slice ma M.length mc) := by rw [Lib.cell_of_heap ko4]; rfl
    have cf4 : w4.frozen? ⟨ob, 0, none⟩ = false := Lib.frozen_of_heap ko4 _
    have HF : Hid (∀ w5, w5 = w4.setCell ⟨ob, 0, none⟩ (.slice ga (base1 M xs xp).length gc) → SlN (base1 M xs xp) (.slice ga (base1 M xs xp).length gc) w5 ∧ Below w0.heap.size w0 w5 ∧ w5.heap[ob]? = some (Obj.cells #[.slice ga (base1 M xs xp).length gc] 24)) := by
      rintro w5 rfl
      exact ⟨HSL.out.box ko4 ((But.refl _ _).setCell _ _ (.inr rfl)), (below_then HW3.out b4 HW3.out.size).setCell (by rw [← HOB.out]; exact Nat.le_refl _) _, by simpa using blk_set (o := 0) ko4 (.slice ga (base1 M xs xp).length gc)⟩
    clear hL hO b4 hbm hLl HSL ko3 ko4 kn3 HS3 HW3 HB3 HSM HBR HKO tb tr tB hll
    generalize base1 M xs xp = BM at *
    go_wp2_with fail
    obtain ⟨y1, y2, y3⟩ := HF.out _ rfl
    obtain ⟨z1, z2, z3, z4⟩ := HE.out _ ga gc y1 y2 y3
    exact ⟨⟨i + 1, BM, ga, gc, by go_num, by omega, z1, z2, z3, z4, y1, y2, y3⟩, by simp [intOf]; omega⟩
end Go.Proofs.Ytjpbfckdiojghaa
