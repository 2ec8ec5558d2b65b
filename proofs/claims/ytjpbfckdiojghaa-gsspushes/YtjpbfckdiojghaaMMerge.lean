/- Stacks: the program's Merge: what either has. -/
import Derived.Test.YtjpbfckdiojghaaMMerged
import Derived.Test.YtjpbfckdiojghaaLAwake
namespace Go.Proofs.Ytjpbfckdiojghaa
open Go.RowKit Go.Maps

theorem nodup_sub : ∀ (l l' : List Sp), l.Nodup → (∀ x ∈ l, x ∈ l') → l.length ≤ l'.length
  | [], _, _, _ => Nat.zero_le _
  | x :: l, l', hn, hs => by
    obtain ⟨h1, h2⟩ := List.nodup_cons.1 hn
    have hx := hs x (by simp)
    have := nodup_sub l (l'.erase x) h2 (fun y hy => (List.mem_erase_of_ne (fun (e : y = x) => h1 (by rw [← e]; exact hy))).2 (hs y (by simp [hy])))
    rw [List.length_erase_of_mem hx] at this
    have := List.length_pos_of_mem hx
    simp; omega
theorem Joins2.len {a b m : List Gn} (h : Joins2 a b m) : m.length ≤ a.length + b.length := by
  have hn : (m.map spG).Nodup := up_nodup (spG_up.1 h.fit.up)
  have := nodup_sub (m.map spG) (a.map spG ++ b.map spG) hn (fun s hs => by
    obtain ⟨x, hx, rfl⟩ := List.mem_map.1 hs
    rw [List.mem_append]
    rcases (h.spots (spG x)).1 ⟨x, hx, rfl⟩ with ⟨y, hy, e⟩ | ⟨y, hy, e⟩
    · exact .inl (by rw [← e]; exact List.mem_map_of_mem hy)
    · exact .inr (by rw [← e]; exact List.mem_map_of_mem hy))
  simpa using this

set_option maxRecDepth 100000 in
set_option maxHeartbeats 1600000 in
theorem merge_any (a b : List Gn) (u v : Value) (w : World) (ha : SlN a u w) (hb : SlN b v w) (hfa : fitP a) (hfb : fitP b) (hla : a.length ≤ 400) (hlb : b.length ≤ 400) :
    Calls Try.prog 11 #[.agg #[u], .agg #[v]] w fun e w' => ∃ m ma mc, e = .returned (.agg #[.slice ma (List.length m) mc]) ∧ Joins2 a b m ∧ SlN m (.slice ma m.length mc) w' ∧ Below w.heap.size w w' := by
  have HA : Hid (∀ W, Below w.heap.size w W → SlN a u W) := fun W hb => ha.next hb
  have HB : Hid (∀ W, Below w.heap.size w W → SlN b v W) := fun W hb' => hb.next hb'
  obtain ⟨aa, ac, rfl, _⟩ := ha
  obtain ⟨ba, bc, rfl, _⟩ := hb
  obtain ⟨w0, hw0⟩ : ∃ w0, w0 = ((w.alloc (Obj.cells #[.slice aa a.length ac] 24)).alloc (Obj.cells #[.slice ba b.length bc] 24)).alloc (Obj.cells #[.slice none 0 0] 24) := ⟨_, rfl⟩
  have B0 : Below w.heap.size w w0 := by rw [hw0]; exact (((Below.refl _ _).alloc (Nat.le_refl _) _).alloc (by simp) _).alloc (by simp; omega) _
  have k0 : w0.heap[w.heap.size]? = some (Obj.cells #[.slice aa a.length ac] 24) := by rw [hw0]; exact blk_new (blk_new (heap_alloc_new _ _))
  have k1 : w0.heap[w.heap.size + 1]? = some (Obj.cells #[.slice ba b.length bc] 24) := by rw [hw0]; exact blk_new (by simpa using heap_alloc_new (w.alloc (Obj.cells #[.slice aa a.length ac] 24)) (Obj.cells #[.slice ba b.length bc] 24))
  have k2 : w0.heap[w.heap.size + 1 + 1]? = some (Obj.cells #[.slice none 0 0] 24) := by rw [hw0]; simpa using heap_alloc_new ((w.alloc (Obj.cells #[.slice aa a.length ac] 24)).alloc (Obj.cells #[.slice ba b.length bc] 24)) (Obj.cells #[.slice none 0 0] 24)
  have HC := numbersOf_any a b (.slice aa a.length ac) (.slice ba b.length bc) w0 (HA.out _ B0) (HB.out _ B0) (by omega) (by omega)
  have HFT : Hid (fitP a ∧ fitP b) := ⟨hfa, hfb⟩
  clear hfa hfb
  go_enter Try.func11, Try.ntmps11
  go_wp2_with fail
  rw [← hw0]
  clear hw0
  refine HC.mono ?_
  rintro e w1 ⟨mb, S, rfl, hup, hS, hSl, hM, _, hb1⟩
  clear HC
  have B1 : Below w.heap.size w w1 := below_then B0 hb1 B0.size
  have j0 := (hb1.block _ (blk_lt k0)).trans k0
  have j1 := (hb1.block _ (blk_lt k1)).trans k1
  have j2 := (hb1.block _ (blk_lt k2)).trans k2
  have c0 : w1.cell? ⟨w.heap.size, 0, none⟩ = some (.slice aa a.length ac) := by rw [Lib.cell_of_heap j0]; rfl
  have c1 : w1.cell? ⟨w.heap.size + 1, 0, none⟩ = some (.slice ba b.length bc) := by rw [Lib.cell_of_heap j1]; rfl
  have hln := hM.len 3
  have dS : decide ((S.length : Int) > 4096) = false := decide_eq_false (by omega)
  have BK : Below w1.heap.size w1 (w1.alloc (Obj.cells #[.slice aa a.length ac, .slice ba b.length bc] 24)) := (Below.refl _ _).alloc (Nat.le_refl _) _
  have HMG := merged_any mb w1.heap.size S a b (.slice aa a.length ac) (.slice ba b.length bc) (w1.alloc (Obj.cells #[.slice aa a.length ac, .slice ba b.length bc] 24)) (HA.out _ (below_then B1 BK B1.size)) (HB.out _ (below_then B1 BK B1.size)) HFT.out.1 HFT.out.2 hla hlb hup hS hSl (hM.next BK) (heap_alloc_new _ _)
  have HB1 : Hid (Below w.heap.size w w1) := B1
  have HBK : Hid (Below w1.heap.size w1 (w1.alloc (Obj.cells #[.slice aa a.length ac, .slice ba b.length bc] 24))) := BK
  clear k0 k1 k2 B0 hb1 hM hup hS HFT HA HB j0 j1 B1 BK
  go_wp2_with fail
  refine HMG.mono ?_
  rintro e w2 ⟨m, mv, rfl, hj, hsm, hml, hb2⟩
  clear HMG
  obtain ⟨ma, mc, rfl, hsr⟩ := id hsm
  have B2 : Below w1.heap.size w1 w2 := below_then HBK.out hb2 HBK.out.size
  have j3 := (B2.block _ (blk_lt j2)).trans j2
  have z : (w2.setCell ⟨w.heap.size + 1 + 1, 0, none⟩ (.slice ma m.length mc)).heap[w.heap.size + 1 + 1]? = some (Obj.cells #[.slice ma m.length mc] 24) := by
    have := blk_set (o := 0) j3 (.slice ma m.length mc)
    simpa using this
  have HE : Hid (SlN m (.slice ma m.length mc) (w2.setCell ⟨w.heap.size + 1 + 1, 0, none⟩ (.slice ma m.length mc)) ∧ Below w.heap.size w (w2.setCell ⟨w.heap.size + 1 + 1, 0, none⟩ (.slice ma m.length mc))) := ⟨hsm.box j3 ((But.refl _ _).setCell _ _ (.inr rfl)), (HB1.out.trans (B2.mono HB1.out.size)).setCell (by simp; omega) _⟩
  have c3 : w2.cell? ⟨w.heap.size + 1 + 1, 0, none⟩ = some (.slice none 0 0) := by rw [Lib.cell_of_heap j3]; rfl
  have f3 : w2.frozen? ⟨w.heap.size + 1 + 1, 0, none⟩ = false := Lib.frozen_of_heap j3 _
  clear hsm hsr B2 j3 hb2 HB1 HBK c0 c1 hml
  go_wp2_with fail
  refine bodyPost_ret (results_cell1 rfl _ _ _ rfl (run_loadVar_row _ _ _ _ _ _ _ z Try.underlying24 rfl (by kernel_rfl))) rfl ?_
  exact ⟨m, ma, mc, rfl, hj, HE.out⟩
end Go.Proofs.Ytjpbfckdiojghaa
