/- Stacks: the document's Same, New. -/
import Derived.Test.YtjpbfckdiojghaaGRows
namespace Go.Proofs.Ytjpbfckdiojghaa
open Go.RowKit

def linksOk (l : List Gn) : Prop := ∀ x ∈ l, x.links.length ≤ 1000000
set_option maxRecDepth 100000 in
set_option maxHeartbeats 2000000 in
theorem gsame_any (l m : List Gn) (u v : Value) (w : World) (hl : SlN l u w) (hm : SlN m v w) (hll : linksOk l) (hml : linksOk m) :
    Calls Try.prog 10 #[.agg #[u], .agg #[v]] w fun e w' => e = .returned (.bool (decide (l = m))) ∧ Below w.heap.size w w' := by
  have HI : Hid (∀ (es fs : List Int) (u v : Value) W, SlI es u W → SlI fs v W → es.length ≤ 1000000 → fs.length ≤ 1000000 → Calls Try.prog 30 #[u, v] W fun e w' => e = .returned (.bool (decide (es = fs))) ∧ Below W.heap.size W w') := fun es fs u v W h1 h2 h3 h4 => gints_any es fs u v W h1 h2 h3 h4
  have HL : Hid (∀ W, Below w.heap.size w W → SlN l u W ∧ SlN m v W) := fun W hb => ⟨hl.next hb, hm.next hb⟩
  have HLO : Hid (linksOk l ∧ linksOk m) := ⟨hll, hml⟩
  obtain ⟨la, lc, rfl, _, _, _, hlb⟩ := hl
  obtain ⟨ma, mc, rfl, _, _, _, hmb⟩ := hm
  have B0 : Below w.heap.size w ((w.alloc (Obj.cells #[.slice la l.length lc] 24)).alloc (Obj.cells #[.slice ma m.length mc] 24)) := ((Below.refl _ _).alloc (Nat.le_refl _) _).alloc (by simp) _
  have b0 : ((w.alloc (Obj.cells #[.slice la l.length lc] 24)).alloc (Obj.cells #[.slice ma m.length mc] 24)).heap[w.heap.size]? = some (Obj.cells #[.slice la l.length lc] 24) := (Lib.alloc_old _ _ _ (by simp)).trans (heap_alloc_new _ _)
  have b1 : ((w.alloc (Obj.cells #[.slice la l.length lc] 24)).alloc (Obj.cells #[.slice ma m.length mc] 24)).heap[w.heap.size + 1]? = some (Obj.cells #[.slice ma m.length mc] 24) := heap_alloc2_new _ _ _
  clear hll hml
  by_cases hn : l.length = m.length
  case neg =>
    have hn' : ¬ (l.length : Int) = m.length := by omega
    have hn2 : ((l.length : Int) != m.length) = true := by simpa using hn'
    have HV : Hid (decide (l = m) = false) := by show _ = _; exact decide_eq_false (fun h => hn (by rw [h]))
    clear HL HI HLO hn
    go_enter Try.func10, Try.ntmps10
    go_wp2_with fail
    go_ret
    exact ⟨by rw [HV.out]; rfl, B0⟩
  have hn2 : ((l.length : Int) != m.length) = false := by simp [hn]
  have HNN : Hid (l.length = m.length) := hn
  have hle1 : l.length ≤ m.length := by omega
  have hle2 : m.length ≤ l.length := by omega
  clear hn
  go_enter Try.func10, Try.ntmps10
  go_wp2_with fail
  generalize (w.alloc (Obj.cells #[.slice la l.length lc] 24)).alloc (Obj.cells #[.slice ma m.length mc] 24) = w0 at *
  have hz := blk_lt b1
  have HT : Hid (∀ W, Below w0.heap.size w0 W → W.cell? ⟨w.heap.size, 0, none⟩ = some (.slice la l.length lc) ∧ W.cell? ⟨w.heap.size + 1, 0, none⟩ = some (.slice ma m.length mc) ∧ Below w.heap.size w W) := fun W hW => ⟨(hW.cell (p := ⟨w.heap.size, 0, none⟩) (by simp only; omega)).trans (by rw [Lib.cell_of_heap b0]; rfl), (hW.cell (p := ⟨w.heap.size + 1, 0, none⟩) hz).trans (by rw [Lib.cell_of_heap b1]; rfl), B0.trans (hW.mono B0.size)⟩
  clear B0 b0 b1
  go_loopw [5] (fun iv wr => ∃ (j : Nat), iv = .int .i64 j ∧ j ≤ l.length ∧ (l = m ↔ l.drop j = m.drop j) ∧ Below w0.heap.size w0 wr) (fun i _ => l.length - (intOf i).toNat)
  case atStart => exact ⟨0, rfl, Nat.zero_le _, by simp, Below.refl _ _⟩
  case round =>
  obtain ⟨j, rfl, hj, hrel, hW⟩ := hrel
  obtain ⟨c0, c1, BW⟩ := HT.out wr hW
  have hsz := hW.size
  by_cases hlt : j < l.length
  case neg =>
    obtain rfl : j = l.length := by omega
    have HV : Hid (decide (l = m) = true) := by show _ = _; exact decide_eq_true (by rw [hrel, List.drop_of_length_le (Nat.le_refl _), List.drop_of_length_le (by omega)])
    clear HL hrel HT HI
    go_wp2_with fail
    go_ret
    exact ⟨by rw [HV.out]; rfl, BW⟩
  have hlt2 : j < m.length := by omega
  obtain ⟨⟨_, _, e0, hal, _⟩, ⟨_, _, e1, ham, _⟩⟩ := HL.out _ BW
  cases e0
  cases e1
  obtain ⟨b2, o2, u, rfl, hb2, q0, q1, q2, q3, _⟩ := hal.at (Below.refl _ _) hlt
  obtain ⟨b3, o3, v, rfl, hb3, r0, r1, r2, r3, _⟩ := ham.at (Below.refl _ _) hlt2
  have hx1 := HLO.out.1 l[j] (List.getElem_mem hlt)
  have hy1 := HLO.out.2 m[j] (List.getElem_mem hlt2)
  rw [List.drop_eq_getElem_cons hlt, List.drop_eq_getElem_cons hlt2] at hrel
  generalize l[j] = x at *
  generalize m[j] = y at *
  simp only [List.cons.injEq] at hrel
  have HF : Hid (l = m ↔ x = y ∧ l.drop (j + 1) = m.drop (j + 1)) := hrel
  obtain ⟨xs, xp, xl⟩ := x
  obtain ⟨ys, yp, yl⟩ := y
  simp only at *
  obtain ⟨ua, uc, rfl, _⟩ := id q3
  obtain ⟨va, vc, rfl, _⟩ := id r3
  have b1 : Below wr.heap.size wr (wr.alloc (Obj.cells #[.int .i64 xs, .int .i64 xp, .slice ua xl.length uc] 35)) := (Below.refl _ _).alloc (Nat.le_refl _) _
  have b2' : Below wr.heap.size wr ((wr.alloc (Obj.cells #[.int .i64 xs, .int .i64 xp, .slice ua xl.length uc] 35)).alloc (Obj.cells #[.int .i64 ys, .int .i64 yp, .slice va yl.length vc] 35)) := b1.alloc (by simp) _
  have r0' := (b1.cell (p := ⟨b3, o3 + j * 3, none⟩) hb3).trans r0
  have r1' := (b1.cell (p := ⟨b3, o3 + j * 3 + 1, none⟩) hb3).trans r1
  have r2' := (b1.cell (p := ⟨b3, o3 + j * 3 + 2, none⟩) hb3).trans r2
  have c1' := (b1.cell (p := ⟨w.heap.size + 1, 0, none⟩) (by simp only; omega)).trans c1
  have p0 : ((wr.alloc (Obj.cells #[.int .i64 xs, .int .i64 xp, .slice ua xl.length uc] 35)).alloc (Obj.cells #[.int .i64 ys, .int .i64 yp, .slice va yl.length vc] 35)).heap[wr.heap.size]? = some (Obj.cells #[.int .i64 xs, .int .i64 xp, .slice ua xl.length uc] 35) := (Lib.alloc_old _ _ _ (by simp)).trans (heap_alloc_new _ _)
  have p1 : ((wr.alloc (Obj.cells #[.int .i64 xs, .int .i64 xp, .slice ua xl.length uc] 35)).alloc (Obj.cells #[.int .i64 ys, .int .i64 yp, .slice va yl.length vc] 35)).heap[wr.heap.size + 1]? = some (Obj.cells #[.int .i64 ys, .int .i64 yp, .slice va yl.length vc] 35) := heap_alloc2_new _ _ _
  have HWN : Hid (Below w0.heap.size w0 ((wr.alloc (Obj.cells #[.int .i64 xs, .int .i64 xp, .slice ua xl.length uc] 35)).alloc (Obj.cells #[.int .i64 ys, .int .i64 yp, .slice va yl.length vc] 35))) := hW.trans (b2'.mono hsz)
  have HC := HI.out xl yl _ _ _ (q3.next b2') (r3.next b2') hx1 hy1
  clear hrel hal ham HL HI q3 r3 b2'
  go_upto_region 8 with fail
  clear c0 c1 q0 q1 q2 r0 r1 r2 r0' r1' r2' c1' b1
  generalize (wr.alloc (Obj.cells #[.int .i64 xs, .int .i64 xp, .slice ua xl.length uc] 35)).alloc (Obj.cells #[.int .i64 ys, .int .i64 yp, .slice va yl.length vc] 35) = wb at *
  have d0 : wb.cell? ⟨wr.heap.size, 0, none⟩ = some (.int .i64 xs) := by rw [Lib.cell_of_heap p0]; rfl
  have d1 : wb.cell? ⟨wr.heap.size, 1, none⟩ = some (.int .i64 xp) := by rw [Lib.cell_of_heap p0]; rfl
  have d2 : wb.cell? ⟨wr.heap.size, 2, none⟩ = some (.slice ua xl.length uc) := by rw [Lib.cell_of_heap p0]; rfl
  have f0 : wb.cell? ⟨wr.heap.size + 1, 0, none⟩ = some (.int .i64 ys) := by rw [Lib.cell_of_heap p1]; rfl
  have f1 : wb.cell? ⟨wr.heap.size + 1, 1, none⟩ = some (.int .i64 yp) := by rw [Lib.cell_of_heap p1]; rfl
  have f2 : wb.cell? ⟨wr.heap.size + 1, 2, none⟩ = some (.slice va yl.length vc) := by rw [Lib.cell_of_heap p1]; rfl
  obtain ⟨_, _, BB⟩ := HT.out wb HWN.out
  by_cases h1 : xs = ys
  case neg =>
    have g1 : (xs != ys) = true := by simpa using h1
    have HV : Hid (decide (l = m) = false) := by show _ = _; exact decide_eq_false (fun h => h1 (by have := (HF.out.1 h).1; simp at this; exact this.1))
    clear HF h1 HC
    go_wp2_with fail
    go_ret
    exact ⟨by rw [HV.out]; rfl, BB⟩
  have g1 : (xs != ys) = false := by simpa using h1
  by_cases h2 : xp = yp
  case neg =>
    have g2 : (xp != yp) = true := by simpa using h2
    have HV : Hid (decide (l = m) = false) := by show _ = _; exact decide_eq_false (fun h => h2 (by have := (HF.out.1 h).1; simp at this; exact this.2.1))
    clear HF h1 h2 HC
    go_wp2_with fail
    go_ret
    exact ⟨by rw [HV.out]; rfl, BB⟩
  have g2 : (xp != yp) = false := by simpa using h2
  have HF2 : Hid (l = m ↔ xl = yl ∧ l.drop (j + 1) = m.drop (j + 1)) := by show _ ↔ _; rw [HF.out]; simp [h1, h2]
  clear HF h1 h2
  go_wp2_with fail
  refine HC.mono ?_
  rintro e w3 ⟨rfl, b3'⟩
  have B3 := HWN.out.trans (b3'.mono HWN.out.size)
  obtain ⟨_, _, BB3⟩ := HT.out w3 B3
  clear HC d0 d1 d2 f0 f1 f2 p0 p1
  by_cases h3 : xl = yl
  · have hd : decide (xl = yl) = true := decide_eq_true h3
    rw [hd]
    have HV : Hid ((l = m ↔ l.drop (j + 1) = m.drop (j + 1)) ∧ Below w0.heap.size w0 w3) := ⟨by rw [HF2.out]; simp [h3], B3⟩
    clear HF2 h3 hd B3 b3' HWN
    go_wp2_with fail
    exact ⟨⟨j + 1, by go_num, by omega, HV.out⟩, by simp [intOf]; omega⟩
  · have hd : decide (xl = yl) = false := decide_eq_false h3
    rw [hd]
    have HV : Hid (decide (l = m) = false) := by show _ = _; exact decide_eq_false (fun h => h3 (HF2.out.1 h).1)
    clear HF2 h3 hd B3 b3' HWN
    go_wp2_with fail
    go_ret
    exact ⟨by rw [HV.out]; rfl, BB3⟩
end Go.Proofs.Ytjpbfckdiojghaa
