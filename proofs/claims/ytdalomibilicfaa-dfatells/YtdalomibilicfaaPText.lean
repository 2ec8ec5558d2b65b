/- Numbers as a text: textOf; a text tells its numbers. -/
import Derived.Test.YtdalomibilicfaaOMeet
import Derived.Laws.Cover4
namespace Go.Proofs.Ytdalomibilicfaa
open Go.RowKit

/-- A number that a letter stands for. -/
def letB (x : Int) : Prop := 0 ≤ x ∧ x < 55296
theorem info32 : (Try.prog.info? 21).map (fun i => (i.zero, i.size, i.bytes)) = some (some (.int .i32 0), 1, 4) := by kernel_rfl
theorem own_cells1 {W : World} {B g c n : Nat} {e : TypeId} {xs : List Value} (h : W.ownsRow B e 1 (.slice (some ⟨g, 0, none⟩) n c) n xs) {j : Nat} {u : Value} (hj : xs[j]? = some u) : W.cell? ⟨g, j, none⟩ = some u := by
  have := World.ownsRow.cells h (g := g) rfl j u hj
  rw [add_plain] at this
  simpa using this
theorem wrap32 {x : Int} (h : letB x) : IntKind.i32.wrap x = x := by
  unfold letB at h
  simp [IntKind.wrap, IntKind.bits, IntKind.signed]
  omega

set_option maxRecDepth 100000 in
set_option maxHeartbeats 1600000 in
theorem textOf_any (l : List Int) (v : Value) (w : World) (hl : SlI l v w) (hb : ∀ x ∈ l, letB x) (hn : l.length ≤ 1000000) :
    Calls Try.prog 64 #[v] w fun e w' => e = .returned (.string (runesBytes l)) ∧ Below w.heap.size w w' := by
  have HL : Hid (∀ W, Below w.heap.size w W → SlI l v W) := fun W hW => hl.next hW
  obtain ⟨la, lc, rfl, _, _, hlc, _⟩ := hl
  obtain ⟨ii, hii, hz0, hz1, hz2⟩ := info_parts info32
  obtain ⟨wm, hm1, hm2, hm3⟩ := run_makeSlice_full (P := Try.prog) w w.heap.size 119 21 ii _ 1 Try.underlying119 hii hz0 hz1 .i64 .i64 l.length (by omega) (by rw [hz2]; omega) (by unfold maxLen; omega) (Nat.le_refl _)
  have HM : Hid (∃ xs : List Value, xs.length = l.length ∧ wm.ownsRow w.heap.size 21 1 (.slice (some ⟨w.heap.size, 0, none⟩) l.length l.length) l.length xs ∧ Below w.heap.size w wm) := by
    refine ⟨_, ?_, hm2, (but_grown (A := fun _ => False) hm3 (fun r h => by cases h)).below (Nat.le_refl _) (fun _ h => h.elim)⟩
    rw [Array.length_toList, size_madeCells]; omega
  clear hm2 hm3
  go_enter Try.func64, Try.ntmps64
  go_wp2_with fail
  go_loopw [11] (fun iv wr => ∃ (j : Nat) (xs : List Value), iv = .int .i64 j ∧ j ≤ l.length ∧ Hid (xs.length = l.length ∧ xs.take j = (l.take j).map (Value.int .i32) ∧ wr.ownsRow w.heap.size 21 1 (.slice (some ⟨w.heap.size, 0, none⟩) l.length l.length) l.length xs ∧ Below w.heap.size w wr)) (fun i _ => l.length - (intOf i).toNat)
  case atStart =>
    obtain ⟨xs, h1, h2, h3⟩ := HM.out
    exact ⟨0, xs, rfl, Nat.zero_le _, h1, by simp, h2, h3⟩
  case round =>
    obtain ⟨j, xs, rfl, hj, HX⟩ := hrel
    clear HM hm1
    by_cases hlt : j < l.length
    case neg =>
      obtain rfl : j = l.length := by omega
      have hcv : (convert 119 9 (.slice (some ⟨w.heap.size, 0, none⟩) l.length l.length)).run Try.prog wr = .ok (.string (runesBytes l)) wr := by
        obtain ⟨h1, h2, h3, h4⟩ := HX.out
        have hxs : xs = l.map (Value.int .i32) := by
          have := h2
          rw [List.take_of_length_le (by omega), List.take_of_length_le (by omega)] at this
          exact this
        have := run_convert_runes (P := Try.prog) wr 119 9 21 ⟨w.heap.size, 0, none⟩ l.length l.length l (Nat.le_refl _) Try.underlying119 Try.underlying21 Try.underlying9 (fun k hk => by
          rw [add_plain]
          have := own_cells1 h3 (j := k) (u := .int .i32 l[k]) (by rw [hxs]; simp [hk])
          simpa [List.getD, List.getElem?_eq_getElem hk] using this)
        rw [List.take_length] at this
        exact this
      have HB : Hid (Below w.heap.size w wr) := HX.out.2.2.2
      clear HX HL
      go_wp2_with fail
      go_ret
      exact ⟨rfl, HB.out⟩
    obtain ⟨h1, h2, h3, h4⟩ := HX.out
    obtain ⟨_, _, e0, hr, _⟩ := HL.out _ h4
    cases e0
    obtain ⟨b, off, rfl, hbs, hc⟩ := hr.at (Below.refl _ _) hlt
    have hx := hb l[j] (List.getElem_mem hlt)
    have HS : Hid (l[j]? = some l[j]) := List.getElem?_eq_getElem hlt
    generalize l[j] = x at *
    have hw := wrap32 hx
    have hxj : xs[j]? = some (xs[j]'(by omega)) := List.getElem?_eq_getElem (by omega)
    generalize xs[j]'(by omega) = u at hxj
    have cj := own_cells1 h3 hxj
    have fj : wr.frozen? ⟨w.heap.size, j, none⟩ = false := by
      obtain ⟨cs, hcs⟩ := own_is_cells h3 (j := w.heap.size) rfl
      exact Lib.frozen_of_heap hcs _
    have HE : Hid ((xs.set j (.int .i32 x)).length = l.length ∧ (xs.set j (.int .i32 x)).take (j + 1) = (l.take (j + 1)).map (Value.int .i32) ∧ (wr.setCell ⟨w.heap.size, j, none⟩ (.int .i32 x)).ownsRow w.heap.size 21 1 (.slice (some ⟨w.heap.size, 0, none⟩) l.length l.length) l.length (xs.set j (.int .i32 x)) ∧ Below w.heap.size w (wr.setCell ⟨w.heap.size, j, none⟩ (.int .i32 x))) := by
      refine ⟨by simpa using h1, ?_, (World.ownsRow.stored h3 j _).1, h4.trans (((But.refl (fun k => k = w.heap.size) wr).setCell _ _ (.inr rfl)).below h4.size (fun k hk => by omega))⟩
      rw [List.take_set, List.take_add_one, List.take_add_one, hxj, HS.out, List.set_append_right _ _ (by simp; omega), h2]
      simp [Nat.min_eq_left (Nat.le_of_lt hlt)]
    have hc2 : wr.cell? ⟨b, off + j, none⟩ = some (.int .i64 x) := hc
    clear h1 h2 h3 h4 HX hr hx hxj HS HL hb hc
    go_wp2_with fail
    exact ⟨⟨j + 1, _, by go_num, by omega, HE⟩, by simp [intOf]; omega⟩
end Go.Proofs.Ytdalomibilicfaa
