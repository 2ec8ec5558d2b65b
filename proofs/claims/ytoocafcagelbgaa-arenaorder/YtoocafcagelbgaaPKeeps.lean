/- keeps; New. -/
import Derived.Test.YtoocafcagelbgaaAMath3
import Derived.Test.YtoocafcagelbgaaPRelease
namespace Go.Proofs.Ytoocafcagelbgaa
open Go.RowKit

/-- Whether a handle has a tree. -/
def keepsB (roots : List Int) (h : Int) : Bool := decide (0 ≤ h) && (match roots[h.toNat]? with | some p => decide (0 ≤ p) | none => false)
theorem keepsB_neg {roots : List Int} {h : Int} (hh : ¬ h ≥ 0) : keepsB roots h = false := by unfold keepsB; simp; intro h2; omega
theorem keepsB_out {roots : List Int} {h : Int} (hh : h ≥ 0) (hl : ¬ h < roots.length) : keepsB roots h = false := by
  unfold keepsB
  rw [List.getElem?_eq_none (by omega)]; simp
theorem keepsB_in {roots : List Int} {j : Nat} (hl : j < roots.length) : keepsB roots (j : Int) = decide (roots[j] ≥ 0) := by
  unfold keepsB
  rw [Int.toNat_natCast, List.getElem?_eq_getElem hl]; simp
set_option maxRecDepth 100000 in
set_option maxHeartbeats 1600000 in
theorem keeps_any (a : Ar) (v : Value) (h : Int) (w : World) (hv : ArV a v w) :
    Calls Try.prog 39 #[v, .int .i64 h] w fun e w' => e = .returned (.bool (keepsB a.roots h)) ∧ Below w.heap.size w w' := by
  obtain ⟨sv, rv, rfl, ⟨ao, cap, rfl, _, _, _, hlb⟩, hr, hfi, hrl⟩ := hv
  obtain ⟨ra, rc, rfl, hrow, _⟩ := hr
  generalize a.slots.length = sl at *
  generalize a.free = fr at *
  generalize a.roots = xs at *
  have B0 : Below w.heap.size w (w.alloc (Obj.cells #[.slice ao sl cap, .int .i64 fr, .slice ra xs.length rc] 25)) := (Below.refl _ _).alloc (Nat.le_refl _) _
  by_cases h1 : h ≥ 0
  case neg =>
    have d1 : decide (h ≥ 0) = false := decide_eq_false h1
    have HV : Hid (keepsB xs h = false) := keepsB_neg h1
    clear hrow
    go_enter Try.func39, Try.ntmps39
    go_wp2_with fail
    go_ret
    exact ⟨by rw [HV.out]; rfl, B0⟩
  have d1 : decide (h ≥ 0) = true := decide_eq_true h1
  by_cases h2 : h < xs.length
  case neg =>
    have HV : Hid (keepsB xs h = false) := keepsB_out h1 h2
    clear hrow
    generalize xs.length = n at *
    have d2 : decide (h < (n : Int)) = false := decide_eq_false h2
    go_enter Try.func39, Try.ntmps39
    go_wp2_with fail
    go_ret
    exact ⟨by rw [HV.out]; rfl, B0⟩
  obtain ⟨j, rfl⟩ : ∃ j : Nat, h = j := ⟨h.toNat, by omega⟩
  have hj : j < xs.length := by omega
  obtain ⟨b, off, rfl, hb, c0⟩ := hrow j xs[j] (List.getElem?_eq_getElem hj)
  have HV : Hid (keepsB xs (j : Int) = decide (xs[j] ≥ 0)) := keepsB_in hj
  have c1 : w.cell? ⟨b, off + j, none⟩ = some (.int .i64 xs[j]) := c0
  clear c0 hrow
  generalize xs[j] = p at *
  generalize xs.length = n at *
  have d2 : decide ((j : Int) < (n : Int)) = true := decide_eq_true h2
  obtain ⟨pb, hpb⟩ : ∃ pb : Bool, decide (p ≥ 0) = pb := ⟨_, rfl⟩
  rw [hpb] at HV
  clear hj
  go_enter Try.func39, Try.ntmps39
  go_wp2_with fail
  go_ret
  exact ⟨by rw [HV.out]; rfl, B0⟩
def newA : Ar := ⟨[], -1, []⟩
theorem fit_new (most : Nat) : fitAB newA most = true := by
  unfold fitAB framedB newA
  simp [slotsB, freeB, frG_end, liveN, rootsB, refsB, treesB, allP, allW, rN, wkRow, szAll, plF]
set_option maxRecDepth 100000 in
set_option maxHeartbeats 1600000 in
theorem new_any (w : World) :
    Calls Try.prog 14 #[] w fun e w' => ∃ v, e = .returned v ∧ ArV newA v w' ∧ Below w.heap.size w w' := by
  go_enter Try.func14, Try.ntmps14
  go_wp2_with fail
  refine bodyPost_ret (results_cell_row rfl _ _ w.heap.size 25 #[.slice none 0 0, .int .i64 (-1), .slice none 0 0] (0, 0) _ rfl (heap_alloc_new _ _) Try.underlying25 rfl (by kernel_rfl)) rfl ?_
  exact ⟨_, rfl, ⟨.slice none 0 0, .slice none 0 0, rfl, SlS.nil _, ⟨none, 0, rfl, fun i x hx => by simp [newA] at hx, fun _ => rfl, Nat.le_refl _, fun x hx => by cases hx⟩, ⟨by decide, by decide⟩, by simp [newA]⟩, (Below.refl _ _).alloc (Nat.le_refl _) _⟩
end Go.Proofs.Ytoocafcagelbgaa
