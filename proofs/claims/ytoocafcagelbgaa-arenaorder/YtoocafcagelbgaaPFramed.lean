/- framed. -/
import Derived.Test.YtoocafcagelbgaaPTrees
import Derived.Test.YtoocafcagelbgaaPFitS
namespace Go.Proofs.Ytoocafcagelbgaa
open Go.RowKit

theorem textK_nil {ks : List Int} (h : textK ks = ⟨#[]⟩) : ks = [] := by
  unfold textK at h
  have h1 : (textB ks).toArray = #[] := by injection h
  have h2 : (textB ks).length = 0 := by
    have := congrArg Array.size h1
    simpa using this
  rw [textB_len] at h2
  exact List.eq_nil_of_length_eq_zero (by omega)
theorem slotB_are {n : Nat} {s : Sl} (h : slotB n s = true) : areB n s.kids = true := by
  unfold slotB at h
  simp only [Bool.and_eq_true] at h
  have h3 := h.2
  split at h3
  · have h4 : keyH s.nd.h s.kids = zeroK := of_decide_eq_true h3
    have h5 : textK s.kids = ⟨#[]⟩ := congrArg HK.ks h4
    rw [textK_nil h5]; rfl
  · simp only [Bool.and_eq_true] at h3
    exact h3.2
theorem slotsB_are {n : Nat} {l : List Sl} (h : slotsB n l = true) : ∀ s ∈ l, areB n s.kids = true := fun s hs => slotB_are (List.all_eq_true.1 h s hs)
def framedB (a : Ar) (most : Nat) : Bool :=
  decide (a.slots.length ≤ 4096) && (decide (a.roots.length ≤ 4096) && (slotsB a.slots.length a.slots && (freeB a.slots a.free && (rootsB a.slots.length a.roots && (refsB a.slots a.roots && treesB a.slots a.roots most)))))
set_option maxRecDepth 100000 in
set_option maxHeartbeats 3200000 in
theorem framed_any (a : Ar) (v : Value) (most : Nat) (w : World) (h : ArV a v w) (hkl : ∀ s ∈ a.slots, s.kids.length ≤ 1000000) (hm1 : 1 ≤ most) (hm2 : most ≤ 1048576) :
    Calls Try.prog 38 #[v, .int .i64 (most : Int)] w fun e w' => e = .returned (.bool (framedB a most)) ∧ Below w.heap.size w w' := by
  have H1 : Hid (∀ W, Below w.heap.size w W → Calls Try.prog 56 #[v] W fun e w' => e = .returned (.bool (slotsB a.slots.length a.slots)) ∧ Below W.heap.size W w') := fun W hb => fitSlots_any a v W (h.next hb) hkl
  have H2 : Hid (∀ W, Below w.heap.size w W → Calls Try.prog 57 #[v] W fun e w' => e = .returned (.bool (freeB a.slots a.free)) ∧ Below W.heap.size W w') := fun W hb => fitFree_any a v W (h.next hb)
  have H3 : Hid (∀ W, Below w.heap.size w W → Calls Try.prog 58 #[v] W fun e w' => e = .returned (.bool (rootsB a.slots.length a.roots)) ∧ Below W.heap.size W w') := fun W hb => fitRoots_any a v W (h.next hb)
  have H4 : Hid (a.slots.length ≤ 4096 → a.roots.length ≤ 4096 → slotsB a.slots.length a.slots = true → rootsB a.slots.length a.roots = true → ∀ W, Below w.heap.size w W → Calls Try.prog 59 #[v] W fun e w' => e = .returned (.bool (refsB a.slots a.roots)) ∧ Below W.heap.size W w') := fun h1 h2 h3 h4 W hb => fitRefs_any a v W (h.next hb) h1 hkl (by omega) (slotsB_are h3) h4
  have H5 : Hid (a.slots.length ≤ 4096 → slotsB a.slots.length a.slots = true → rootsB a.slots.length a.roots = true → ∀ W, Below w.heap.size w W → Calls Try.prog 60 #[v, .int .i64 (most : Int)] W fun e w' => e = .returned (.bool (treesB a.slots a.roots most)) ∧ Below W.heap.size W w') := fun h1 h3 h4 W hb => fitTrees_any a v most W (h.next hb) h1 hkl (slotsB_are h3) h4 hm1 hm2
  obtain ⟨sv, rv, rfl, ⟨ao, cap, rfl, _, _, _, hlb⟩, hr, hfi, hrl⟩ := h
  obtain ⟨ra, rc, rfl, _⟩ := hr
  have HFV : Hid (framedB a most = (decide (a.slots.length ≤ 4096) && (decide (a.roots.length ≤ 4096) && (slotsB a.slots.length a.slots && (freeB a.slots a.free && (rootsB a.slots.length a.roots && (refsB a.slots a.roots && treesB a.slots a.roots most))))))) := rfl
  generalize framedB a most = FBB at *
  generalize slotsB a.slots.length a.slots = b1 at *
  generalize freeB a.slots a.free = b2 at *
  generalize rootsB a.slots.length a.roots = b3 at *
  generalize refsB a.slots a.roots = b4 at *
  generalize treesB a.slots a.roots most = b5 at *
  generalize a.slots.length = sl at *
  generalize a.roots.length = rl at *
  generalize a.free = fr at *
  have B0 : Below w.heap.size w (w.alloc (Obj.cells #[.slice ao sl cap, .int .i64 fr, .slice ra rl rc] 25)) := (Below.refl _ _).alloc (Nat.le_refl _) _
  have b0 : ArBox w.heap.size ao sl cap fr (.slice ra rl rc) (w.alloc (Obj.cells #[.slice ao sl cap, .int .i64 fr, .slice ra rl rc] 25)) := ⟨by simp, by simp, by simp⟩
  obtain ⟨w0, hw0⟩ : ∃ w0, w0 = w.alloc (Obj.cells #[.slice ao sl cap, .int .i64 fr, .slice ra rl rc] 25) := ⟨_, rfl⟩
  rw [← hw0] at B0 b0
  have HBX : Hid (∀ W, Below w0.heap.size w0 W → ArBox w.heap.size ao sl cap fr (.slice ra rl rc) W ∧ Below w.heap.size w W) := fun W hb => ⟨b0.next hb, below_next B0 hb⟩
  obtain ⟨c0, c1, c2⟩ := b0
  have HB0 : Hid (Below w.heap.size w w0) := B0
  clear B0
  by_cases h1 : sl ≤ 4096
  case neg =>
    have d1 : decide ((sl : Int) ≤ 4096) = false := decide_eq_false (by omega)
    have HFV : Hid (FBB = false) := by rw [HFV.out]; show _ = _; simp [h1]
    clear H1 H2 H3 H4 H5 h1
    rw [hw0] at c0 c1 c2 HB0
    go_enter Try.func38, Try.ntmps38
    go_wp2_with fail
    go_ret
    exact ⟨by rw [HFV.out]; rfl, HB0.out⟩
  have d1 : decide ((sl : Int) ≤ 4096) = true := decide_eq_true (by omega)
  by_cases h2 : rl ≤ 4096
  case neg =>
    have d2 : decide ((rl : Int) ≤ 4096) = false := decide_eq_false (by omega)
    have HFV : Hid (FBB = false) := by rw [HFV.out]; show _ = _; simp [h2]
    clear H1 H2 H3 H4 H5 h1 h2
    rw [hw0] at c0 c1 c2 HB0
    go_enter Try.func38, Try.ntmps38
    go_wp2_with fail
    go_ret
    exact ⟨by rw [HFV.out]; rfl, HB0.out⟩
  have d2 : decide ((rl : Int) ≤ 4096) = true := decide_eq_true (by omega)
  have HFW : Hid (FBB = (b1 && (b2 && (b3 && (b4 && b5))))) := by rw [HFV.out]; show _ = _; simp [h1, h2]
  have H4 : Hid (b1 = true → b3 = true → ∀ W, Below w.heap.size w W → Calls Try.prog 59 #[.agg #[.slice ao sl cap, .int .i64 fr, .slice ra rl rc]] W fun e w' => e = .returned (.bool b4) ∧ Below W.heap.size W w') := H4.out h1 h2
  have H5 : Hid (b1 = true → b3 = true → ∀ W, Below w.heap.size w W → Calls Try.prog 60 #[.agg #[.slice ao sl cap, .int .i64 fr, .slice ra rl rc], .int .i64 (most : Int)] W fun e w' => e = .returned (.bool b5) ∧ Below W.heap.size W w') := H5.out h1
  clear HFV h1 h2
  have hc1 := H1.out w0 HB0.out
  rw [hw0] at c0 c1 c2
  go_enter Try.func38, Try.ntmps38
  go_wp2_with fail
  rw [← hw0]
  refine hc1.mono ?_
  rintro e w1 ⟨rfl, hb1⟩
  have HW1 : Hid (Below w0.heap.size w0 w1) := hb1
  obtain ⟨c0, c1, c2⟩ := (HBX.out w1 hb1).1
  clear hc1 hb1 hw0
  cases b1 with
  | false =>
    go_wp2_with fail
    go_ret
    exact ⟨by rw [HFW.out]; rfl, (HBX.out w1 HW1.out).2⟩
  | true =>
  have hc2 := H2.out w1 (HBX.out w1 HW1.out).2
  clear H1 H2
  go_wp2_with fail
  refine hc2.mono ?_
  rintro e w2 ⟨rfl, hb2⟩
  have HW2 : Hid (Below w0.heap.size w0 w2) := below_next HW1.out hb2
  obtain ⟨c0, c1, c2⟩ := (HBX.out w2 HW2.out).1
  clear hc2 hb2
  cases b2 with
  | false =>
    go_wp2_with fail
    go_ret
    exact ⟨by rw [HFW.out]; rfl, (HBX.out w2 HW2.out).2⟩
  | true =>
  have hc3 := H3.out w2 (HBX.out w2 HW2.out).2
  clear H3
  go_wp2_with fail
  refine hc3.mono ?_
  rintro e w3 ⟨rfl, hb3⟩
  have HW3 : Hid (Below w0.heap.size w0 w3) := below_next HW2.out hb3
  obtain ⟨c0, c1, c2⟩ := (HBX.out w3 HW3.out).1
  clear hc3 hb3
  cases b3 with
  | false =>
    go_wp2_with fail
    go_ret
    exact ⟨by rw [HFW.out]; rfl, (HBX.out w3 HW3.out).2⟩
  | true =>
  have hc4 := H4.out (by simp) (by simp) w3 (HBX.out w3 HW3.out).2
  clear H4
  go_wp2_with fail
  refine hc4.mono ?_
  rintro e w4 ⟨rfl, hb4⟩
  have HW4 : Hid (Below w0.heap.size w0 w4) := below_next HW3.out hb4
  obtain ⟨c0, c1, c2⟩ := (HBX.out w4 HW4.out).1
  clear hc4 hb4
  cases b4 with
  | false =>
    go_wp2_with fail
    go_ret
    exact ⟨by rw [HFW.out]; rfl, (HBX.out w4 HW4.out).2⟩
  | true =>
  have hc5 := H5.out (by simp) (by simp) w4 (HBX.out w4 HW4.out).2
  clear H5
  go_wp2_with fail
  refine hc5.mono ?_
  rintro e w5 ⟨rfl, hb5⟩
  have HW5 : Hid (Below w0.heap.size w0 w5) := below_next HW4.out hb5
  clear hc5 hb5
  cases b5 <;>
  · go_wp2_with fail
    go_ret
    exact ⟨by rw [HFW.out]; rfl, (HBX.out w5 HW5.out).2⟩
end Go.Proofs.Ytoocafcagelbgaa
