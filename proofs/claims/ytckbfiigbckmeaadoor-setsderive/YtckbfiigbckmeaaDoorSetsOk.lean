/- What the program's functions tell, all five. -/
import Derived.Test.YtckbfiigbckmeaaDoorAhead
import Derived.Test.YtckbfiigbckmeaaDoorFollow
import Derived.Test.YtckbfiigbckmeaaDoorTellsWalk
namespace Go.Proofs.YtckbfiigbckmeaaDoor
open Go.RowKit

theorem bases_no {f : Fl} : (fun s => false = true ∧ s < f.terms.length) = NoP := by funext s; simp [NoP]
theorem bases_use {f : Fl} : (fun s => true = true ∧ s < f.terms.length) = UseP f := by funext s; simp [UseP]

set_option maxHeartbeats 1000000 in
theorem empty_any (f : Fl) (a : FlA) (w : World) (hf : FlAt f a w) (hp : FitP f) :
    Calls Tryd.prog 10 #[a.val f] w fun e w' => Told (HoldB NoP f) w e w' := by
  have HSO : Hid (∀ W, Below w.heap.size w W → Calls Tryd.prog 26 #[a.val f] W fun e w' => e = .returned (.bool true) ∧ Below W.heap.size W w') := fun W hb => sound_any f a W (hf.next hb) hp
  have HDE : Hid (∀ W, Below w.heap.size w W → Calls Tryd.prog 27 #[a.val f, .bool false] W fun e w' => ∃ G, e = .returned (.slice (some ⟨G, 0, none⟩) f.n f.n) ∧ HoldB NoP f (.slice (some ⟨G, 0, none⟩) f.n f.n) w' ∧ Below W.heap.size W w') := fun W hb => by
    refine (derived_any f a false W (hf.next hb) hp).mono ?_
    rintro e w' ⟨G, L, rfl, _, h1, h2, h3⟩
    rw [bases_no] at h2
    exact ⟨G, rfl, ⟨L, h2, h1.slB⟩, h3⟩
  have X0 := FBox.new f a 25 w
  have B0 : Below w.heap.size w (w.alloc (fobj f a 25)) := (Below.refl _ _).alloc (Nat.le_refl _) _
  obtain ⟨ta, tc, na, nc, pa, pc⟩ := a
  unfold fobj at X0 B0
  unfold FlA.val at HSO HDE ⊢
  simp only at *
  clear hf hp
  go_enter Tryd.func10, Tryd.ntmps10
  go_wp2_with fail
  try generalize (w.alloc (Obj.cells #[Value.slice ta f.terms.length tc, Value.slice na f.nons.length nc, Value.slice pa f.prods.length pc] 25)) = W1 at *
  refine (HSO.out _ B0).mono ?_
  rintro e w1 ⟨rfl, hb1⟩
  have X1 := X0.next hb1
  have B1 := below_then B0 hb1 B0.size
  obtain ⟨x0, x1, x2, x3⟩ := X1
  simp only at x1 x2 x3
  clear X0 B0 hb1 HSO
  go_wp2_with fail
  refine (HDE.out _ B1).mono ?_
  rintro e w2 ⟨G, rfl, g1, g2⟩
  have HF : Hid (HoldB NoP f (.slice (some ⟨G, 0, none⟩) f.n f.n) w2 ∧ Below w.heap.size w w2) := ⟨g1, below_then B1 g2 B1.size⟩
  clear g1 g2 HDE x0 x1 x2 x3
  go_wp2_with fail
  go_ret
  exact ⟨_, rfl, HF.out.1, HF.out.2⟩
set_option maxHeartbeats 1000000 in
theorem useful_any (f : Fl) (a : FlA) (w : World) (hf : FlAt f a w) (hp : FitP f) :
    Calls Tryd.prog 12 #[a.val f] w fun e w' => Told (HoldB (UseP f) f) w e w' := by
  have HSO : Hid (∀ W, Below w.heap.size w W → Calls Tryd.prog 26 #[a.val f] W fun e w' => e = .returned (.bool true) ∧ Below W.heap.size W w') := fun W hb => sound_any f a W (hf.next hb) hp
  have HDE : Hid (∀ W, Below w.heap.size w W → Calls Tryd.prog 27 #[a.val f, .bool true] W fun e w' => ∃ G, e = .returned (.slice (some ⟨G, 0, none⟩) f.n f.n) ∧ HoldB (UseP f) f (.slice (some ⟨G, 0, none⟩) f.n f.n) w' ∧ Below W.heap.size W w') := fun W hb => by
    refine (derived_any f a true W (hf.next hb) hp).mono ?_
    rintro e w' ⟨G, L, rfl, _, h1, h2, h3⟩
    rw [bases_use] at h2
    exact ⟨G, rfl, ⟨L, h2, h1.slB⟩, h3⟩
  have X0 := FBox.new f a 25 w
  have B0 : Below w.heap.size w (w.alloc (fobj f a 25)) := (Below.refl _ _).alloc (Nat.le_refl _) _
  obtain ⟨ta, tc, na, nc, pa, pc⟩ := a
  unfold fobj at X0 B0
  unfold FlA.val at HSO HDE ⊢
  simp only at *
  clear hf hp
  go_enter Tryd.func12, Tryd.ntmps12
  go_wp2_with fail
  try generalize (w.alloc (Obj.cells #[Value.slice ta f.terms.length tc, Value.slice na f.nons.length nc, Value.slice pa f.prods.length pc] 25)) = W1 at *
  refine (HSO.out _ B0).mono ?_
  rintro e w1 ⟨rfl, hb1⟩
  have X1 := X0.next hb1
  have B1 := below_then B0 hb1 B0.size
  obtain ⟨x0, x1, x2, x3⟩ := X1
  simp only at x1 x2 x3
  clear X0 B0 hb1 HSO
  go_wp2_with fail
  refine (HDE.out _ B1).mono ?_
  rintro e w2 ⟨G, rfl, g1, g2⟩
  have HF : Hid (HoldB (UseP f) f (.slice (some ⟨G, 0, none⟩) f.n f.n) w2 ∧ Below w.heap.size w w2) := ⟨g1, below_then B1 g2 B1.size⟩
  clear g1 g2 HDE x0 x1 x2 x3
  go_wp2_with fail
  go_ret
  exact ⟨_, rfl, HF.out.1, HF.out.2⟩

theorem setsOk : SetsOk :=
  ⟨empty_any, useful_any,
    fun f a w hf hp hT => (first_any f a w hf hp hT).mono fun _ _ ⟨v, R, h1, h2, h3, h4⟩ => ⟨v, h1, ⟨R, h2, h3⟩, h4⟩,
    fun f a w hf hp hT => (follow_any f a w hf hp hT).mono fun _ _ ⟨v, R, h1, h2, h3, h4⟩ => ⟨v, h1, ⟨R, h2, h3⟩, h4⟩,
    fun f a l bh vl vb w hf hp hT hl hb h1 h2 => (ahead_any f a l bh vl vb w hf hp hT hl hb h1 h2).mono fun _ _ ⟨v, L, k1, k2, k3, k4, k5⟩ => ⟨v, k1, ⟨L, k2, k3, k4⟩, k5⟩⟩
end Go.Proofs.YtckbfiigbckmeaaDoor
