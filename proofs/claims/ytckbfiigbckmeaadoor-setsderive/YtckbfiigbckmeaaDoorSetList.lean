/- The rising row of a set: the program's list. -/
import Derived.Test.YtckbfiigbckmeaaDoorSetOps
import Derived.Test.YtckbfiigbckmeaaDoorPut
import Derived.Shelf.Spec.TrailingZeros
import Derived.Shelf.Lay
import Derived.Ground.Names7Prog
namespace Go.Proofs.YtckbfiigbckmeaaDoor
open Go.RowKit Go.Shelf
shelf_lay Lays7.n29 Nm7 29 at Tryd as Tryd.tz64

/-- The library's table of trailing zeros, as its initialiser lays it. -/
def Tb (W : World) : Prop := TabAt 0 Lib.deBruijn64tab W ∧ 0 < W.heap.size
theorem Tb.next {W W' : World} (h : Tb W) (hb : Below W.heap.size W W') : Tb W' := ⟨fun j hj => (hb.cell (p := ⟨0, j, none⟩) h.2).trans (h.1 j hj), Nat.lt_of_lt_of_le h.2 hb.size⟩
theorem tz_any (x : Nat) (hx : W64 x) (w : World) (h : Tb w) : Calls Tryd.prog 59 #[.int .u64 x] w fun e w' => e = .returned (.int .i64 (Lib.ctz 64 x)) ∧ w' = w :=
  Any7.bits_TrailingZeros64 Tryd.tz64 x hx w (fun _ => h.1)

set_option maxRecDepth 100000 in
set_option maxHeartbeats 2000000 in
theorem list_any (s : List Nat) (b m : Nat) (w : World) (hs : SetB b m s w) (hm : m ≤ 20) (hT : Tb w) :
    Calls Tryd.prog 36 #[.slice (some ⟨b, 0, none⟩) m m] w fun e w' => ∃ v, e = .returned v ∧ Own1 3 encI w.heap.size (listW s) v w' ∧ Below w.heap.size w w' := by
  obtain ⟨i0, hi0, hz0, hz1, hz2⟩ := info_parts info3
  have hlen : s.length = m := hs.2.1
  have HL : Hid (listW s = listTo m s) := by show _ = _; unfold listW; rw [hlen]
  have HSL : Hid (∀ j, (listTo j s).length ≤ 64 * j) := fun j => listTo_length j s
  have HTS : Hid (∀ j, listTo (j + 1) s = listTo j s ++ lowBits j (wOf s j)) := fun j => listTo_succ j s
  have HSB : Hid (∀ W, Below w.heap.size w W → SetB b m s W) := fun W hb => hs.but (But.of_below hb) (by have := hs.lt; omega)
  have HTB : Hid (∀ W, Below w.heap.size w W → Tb W) := fun W hb => hT.next hb
  have HW : Hid (∀ j, W64 (wOf s j)) := fun j => hs.2.at j
  clear hs hT hlen
  go_enter Tryd.func36, Tryd.ntmps36
  go_wp2_with fail
  go_loopw [3, 8] (fun l i wr => ∃ (j : Nat), i = .int .i64 j ∧ j ≤ m ∧ Own1 3 encI w.heap.size (listTo j s) l wr ∧ Below w.heap.size w wr) (fun _ i _ => m - (intOf i).toNat)
  case atStart => exact ⟨0, rfl, Nat.zero_le _, by rw [listTo_zero]; exact Own1.nil _ _ _ _, Below.refl _ _⟩
  case round =>
    obtain ⟨j, rfl, hj, hO, hB⟩ := hrel
    by_cases hlt : j < m
    · have c1 := (HSB.out _ hB).cell hlt
      have HO : Hid (Own1 3 encI w.heap.size (listTo j s) u3 wr) := hO
      have HXW : Hid (W64 (wOf s j)) := HW.out j
      have HT1 := HTS.out j
      have hsl := HSL.out j
      clear hO
      generalize wOf s j = x at *
      generalize listTo j s = L0 at *
      go_wp2_with fail
      go_loopg [3, 5] x (fun gx l wd wq => ∃ (y : Nat) (L : List Int), gx = y ∧ wd = .int .u64 y ∧ W64 y ∧ L.length ≤ 64 * j + 64 ∧ L0 ++ lowBits j x = L ++ lowBits j y ∧ Own1 3 encI w.heap.size L l wq ∧ Below w.heap.size w wq)
      case atStart => exact ⟨x, L0, rfl, rfl, HXW.out, by omega, rfl, HO.out, hB⟩
      case round =>
        clear HO hB c1
        obtain ⟨y, L, hgy, rfl, hy, hLl, hLe, hO, hB⟩ := hrel
        subst hgy
        obtain ⟨va, vc, rfl⟩ := slice_of_own hO
        have hown : wr.ownsRow w.heap.size 3 1 (.slice va L.length vc) L.length (L.map encI) := hO
        clear hO
        by_cases hy0 : gk = 0
        · subst hy0
          have HE : Hid (listTo (j + 1) s = L) := by show _ = _; rw [HT1, hLe, lowBits_zero, List.append_nil]
          have HO : Hid (Own1 3 encI w.heap.size L (.slice va L.length vc) wr) := hown
          clear HT1 hLe hown
          go_wp2_with fail
          exact ⟨⟨j + 1, by go_num, by omega, by rw [HE.out]; exact HO.out, hB⟩, by simp [intOf]; omega⟩
        · obtain ⟨st, hct, hy2, hlt2⟩ := lowBits_step (b := j) hy hy0
          rw [st] at hLe
          have HLE : Hid (L0 ++ lowBits j x = (L ++ [((64 * j + Lib.ctz 64 gk : Nat) : Int)]) ++ lowBits j (gk &&& (gk - 1))) := by show _ = _; rw [hLe]; simp
          have HLL : Hid ((L ++ [((64 * j + Lib.ctz 64 gk : Nat) : Int)]).length ≤ 64 * j + 64) := by
            have e1 := congrArg List.length HLE.out
            have e2 := lowBits_length j x
            rw [List.length_append, List.length_append] at e1
            show _ ≤ _
            omega
          have HCA : Hid (Calls Tryd.prog 59 #[.int .u64 gk] wr fun e w' => e = .returned (.int .i64 (Lib.ctz 64 gk)) ∧ w' = wr) := tz_any gk hy wr (HTB.out wr hB)
          have hne : (((gk : Nat) : Int) != 0) = true := by simp; omega
          have hsub : IntKind.u64.wrap ((gk : Int) - 1) = ((gk - 1 : Nat) : Int) := by unfold W64 at hy; rw [IntKind.wrap_u64]; omega
          have hand : bits .and .u64 (gk : Int) ((gk - 1 : Nat) : Int) = ((gk &&& (gk - 1) : Nat) : Int) := u64_and_nat gk (gk - 1) hy (by unfold W64 at hy; omega)
          have HY : Hid (W64 (gk &&& (gk - 1)) ∧ gk &&& (gk - 1) < gk) := ⟨hy2, hlt2⟩
          generalize gk &&& (gk - 1) = y2 at *
          have hle : L.length + 1 ≤ 64 * j + 64 := by have := HLL.out; rwa [List.length_append] at this
          have hwm : ((j : Int) * 64) = ((64 * j : Nat) : Int) := by omega
          have hwa : (((64 * j : Nat) : Int) + (Lib.ctz 64 gk : Nat)) = ((64 * j + Lib.ctz 64 gk : Nat) : Int) := by omega
          clear st hLe HT1 hy hy2 hlt2
          generalize Lib.ctz 64 gk = k at *
          go_wp2_with fail
          refine HCA.out.mono ?_
          rintro e w1 ⟨rfl, rfl⟩
          have hsz := hB.size
          go_wp2_with (at_builtin; refine wpList_append_own _ rfl _ _ 27 rfl w.heap.size 3 i0 _ 1 8 Tryd.underlying27 hi0 hz0 hz1 hz2 rfl (by decide) _ L.length (L.map encI) rfl (World.ownsRow.alloc hown _) ⟨w1.heap.size, 0, none⟩ 1 1 [encI (64 * (j : Int) + k)] rfl rfl (new_cell _ _ _) (by simp [encI]; rfl) (by unfold maxLen; omega) (by omega) (by simp; omega) ?_)
          intro v2 w2 hown2 hg2 _
          have B2 : Below w.heap.size w w2 := (hB.alloc hsz _).grown hg2 (by simp; omega) (fun q e => (World.ownsRow.lt hown q e).1)
          have HO2 : Hid (Own1 3 encI w.heap.size (L ++ [((64 * j + k : Nat) : Int)]) v2 w2) := by
            show w2.ownsRow _ _ _ _ _ _
            rw [List.length_append, List.map_append]
            push_cast
            simpa using hown2
          obtain ⟨a2, c2, rfl⟩ := slice_of_own hown2
          clear hown2 hg2 hown
          go_wp2_with fail
          go_roundg y2
          case measure => exact HY.out.2
          case rel => exact ⟨y2, _, rfl, rfl, HY.out.1, HLL.out, HLE.out, HO2.out, B2⟩
    · obtain rfl : j = m := by omega
      go_wp2_with fail
      go_ret
      exact ⟨_, rfl, by rw [HL.out]; exact hO, hB⟩
end Go.Proofs.YtckbfiigbckmeaaDoor
