/- slices.SortFunc at marks, by their places: a permutation of what the row held, rising. -/
import Derived.Test.YtdkgeeimhjffdaaBase
import Derived.Shelf.SlSortCmp.WholeK
import Derived.Shelf.SlicesG.Cmp
import Derived.Shelf.Small.Bits
import Derived.Shelf.Lay
import Derived.Ground.SlsfProg
import Derived.Ground.SlgcProg
namespace Go.Proofs.Ytdkgeeimhjffdaa
open Go.Shelf Go.RowKit Go.Lib Go.Sort Go.Proofs
shelf_lay_g SlLaysF0.n6 Slsf 6 at Try 46 as Try.sortMk
shelf_lay_g SlLaysC2.n5 Slgc 5 at Try 48 as Try.cmpInt

def encM (x : Mk) : List Value := [.int .i64 x.1, .int .i64 x.2.1, .int .i64 x.2.2]

set_option maxHeartbeats 1000000 in
theorem cmpMk (x y : Mk) (W : World) : Calls Try.prog 47 #[.agg #[.int .i64 x.1, .int .i64 x.2.1, .int .i64 x.2.2], .agg #[.int .i64 y.1, .int .i64 y.2.1, .int .i64 y.2.2]] W fun e w' => e = .returned (.int .i64 (Lib.compareInt x.1 y.1)) ∧ ∃ q os', w' = grow (W.drewN q) os' := by
  have hcon := fun W' => AnyG.cmp_Compare_int Try.cmpInt x.1 y.1 W'
  change ∀ W', Calls Try.prog 48 _ _ _ at hcon
  generalize Lib.compareInt x.1 y.1 = r at hcon ⊢
  go_enter Try.func47, Try.ntmps47
  go_wp2_with (go_at_call 48; refine (hcon _).mono ?_; rintro e w' ⟨rfl, rfl⟩)
  go_ret
  exact ⟨rfl, 0, _, by rw [alloc_eq_grow, alloc_eq_grow, grow_grow]; rfl⟩

theorem cmpLaysMk (blk off size : Nat) (w : World) : CmpLays Try.prog 47 #[] encM 3 (fun x y => Lib.compareInt x.1 y.1) blk off size w :=
  fun _ _ _ _ x y => cmpMk x y _

theorem ltMk (x y : Mk) : ltOf (fun x y : Mk => Lib.compareInt x.1 y.1) x y = decide (x.1 < y.1) := by
  unfold ltOf Lib.compareInt
  by_cases h1 : x.1 < y.1
  · simp [h1]
  · by_cases h2 : y.1 < x.1 <;> simp [h1, h2]
theorem swoMk : SWO (ltOf fun x y : Mk => Lib.compareInt x.1 y.1) where
  irrefl x := by rw [ltMk]; simp
  trans x y z h1 h2 := by rw [ltMk] at *; simp at *; omega
  ntrans x y z h1 h2 := by rw [ltMk] at *; simp at *; omega

/-- A row of marks lies in block g, from its head on; it may be written. -/
def MkAt (ms : List Mk) (g : Nat) (W : World) : Prop :=
  ∀ (i : Nat) (m : Mk), ms[i]? = some m → W.cell? ⟨g, i * 3, none⟩ = some (.int .i64 m.1) ∧ W.cell? ⟨g, i * 3 + 1, none⟩ = some (.int .i64 m.2.1) ∧ W.cell? ⟨g, i * 3 + 1 + 1, none⟩ = some (.int .i64 m.2.2)

theorem sort_mk (blk cap : Nat) (d : Array Mk) (w : World) (hH : HoldsK encM 3 w blk 0 d) (hblk : blk < w.heap.size) (hsz : d.size < 4611686018427387904) {cur : Array Value} {fr : Nat × Nat} (hcur : w.heap[blk]? = some (.cells cur 65 fr)) :
    Calls Try.prog 46 #[.slice (some ⟨blk, 0, none⟩) d.size cap, .func (.func 47) #[] #[]] w fun e w' => e = .returned (.tuple #[]) ∧ Below blk w w' ∧ ∃ ms : List Mk, ms.length = d.size ∧ ms.Perm d.toList ∧ ms.Pairwise (fun m n => m.1 ≤ n.1) ∧ MkAt ms blk w' ∧ ∃ cur' fr', w'.heap[blk]? = some (.cells cur' 65 fr') := by
  have eg : ∀ args w, (callFunc 47 args).run Try.prog w = .ok (.enter 47 args) w := enters_of Try.func47 (by kernel_rfl) rfl
  have hcon := AnyQ.slices_SortFunc Try.sortMk 3 Try.isAgg65 Try.sizeOf65 encM (fun _ => rfl) (fun x v hv => by simp [encM] at hv; rcases hv with rfl | rfl | rfl <;> rfl) (fun x y => Lib.compareInt x.1 y.1) swoMk 47 #[] blk 0 cap d w eg (cmpLaysMk blk 0 d.size w) hH hblk hsz
  change Calls Try.prog 46 _ _ _ at hcon
  refine hcon.mono ?_
  rintro e w' ⟨rfl, d', n, os, ⟨hs, _, hp⟩, hso, rfl⟩
  have hH' := holdsK_sortWorldK encM 3 w blk 0 n d d' os hblk hH hs
  refine ⟨rfl, ⟨rfl, rfl, rfl, size_sortWorldK_c .., fun k hk => ?_⟩, d'.toList, by simp [hs], ?_, ?_, ?_, ?_⟩
  · show ((w.heap.modify blk _) ++ os)[k]? = w.heap[k]?
    have := hblk
    rw [Array.getElem?_append_left (by simp; omega), Array.getElem?_modify, if_neg (by omega)]
  · have h1 : d'.extract 0 d.size = d' := by rw [← hs]; simp
    have h2 : d.extract 0 d.size = d := by simp
    rwa [h1, h2] at hp
  · rw [List.pairwise_iff_getElem]
    intro i j hi hj hij
    have := hso i j (Nat.zero_le _) hij (by simpa [hs] using hj)
    rw [ltMk] at this
    simp at hi hj
    simp [getElem!_pos, hi, hj] at this ⊢
    exact this
  · intro i m hm
    obtain ⟨hi, rfl⟩ := List.getElem?_eq_some_iff.1 hm
    have hi' : i < d'.size := by simpa using hi
    have h0 := (hH'.cell (i := i) (c := 0) hi' (by omega)).1
    have h1 := (hH'.cell (i := i) (c := 1) hi' (by omega)).1
    have h2 := (hH'.cell (i := i) (c := 2) hi' (by omega)).1
    simp [encM, getElem!_pos, hi'] at h0 h1 h2
    simpa using ⟨h0, h1, h2⟩
  · have h0 : (sortWorldK encM 3 w blk 0 n d' os).heap[blk]? = (w.heap[blk]?).map (onCells (putCells id 0 (flatK encM 3 d'))) := by
      show ((w.heap.modify blk _) ++ os)[blk]? = _
      rw [Array.getElem?_append_left (by simpa using hblk), Array.getElem?_modify, if_pos rfl]
    rw [h0, hcur]
    exact ⟨_, fr, rfl⟩
end Go.Proofs.Ytdkgeeimhjffdaa
