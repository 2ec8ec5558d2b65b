/- The example: awake. -/
import Derived.Test.YtdalomibilicfaaAwMath
import Derived.Test.YtdalomibilicfaaJPDiffer0
import Derived.Test.YtdalomibilicfaaRSame
import Derived.Test.YtdalomibilicfaaJPSame
import Derived.Test.YtdalomibilicfaaJRNext
import Derived.Test.YtdalomibilicfaaJRFit
namespace Go.Proofs.Ytdalomibilicfaa
open Go.RowKit Go.Shelf

set_option maxRecDepth 100000 in
theorem oneA_any (c t : Int) (w : World) : Calls Try.prog 18 #[.int .i64 c, .int .i64 t] w fun e w' => e = .returned (.agg #[.int .i64 c, .int .i64 c, .int .i64 t]) ∧ w' = w.alloc (Obj.cells #[.int .i64 c, .int .i64 c, .int .i64 t] 39) := by
  go_enter Try.func18, Try.ntmps18
  go_wp2_with fail
  refine bodyPost_ret (results_cell_row rfl _ _ w.heap.size 39 #[.int .i64 c, .int .i64 c, .int .i64 t] (0, 0) _ rfl (heap_alloc_new _ _) Try.underlying39 rfl (by kernel_rfl)) rfl ?_
  exact ⟨rfl, rfl⟩
theorem below_new (w : World) (o : Obj) : Below w.heap.size w (w.alloc o) := (Below.refl _ _).alloc (Nat.le_refl _) _
/-- A block of arcs, of states. -/
theorem sla_blk (W : World) (l : List Ar) (cs : Array Value) (hcs : cs.toList = l.flatMap encA3) (hl : l.length ≤ 1000) (hb : ∀ x ∈ l, i64B x.lo ∧ i64B x.hi ∧ i64B x.tg) : SlA l (.slice (some ⟨W.heap.size, 0, none⟩) l.length l.length) (W.alloc (Obj.cells cs 39)) := by
  have h1 := World.ownsRow_lit (base := 0) (e := 39) (size := 3) W cs l.length (Nat.zero_le _) (by unfold maxLen; omega) (by rw [← Array.length_toList, hcs, encA3_len])
  rw [hcs] at h1
  exact own_sla h1 (by omega) hb
theorem sld_blk (W : World) (Z : List (Ds × Value)) (cs : Array Value) (hcs : cs.toList = Z.flatMap encD2) (hl : Z.length ≤ 1000) (hb : ∀ p ∈ Z, SlA p.1.arcs p.2 W ∧ i64B p.1.acc) : SlD (Z.map Prod.fst) (.slice (some ⟨W.heap.size, 0, none⟩) Z.length Z.length) (W.alloc (Obj.cells cs 37)) := by
  have h1 := World.ownsRow_lit (base := 0) (e := 37) (size := 2) W cs Z.length (Nat.zero_le _) (by unfold maxLen; omega) (by rw [← Array.length_toList, hcs, encD2_len])
  rw [hcs] at h1
  exact rows_sld h1 (by omega) (fun p hp => ⟨(hb p hp).1.next ((Below.refl _ _).alloc (Nat.le_refl _) _), (hb p hp).2⟩)
theorem made_A (w : World) : Below w.heap.size w ((((((w.alloc (Obj.cells #[.int .i64 97, .int .i64 97, .int .i64 1] 39)).alloc (Obj.cells #[.int .i64 97, .int .i64 97, .int .i64 1] 39)).alloc (Obj.cells #[.int .i64 98, .int .i64 98, .int .i64 2] 39)).alloc (Obj.cells #[.int .i64 98, .int .i64 98, .int .i64 2] 39)).alloc (Obj.cells #[.slice (some ⟨w.heap.size + 1, 0, none⟩) 1 1, .int .i64 (-1), .slice (some ⟨w.heap.size + 1 + 1 + 1, 0, none⟩) 1 1, .int .i64 0, .slice none 0 0, .int .i64 0] 37)).alloc (Obj.cells #[.slice (some ⟨w.heap.size + 1 + 1 + 1 + 1, 0, none⟩) 3 3] 24)) ∧ SlD dA (.slice (some ⟨w.heap.size + 1 + 1 + 1 + 1, 0, none⟩) 3 3) ((((((w.alloc (Obj.cells #[.int .i64 97, .int .i64 97, .int .i64 1] 39)).alloc (Obj.cells #[.int .i64 97, .int .i64 97, .int .i64 1] 39)).alloc (Obj.cells #[.int .i64 98, .int .i64 98, .int .i64 2] 39)).alloc (Obj.cells #[.int .i64 98, .int .i64 98, .int .i64 2] 39)).alloc (Obj.cells #[.slice (some ⟨w.heap.size + 1, 0, none⟩) 1 1, .int .i64 (-1), .slice (some ⟨w.heap.size + 1 + 1 + 1, 0, none⟩) 1 1, .int .i64 0, .slice none 0 0, .int .i64 0] 37)).alloc (Obj.cells #[.slice (some ⟨w.heap.size + 1 + 1 + 1 + 1, 0, none⟩) 3 3] 24)) ∧ ((((((w.alloc (Obj.cells #[.int .i64 97, .int .i64 97, .int .i64 1] 39)).alloc (Obj.cells #[.int .i64 97, .int .i64 97, .int .i64 1] 39)).alloc (Obj.cells #[.int .i64 98, .int .i64 98, .int .i64 2] 39)).alloc (Obj.cells #[.int .i64 98, .int .i64 98, .int .i64 2] 39)).alloc (Obj.cells #[.slice (some ⟨w.heap.size + 1, 0, none⟩) 1 1, .int .i64 (-1), .slice (some ⟨w.heap.size + 1 + 1 + 1, 0, none⟩) 1 1, .int .i64 0, .slice none 0 0, .int .i64 0] 37)).alloc (Obj.cells #[.slice (some ⟨w.heap.size + 1 + 1 + 1 + 1, 0, none⟩) 3 3] 24)).heap[w.heap.size + 1 + 1 + 1 + 1 + 1]? = some (Obj.cells #[.slice (some ⟨w.heap.size + 1 + 1 + 1 + 1, 0, none⟩) 3 3] 24) := by
  have z1 : (w.alloc (Obj.cells #[.int .i64 97, .int .i64 97, .int .i64 1] 39)).heap.size = w.heap.size + 1 := by simp
  have z2 : ((w.alloc (Obj.cells #[.int .i64 97, .int .i64 97, .int .i64 1] 39)).alloc (Obj.cells #[.int .i64 97, .int .i64 97, .int .i64 1] 39)).heap.size = w.heap.size + 1 + 1 := by simp
  have z3 : (((w.alloc (Obj.cells #[.int .i64 97, .int .i64 97, .int .i64 1] 39)).alloc (Obj.cells #[.int .i64 97, .int .i64 97, .int .i64 1] 39)).alloc (Obj.cells #[.int .i64 98, .int .i64 98, .int .i64 2] 39)).heap.size = w.heap.size + 1 + 1 + 1 := by simp
  have z4 : ((((w.alloc (Obj.cells #[.int .i64 97, .int .i64 97, .int .i64 1] 39)).alloc (Obj.cells #[.int .i64 97, .int .i64 97, .int .i64 1] 39)).alloc (Obj.cells #[.int .i64 98, .int .i64 98, .int .i64 2] 39)).alloc (Obj.cells #[.int .i64 98, .int .i64 98, .int .i64 2] 39)).heap.size = w.heap.size + 1 + 1 + 1 + 1 := by simp
  have z5 : (((((w.alloc (Obj.cells #[.int .i64 97, .int .i64 97, .int .i64 1] 39)).alloc (Obj.cells #[.int .i64 97, .int .i64 97, .int .i64 1] 39)).alloc (Obj.cells #[.int .i64 98, .int .i64 98, .int .i64 2] 39)).alloc (Obj.cells #[.int .i64 98, .int .i64 98, .int .i64 2] 39)).alloc (Obj.cells #[.slice (some ⟨w.heap.size + 1, 0, none⟩) 1 1, .int .i64 (-1), .slice (some ⟨w.heap.size + 1 + 1 + 1, 0, none⟩) 1 1, .int .i64 0, .slice none 0 0, .int .i64 0] 37)).heap.size = w.heap.size + 1 + 1 + 1 + 1 + 1 := by simp
  have z6 : ((((((w.alloc (Obj.cells #[.int .i64 97, .int .i64 97, .int .i64 1] 39)).alloc (Obj.cells #[.int .i64 97, .int .i64 97, .int .i64 1] 39)).alloc (Obj.cells #[.int .i64 98, .int .i64 98, .int .i64 2] 39)).alloc (Obj.cells #[.int .i64 98, .int .i64 98, .int .i64 2] 39)).alloc (Obj.cells #[.slice (some ⟨w.heap.size + 1, 0, none⟩) 1 1, .int .i64 (-1), .slice (some ⟨w.heap.size + 1 + 1 + 1, 0, none⟩) 1 1, .int .i64 0, .slice none 0 0, .int .i64 0] 37)).alloc (Obj.cells #[.slice (some ⟨w.heap.size + 1 + 1 + 1 + 1, 0, none⟩) 3 3] 24)).heap.size = w.heap.size + 1 + 1 + 1 + 1 + 1 + 1 := by simp
  have b0 := Below.refl w.heap.size w
  have b1 : Below w.heap.size w (w.alloc (Obj.cells #[.int .i64 97, .int .i64 97, .int .i64 1] 39)) := b0.alloc (Nat.le_refl _) _
  have b2 : Below w.heap.size w ((w.alloc (Obj.cells #[.int .i64 97, .int .i64 97, .int .i64 1] 39)).alloc (Obj.cells #[.int .i64 97, .int .i64 97, .int .i64 1] 39)) := b1.alloc (by first | exact Nat.le_refl _ | (rw [z1]; omega)) _
  have b3 : Below w.heap.size w (((w.alloc (Obj.cells #[.int .i64 97, .int .i64 97, .int .i64 1] 39)).alloc (Obj.cells #[.int .i64 97, .int .i64 97, .int .i64 1] 39)).alloc (Obj.cells #[.int .i64 98, .int .i64 98, .int .i64 2] 39)) := b2.alloc (by first | exact Nat.le_refl _ | (rw [z2]; omega)) _
  have b4 : Below w.heap.size w ((((w.alloc (Obj.cells #[.int .i64 97, .int .i64 97, .int .i64 1] 39)).alloc (Obj.cells #[.int .i64 97, .int .i64 97, .int .i64 1] 39)).alloc (Obj.cells #[.int .i64 98, .int .i64 98, .int .i64 2] 39)).alloc (Obj.cells #[.int .i64 98, .int .i64 98, .int .i64 2] 39)) := b3.alloc (by first | exact Nat.le_refl _ | (rw [z3]; omega)) _
  have b5 : Below w.heap.size w (((((w.alloc (Obj.cells #[.int .i64 97, .int .i64 97, .int .i64 1] 39)).alloc (Obj.cells #[.int .i64 97, .int .i64 97, .int .i64 1] 39)).alloc (Obj.cells #[.int .i64 98, .int .i64 98, .int .i64 2] 39)).alloc (Obj.cells #[.int .i64 98, .int .i64 98, .int .i64 2] 39)).alloc (Obj.cells #[.slice (some ⟨w.heap.size + 1, 0, none⟩) 1 1, .int .i64 (-1), .slice (some ⟨w.heap.size + 1 + 1 + 1, 0, none⟩) 1 1, .int .i64 0, .slice none 0 0, .int .i64 0] 37)) := b4.alloc (by first | exact Nat.le_refl _ | (rw [z4]; omega)) _
  have b6 : Below w.heap.size w ((((((w.alloc (Obj.cells #[.int .i64 97, .int .i64 97, .int .i64 1] 39)).alloc (Obj.cells #[.int .i64 97, .int .i64 97, .int .i64 1] 39)).alloc (Obj.cells #[.int .i64 98, .int .i64 98, .int .i64 2] 39)).alloc (Obj.cells #[.int .i64 98, .int .i64 98, .int .i64 2] 39)).alloc (Obj.cells #[.slice (some ⟨w.heap.size + 1, 0, none⟩) 1 1, .int .i64 (-1), .slice (some ⟨w.heap.size + 1 + 1 + 1, 0, none⟩) 1 1, .int .i64 0, .slice none 0 0, .int .i64 0] 37)).alloc (Obj.cells #[.slice (some ⟨w.heap.size + 1 + 1 + 1 + 1, 0, none⟩) 3 3] 24)) := b5.alloc (by first | exact Nat.le_refl _ | (rw [z5]; omega)) _
  have s1 := sla_blk (w.alloc (Obj.cells #[.int .i64 97, .int .i64 97, .int .i64 1] 39)) [⟨97, 97, 1⟩] #[.int .i64 97, .int .i64 97, .int .i64 1] rfl (by simp) (by simp [i64B])
  rw [z1] at s1
  have s1 := s1.next (below_new ((w.alloc (Obj.cells #[.int .i64 97, .int .i64 97, .int .i64 1] 39)).alloc (Obj.cells #[.int .i64 97, .int .i64 97, .int .i64 1] 39)) (Obj.cells #[.int .i64 98, .int .i64 98, .int .i64 2] 39))
  have s1 := s1.next (below_new (((w.alloc (Obj.cells #[.int .i64 97, .int .i64 97, .int .i64 1] 39)).alloc (Obj.cells #[.int .i64 97, .int .i64 97, .int .i64 1] 39)).alloc (Obj.cells #[.int .i64 98, .int .i64 98, .int .i64 2] 39)) (Obj.cells #[.int .i64 98, .int .i64 98, .int .i64 2] 39))
  have s3 := sla_blk (((w.alloc (Obj.cells #[.int .i64 97, .int .i64 97, .int .i64 1] 39)).alloc (Obj.cells #[.int .i64 97, .int .i64 97, .int .i64 1] 39)).alloc (Obj.cells #[.int .i64 98, .int .i64 98, .int .i64 2] 39)) [⟨98, 98, 2⟩] #[.int .i64 98, .int .i64 98, .int .i64 2] rfl (by simp) (by simp [i64B])
  rw [z3] at s3
  have sd := sld_blk ((((w.alloc (Obj.cells #[.int .i64 97, .int .i64 97, .int .i64 1] 39)).alloc (Obj.cells #[.int .i64 97, .int .i64 97, .int .i64 1] 39)).alloc (Obj.cells #[.int .i64 98, .int .i64 98, .int .i64 2] 39)).alloc (Obj.cells #[.int .i64 98, .int .i64 98, .int .i64 2] 39)) [((⟨[⟨97, 97, 1⟩], -1⟩ : Ds), (.slice (some ⟨w.heap.size + 1, 0, none⟩) 1 1 : Value)), ((⟨[⟨98, 98, 2⟩], 0⟩ : Ds), (.slice (some ⟨w.heap.size + 1 + 1 + 1, 0, none⟩) 1 1 : Value)), ((⟨[], 0⟩ : Ds), (.slice none 0 0 : Value))] #[.slice (some ⟨w.heap.size + 1, 0, none⟩) 1 1, .int .i64 (-1), .slice (some ⟨w.heap.size + 1 + 1 + 1, 0, none⟩) 1 1, .int .i64 0, .slice none 0 0, .int .i64 0] rfl (by simp) (fun p hp => by
    simp only [List.mem_cons, List.not_mem_nil, or_false] at hp
    rcases hp with rfl | rfl | rfl
    · exact ⟨s1, by unfold i64B; simp⟩
    · exact ⟨s3, by unfold i64B; simp⟩
    · exact ⟨SlA.nil _, by unfold i64B; simp⟩)
  rw [z4] at sd
  exact ⟨b6, sd.next (below_new _ _), by rw [← z5]; exact heap_alloc_new _ _⟩
theorem made_B (w : World) : Below w.heap.size w (((((((((w.alloc (Obj.cells #[.int .i64 97, .int .i64 97, .int .i64 1] 39)).alloc (Obj.cells #[.int .i64 97, .int .i64 97, .int .i64 1] 39)).alloc (Obj.cells #[.int .i64 97, .int .i64 97, .int .i64 2] 39)).alloc (Obj.cells #[.int .i64 98, .int .i64 98, .int .i64 3] 39)).alloc (Obj.cells #[.int .i64 97, .int .i64 97, .int .i64 2, .int .i64 98, .int .i64 98, .int .i64 3] 39)).alloc (Obj.cells #[.int .i64 97, .int .i64 97, .int .i64 2] 39)).alloc (Obj.cells #[.int .i64 97, .int .i64 97, .int .i64 2] 39)).alloc (Obj.cells #[.slice (some ⟨w.heap.size + 1, 0, none⟩) 1 1, .int .i64 (-1), .slice (some ⟨w.heap.size + 1 + 1 + 1 + 1, 0, none⟩) 2 2, .int .i64 0, .slice (some ⟨w.heap.size + 1 + 1 + 1 + 1 + 1 + 1, 0, none⟩) 1 1, .int .i64 0, .slice none 0 0, .int .i64 0] 37)).alloc (Obj.cells #[.slice (some ⟨w.heap.size + 1 + 1 + 1 + 1 + 1 + 1 + 1, 0, none⟩) 4 4] 24)) ∧ SlD dB (.slice (some ⟨w.heap.size + 1 + 1 + 1 + 1 + 1 + 1 + 1, 0, none⟩) 4 4) (((((((((w.alloc (Obj.cells #[.int .i64 97, .int .i64 97, .int .i64 1] 39)).alloc (Obj.cells #[.int .i64 97, .int .i64 97, .int .i64 1] 39)).alloc (Obj.cells #[.int .i64 97, .int .i64 97, .int .i64 2] 39)).alloc (Obj.cells #[.int .i64 98, .int .i64 98, .int .i64 3] 39)).alloc (Obj.cells #[.int .i64 97, .int .i64 97, .int .i64 2, .int .i64 98, .int .i64 98, .int .i64 3] 39)).alloc (Obj.cells #[.int .i64 97, .int .i64 97, .int .i64 2] 39)).alloc (Obj.cells #[.int .i64 97, .int .i64 97, .int .i64 2] 39)).alloc (Obj.cells #[.slice (some ⟨w.heap.size + 1, 0, none⟩) 1 1, .int .i64 (-1), .slice (some ⟨w.heap.size + 1 + 1 + 1 + 1, 0, none⟩) 2 2, .int .i64 0, .slice (some ⟨w.heap.size + 1 + 1 + 1 + 1 + 1 + 1, 0, none⟩) 1 1, .int .i64 0, .slice none 0 0, .int .i64 0] 37)).alloc (Obj.cells #[.slice (some ⟨w.heap.size + 1 + 1 + 1 + 1 + 1 + 1 + 1, 0, none⟩) 4 4] 24)) ∧ (((((((((w.alloc (Obj.cells #[.int .i64 97, .int .i64 97, .int .i64 1] 39)).alloc (Obj.cells #[.int .i64 97, .int .i64 97, .int .i64 1] 39)).alloc (Obj.cells #[.int .i64 97, .int .i64 97, .int .i64 2] 39)).alloc (Obj.cells #[.int .i64 98, .int .i64 98, .int .i64 3] 39)).alloc (Obj.cells #[.int .i64 97, .int .i64 97, .int .i64 2, .int .i64 98, .int .i64 98, .int .i64 3] 39)).alloc (Obj.cells #[.int .i64 97, .int .i64 97, .int .i64 2] 39)).alloc (Obj.cells #[.int .i64 97, .int .i64 97, .int .i64 2] 39)).alloc (Obj.cells #[.slice (some ⟨w.heap.size + 1, 0, none⟩) 1 1, .int .i64 (-1), .slice (some ⟨w.heap.size + 1 + 1 + 1 + 1, 0, none⟩) 2 2, .int .i64 0, .slice (some ⟨w.heap.size + 1 + 1 + 1 + 1 + 1 + 1, 0, none⟩) 1 1, .int .i64 0, .slice none 0 0, .int .i64 0] 37)).alloc (Obj.cells #[.slice (some ⟨w.heap.size + 1 + 1 + 1 + 1 + 1 + 1 + 1, 0, none⟩) 4 4] 24)).heap[w.heap.size + 1 + 1 + 1 + 1 + 1 + 1 + 1 + 1]? = some (Obj.cells #[.slice (some ⟨w.heap.size + 1 + 1 + 1 + 1 + 1 + 1 + 1, 0, none⟩) 4 4] 24) := by
  have z1 : (w.alloc (Obj.cells #[.int .i64 97, .int .i64 97, .int .i64 1] 39)).heap.size = w.heap.size + 1 := by simp
  have z2 : ((w.alloc (Obj.cells #[.int .i64 97, .int .i64 97, .int .i64 1] 39)).alloc (Obj.cells #[.int .i64 97, .int .i64 97, .int .i64 1] 39)).heap.size = w.heap.size + 1 + 1 := by simp
  have z3 : (((w.alloc (Obj.cells #[.int .i64 97, .int .i64 97, .int .i64 1] 39)).alloc (Obj.cells #[.int .i64 97, .int .i64 97, .int .i64 1] 39)).alloc (Obj.cells #[.int .i64 97, .int .i64 97, .int .i64 2] 39)).heap.size = w.heap.size + 1 + 1 + 1 := by simp
  have z4 : ((((w.alloc (Obj.cells #[.int .i64 97, .int .i64 97, .int .i64 1] 39)).alloc (Obj.cells #[.int .i64 97, .int .i64 97, .int .i64 1] 39)).alloc (Obj.cells #[.int .i64 97, .int .i64 97, .int .i64 2] 39)).alloc (Obj.cells #[.int .i64 98, .int .i64 98, .int .i64 3] 39)).heap.size = w.heap.size + 1 + 1 + 1 + 1 := by simp
  have z5 : (((((w.alloc (Obj.cells #[.int .i64 97, .int .i64 97, .int .i64 1] 39)).alloc (Obj.cells #[.int .i64 97, .int .i64 97, .int .i64 1] 39)).alloc (Obj.cells #[.int .i64 97, .int .i64 97, .int .i64 2] 39)).alloc (Obj.cells #[.int .i64 98, .int .i64 98, .int .i64 3] 39)).alloc (Obj.cells #[.int .i64 97, .int .i64 97, .int .i64 2, .int .i64 98, .int .i64 98, .int .i64 3] 39)).heap.size = w.heap.size + 1 + 1 + 1 + 1 + 1 := by simp
  have z6 : ((((((w.alloc (Obj.cells #[.int .i64 97, .int .i64 97, .int .i64 1] 39)).alloc (Obj.cells #[.int .i64 97, .int .i64 97, .int .i64 1] 39)).alloc (Obj.cells #[.int .i64 97, .int .i64 97, .int .i64 2] 39)).alloc (Obj.cells #[.int .i64 98, .int .i64 98, .int .i64 3] 39)).alloc (Obj.cells #[.int .i64 97, .int .i64 97, .int .i64 2, .int .i64 98, .int .i64 98, .int .i64 3] 39)).alloc (Obj.cells #[.int .i64 97, .int .i64 97, .int .i64 2] 39)).heap.size = w.heap.size + 1 + 1 + 1 + 1 + 1 + 1 := by simp
  have z7 : (((((((w.alloc (Obj.cells #[.int .i64 97, .int .i64 97, .int .i64 1] 39)).alloc (Obj.cells #[.int .i64 97, .int .i64 97, .int .i64 1] 39)).alloc (Obj.cells #[.int .i64 97, .int .i64 97, .int .i64 2] 39)).alloc (Obj.cells #[.int .i64 98, .int .i64 98, .int .i64 3] 39)).alloc (Obj.cells #[.int .i64 97, .int .i64 97, .int .i64 2, .int .i64 98, .int .i64 98, .int .i64 3] 39)).alloc (Obj.cells #[.int .i64 97, .int .i64 97, .int .i64 2] 39)).alloc (Obj.cells #[.int .i64 97, .int .i64 97, .int .i64 2] 39)).heap.size = w.heap.size + 1 + 1 + 1 + 1 + 1 + 1 + 1 := by simp
  have z8 : ((((((((w.alloc (Obj.cells #[.int .i64 97, .int .i64 97, .int .i64 1] 39)).alloc (Obj.cells #[.int .i64 97, .int .i64 97, .int .i64 1] 39)).alloc (Obj.cells #[.int .i64 97, .int .i64 97, .int .i64 2] 39)).alloc (Obj.cells #[.int .i64 98, .int .i64 98, .int .i64 3] 39)).alloc (Obj.cells #[.int .i64 97, .int .i64 97, .int .i64 2, .int .i64 98, .int .i64 98, .int .i64 3] 39)).alloc (Obj.cells #[.int .i64 97, .int .i64 97, .int .i64 2] 39)).alloc (Obj.cells #[.int .i64 97, .int .i64 97, .int .i64 2] 39)).alloc (Obj.cells #[.slice (some ⟨w.heap.size + 1, 0, none⟩) 1 1, .int .i64 (-1), .slice (some ⟨w.heap.size + 1 + 1 + 1 + 1, 0, none⟩) 2 2, .int .i64 0, .slice (some ⟨w.heap.size + 1 + 1 + 1 + 1 + 1 + 1, 0, none⟩) 1 1, .int .i64 0, .slice none 0 0, .int .i64 0] 37)).heap.size = w.heap.size + 1 + 1 + 1 + 1 + 1 + 1 + 1 + 1 := by simp
  have z9 : (((((((((w.alloc (Obj.cells #[.int .i64 97, .int .i64 97, .int .i64 1] 39)).alloc (Obj.cells #[.int .i64 97, .int .i64 97, .int .i64 1] 39)).alloc (Obj.cells #[.int .i64 97, .int .i64 97, .int .i64 2] 39)).alloc (Obj.cells #[.int .i64 98, .int .i64 98, .int .i64 3] 39)).alloc (Obj.cells #[.int .i64 97, .int .i64 97, .int .i64 2, .int .i64 98, .int .i64 98, .int .i64 3] 39)).alloc (Obj.cells #[.int .i64 97, .int .i64 97, .int .i64 2] 39)).alloc (Obj.cells #[.int .i64 97, .int .i64 97, .int .i64 2] 39)).alloc (Obj.cells #[.slice (some ⟨w.heap.size + 1, 0, none⟩) 1 1, .int .i64 (-1), .slice (some ⟨w.heap.size + 1 + 1 + 1 + 1, 0, none⟩) 2 2, .int .i64 0, .slice (some ⟨w.heap.size + 1 + 1 + 1 + 1 + 1 + 1, 0, none⟩) 1 1, .int .i64 0, .slice none 0 0, .int .i64 0] 37)).alloc (Obj.cells #[.slice (some ⟨w.heap.size + 1 + 1 + 1 + 1 + 1 + 1 + 1, 0, none⟩) 4 4] 24)).heap.size = w.heap.size + 1 + 1 + 1 + 1 + 1 + 1 + 1 + 1 + 1 := by simp
  have b0 := Below.refl w.heap.size w
  have b1 : Below w.heap.size w (w.alloc (Obj.cells #[.int .i64 97, .int .i64 97, .int .i64 1] 39)) := b0.alloc (Nat.le_refl _) _
  have b2 : Below w.heap.size w ((w.alloc (Obj.cells #[.int .i64 97, .int .i64 97, .int .i64 1] 39)).alloc (Obj.cells #[.int .i64 97, .int .i64 97, .int .i64 1] 39)) := b1.alloc (by first | exact Nat.le_refl _ | (rw [z1]; omega)) _
  have b3 : Below w.heap.size w (((w.alloc (Obj.cells #[.int .i64 97, .int .i64 97, .int .i64 1] 39)).alloc (Obj.cells #[.int .i64 97, .int .i64 97, .int .i64 1] 39)).alloc (Obj.cells #[.int .i64 97, .int .i64 97, .int .i64 2] 39)) := b2.alloc (by first | exact Nat.le_refl _ | (rw [z2]; omega)) _
  have b4 : Below w.heap.size w ((((w.alloc (Obj.cells #[.int .i64 97, .int .i64 97, .int .i64 1] 39)).alloc (Obj.cells #[.int .i64 97, .int .i64 97, .int .i64 1] 39)).alloc (Obj.cells #[.int .i64 97, .int .i64 97, .int .i64 2] 39)).alloc (Obj.cells #[.int .i64 98, .int .i64 98, .int .i64 3] 39)) := b3.alloc (by first | exact Nat.le_refl _ | (rw [z3]; omega)) _
  have b5 : Below w.heap.size w (((((w.alloc (Obj.cells #[.int .i64 97, .int .i64 97, .int .i64 1] 39)).alloc (Obj.cells #[.int .i64 97, .int .i64 97, .int .i64 1] 39)).alloc (Obj.cells #[.int .i64 97, .int .i64 97, .int .i64 2] 39)).alloc (Obj.cells #[.int .i64 98, .int .i64 98, .int .i64 3] 39)).alloc (Obj.cells #[.int .i64 97, .int .i64 97, .int .i64 2, .int .i64 98, .int .i64 98, .int .i64 3] 39)) := b4.alloc (by first | exact Nat.le_refl _ | (rw [z4]; omega)) _
  have b6 : Below w.heap.size w ((((((w.alloc (Obj.cells #[.int .i64 97, .int .i64 97, .int .i64 1] 39)).alloc (Obj.cells #[.int .i64 97, .int .i64 97, .int .i64 1] 39)).alloc (Obj.cells #[.int .i64 97, .int .i64 97, .int .i64 2] 39)).alloc (Obj.cells #[.int .i64 98, .int .i64 98, .int .i64 3] 39)).alloc (Obj.cells #[.int .i64 97, .int .i64 97, .int .i64 2, .int .i64 98, .int .i64 98, .int .i64 3] 39)).alloc (Obj.cells #[.int .i64 97, .int .i64 97, .int .i64 2] 39)) := b5.alloc (by first | exact Nat.le_refl _ | (rw [z5]; omega)) _
  have b7 : Below w.heap.size w (((((((w.alloc (Obj.cells #[.int .i64 97, .int .i64 97, .int .i64 1] 39)).alloc (Obj.cells #[.int .i64 97, .int .i64 97, .int .i64 1] 39)).alloc (Obj.cells #[.int .i64 97, .int .i64 97, .int .i64 2] 39)).alloc (Obj.cells #[.int .i64 98, .int .i64 98, .int .i64 3] 39)).alloc (Obj.cells #[.int .i64 97, .int .i64 97, .int .i64 2, .int .i64 98, .int .i64 98, .int .i64 3] 39)).alloc (Obj.cells #[.int .i64 97, .int .i64 97, .int .i64 2] 39)).alloc (Obj.cells #[.int .i64 97, .int .i64 97, .int .i64 2] 39)) := b6.alloc (by first | exact Nat.le_refl _ | (rw [z6]; omega)) _
  have b8 : Below w.heap.size w ((((((((w.alloc (Obj.cells #[.int .i64 97, .int .i64 97, .int .i64 1] 39)).alloc (Obj.cells #[.int .i64 97, .int .i64 97, .int .i64 1] 39)).alloc (Obj.cells #[.int .i64 97, .int .i64 97, .int .i64 2] 39)).alloc (Obj.cells #[.int .i64 98, .int .i64 98, .int .i64 3] 39)).alloc (Obj.cells #[.int .i64 97, .int .i64 97, .int .i64 2, .int .i64 98, .int .i64 98, .int .i64 3] 39)).alloc (Obj.cells #[.int .i64 97, .int .i64 97, .int .i64 2] 39)).alloc (Obj.cells #[.int .i64 97, .int .i64 97, .int .i64 2] 39)).alloc (Obj.cells #[.slice (some ⟨w.heap.size + 1, 0, none⟩) 1 1, .int .i64 (-1), .slice (some ⟨w.heap.size + 1 + 1 + 1 + 1, 0, none⟩) 2 2, .int .i64 0, .slice (some ⟨w.heap.size + 1 + 1 + 1 + 1 + 1 + 1, 0, none⟩) 1 1, .int .i64 0, .slice none 0 0, .int .i64 0] 37)) := b7.alloc (by first | exact Nat.le_refl _ | (rw [z7]; omega)) _
  have b9 : Below w.heap.size w (((((((((w.alloc (Obj.cells #[.int .i64 97, .int .i64 97, .int .i64 1] 39)).alloc (Obj.cells #[.int .i64 97, .int .i64 97, .int .i64 1] 39)).alloc (Obj.cells #[.int .i64 97, .int .i64 97, .int .i64 2] 39)).alloc (Obj.cells #[.int .i64 98, .int .i64 98, .int .i64 3] 39)).alloc (Obj.cells #[.int .i64 97, .int .i64 97, .int .i64 2, .int .i64 98, .int .i64 98, .int .i64 3] 39)).alloc (Obj.cells #[.int .i64 97, .int .i64 97, .int .i64 2] 39)).alloc (Obj.cells #[.int .i64 97, .int .i64 97, .int .i64 2] 39)).alloc (Obj.cells #[.slice (some ⟨w.heap.size + 1, 0, none⟩) 1 1, .int .i64 (-1), .slice (some ⟨w.heap.size + 1 + 1 + 1 + 1, 0, none⟩) 2 2, .int .i64 0, .slice (some ⟨w.heap.size + 1 + 1 + 1 + 1 + 1 + 1, 0, none⟩) 1 1, .int .i64 0, .slice none 0 0, .int .i64 0] 37)).alloc (Obj.cells #[.slice (some ⟨w.heap.size + 1 + 1 + 1 + 1 + 1 + 1 + 1, 0, none⟩) 4 4] 24)) := b8.alloc (by first | exact Nat.le_refl _ | (rw [z8]; omega)) _
  have s1 := sla_blk (w.alloc (Obj.cells #[.int .i64 97, .int .i64 97, .int .i64 1] 39)) [⟨97, 97, 1⟩] #[.int .i64 97, .int .i64 97, .int .i64 1] rfl (by simp) (by simp [i64B])
  rw [z1] at s1
  have s1 := s1.next (below_new ((w.alloc (Obj.cells #[.int .i64 97, .int .i64 97, .int .i64 1] 39)).alloc (Obj.cells #[.int .i64 97, .int .i64 97, .int .i64 1] 39)) (Obj.cells #[.int .i64 97, .int .i64 97, .int .i64 2] 39))
  have s1 := s1.next (below_new (((w.alloc (Obj.cells #[.int .i64 97, .int .i64 97, .int .i64 1] 39)).alloc (Obj.cells #[.int .i64 97, .int .i64 97, .int .i64 1] 39)).alloc (Obj.cells #[.int .i64 97, .int .i64 97, .int .i64 2] 39)) (Obj.cells #[.int .i64 98, .int .i64 98, .int .i64 3] 39))
  have s1 := s1.next (below_new ((((w.alloc (Obj.cells #[.int .i64 97, .int .i64 97, .int .i64 1] 39)).alloc (Obj.cells #[.int .i64 97, .int .i64 97, .int .i64 1] 39)).alloc (Obj.cells #[.int .i64 97, .int .i64 97, .int .i64 2] 39)).alloc (Obj.cells #[.int .i64 98, .int .i64 98, .int .i64 3] 39)) (Obj.cells #[.int .i64 97, .int .i64 97, .int .i64 2, .int .i64 98, .int .i64 98, .int .i64 3] 39))
  have s1 := s1.next (below_new (((((w.alloc (Obj.cells #[.int .i64 97, .int .i64 97, .int .i64 1] 39)).alloc (Obj.cells #[.int .i64 97, .int .i64 97, .int .i64 1] 39)).alloc (Obj.cells #[.int .i64 97, .int .i64 97, .int .i64 2] 39)).alloc (Obj.cells #[.int .i64 98, .int .i64 98, .int .i64 3] 39)).alloc (Obj.cells #[.int .i64 97, .int .i64 97, .int .i64 2, .int .i64 98, .int .i64 98, .int .i64 3] 39)) (Obj.cells #[.int .i64 97, .int .i64 97, .int .i64 2] 39))
  have s1 := s1.next (below_new ((((((w.alloc (Obj.cells #[.int .i64 97, .int .i64 97, .int .i64 1] 39)).alloc (Obj.cells #[.int .i64 97, .int .i64 97, .int .i64 1] 39)).alloc (Obj.cells #[.int .i64 97, .int .i64 97, .int .i64 2] 39)).alloc (Obj.cells #[.int .i64 98, .int .i64 98, .int .i64 3] 39)).alloc (Obj.cells #[.int .i64 97, .int .i64 97, .int .i64 2, .int .i64 98, .int .i64 98, .int .i64 3] 39)).alloc (Obj.cells #[.int .i64 97, .int .i64 97, .int .i64 2] 39)) (Obj.cells #[.int .i64 97, .int .i64 97, .int .i64 2] 39))
  have s4 := sla_blk ((((w.alloc (Obj.cells #[.int .i64 97, .int .i64 97, .int .i64 1] 39)).alloc (Obj.cells #[.int .i64 97, .int .i64 97, .int .i64 1] 39)).alloc (Obj.cells #[.int .i64 97, .int .i64 97, .int .i64 2] 39)).alloc (Obj.cells #[.int .i64 98, .int .i64 98, .int .i64 3] 39)) [⟨97, 97, 2⟩, ⟨98, 98, 3⟩] #[.int .i64 97, .int .i64 97, .int .i64 2, .int .i64 98, .int .i64 98, .int .i64 3] rfl (by simp) (by simp [i64B])
  rw [z4] at s4
  have s4 := s4.next (below_new (((((w.alloc (Obj.cells #[.int .i64 97, .int .i64 97, .int .i64 1] 39)).alloc (Obj.cells #[.int .i64 97, .int .i64 97, .int .i64 1] 39)).alloc (Obj.cells #[.int .i64 97, .int .i64 97, .int .i64 2] 39)).alloc (Obj.cells #[.int .i64 98, .int .i64 98, .int .i64 3] 39)).alloc (Obj.cells #[.int .i64 97, .int .i64 97, .int .i64 2, .int .i64 98, .int .i64 98, .int .i64 3] 39)) (Obj.cells #[.int .i64 97, .int .i64 97, .int .i64 2] 39))
  have s4 := s4.next (below_new ((((((w.alloc (Obj.cells #[.int .i64 97, .int .i64 97, .int .i64 1] 39)).alloc (Obj.cells #[.int .i64 97, .int .i64 97, .int .i64 1] 39)).alloc (Obj.cells #[.int .i64 97, .int .i64 97, .int .i64 2] 39)).alloc (Obj.cells #[.int .i64 98, .int .i64 98, .int .i64 3] 39)).alloc (Obj.cells #[.int .i64 97, .int .i64 97, .int .i64 2, .int .i64 98, .int .i64 98, .int .i64 3] 39)).alloc (Obj.cells #[.int .i64 97, .int .i64 97, .int .i64 2] 39)) (Obj.cells #[.int .i64 97, .int .i64 97, .int .i64 2] 39))
  have s6 := sla_blk ((((((w.alloc (Obj.cells #[.int .i64 97, .int .i64 97, .int .i64 1] 39)).alloc (Obj.cells #[.int .i64 97, .int .i64 97, .int .i64 1] 39)).alloc (Obj.cells #[.int .i64 97, .int .i64 97, .int .i64 2] 39)).alloc (Obj.cells #[.int .i64 98, .int .i64 98, .int .i64 3] 39)).alloc (Obj.cells #[.int .i64 97, .int .i64 97, .int .i64 2, .int .i64 98, .int .i64 98, .int .i64 3] 39)).alloc (Obj.cells #[.int .i64 97, .int .i64 97, .int .i64 2] 39)) [⟨97, 97, 2⟩] #[.int .i64 97, .int .i64 97, .int .i64 2] rfl (by simp) (by simp [i64B])
  rw [z6] at s6
  have sd := sld_blk (((((((w.alloc (Obj.cells #[.int .i64 97, .int .i64 97, .int .i64 1] 39)).alloc (Obj.cells #[.int .i64 97, .int .i64 97, .int .i64 1] 39)).alloc (Obj.cells #[.int .i64 97, .int .i64 97, .int .i64 2] 39)).alloc (Obj.cells #[.int .i64 98, .int .i64 98, .int .i64 3] 39)).alloc (Obj.cells #[.int .i64 97, .int .i64 97, .int .i64 2, .int .i64 98, .int .i64 98, .int .i64 3] 39)).alloc (Obj.cells #[.int .i64 97, .int .i64 97, .int .i64 2] 39)).alloc (Obj.cells #[.int .i64 97, .int .i64 97, .int .i64 2] 39)) [((⟨[⟨97, 97, 1⟩], -1⟩ : Ds), (.slice (some ⟨w.heap.size + 1, 0, none⟩) 1 1 : Value)), ((⟨[⟨97, 97, 2⟩, ⟨98, 98, 3⟩], 0⟩ : Ds), (.slice (some ⟨w.heap.size + 1 + 1 + 1 + 1, 0, none⟩) 2 2 : Value)), ((⟨[⟨97, 97, 2⟩], 0⟩ : Ds), (.slice (some ⟨w.heap.size + 1 + 1 + 1 + 1 + 1 + 1, 0, none⟩) 1 1 : Value)), ((⟨[], 0⟩ : Ds), (.slice none 0 0 : Value))] #[.slice (some ⟨w.heap.size + 1, 0, none⟩) 1 1, .int .i64 (-1), .slice (some ⟨w.heap.size + 1 + 1 + 1 + 1, 0, none⟩) 2 2, .int .i64 0, .slice (some ⟨w.heap.size + 1 + 1 + 1 + 1 + 1 + 1, 0, none⟩) 1 1, .int .i64 0, .slice none 0 0, .int .i64 0] rfl (by simp) (fun p hp => by
    simp only [List.mem_cons, List.not_mem_nil, or_false] at hp
    rcases hp with rfl | rfl | rfl | rfl
    · exact ⟨s1, by unfold i64B; simp⟩
    · exact ⟨s4, by unfold i64B; simp⟩
    · exact ⟨s6, by unfold i64B; simp⟩
    · exact ⟨SlA.nil _, by unfold i64B; simp⟩)
  rw [z7] at sd
  exact ⟨b9, sd.next (below_new _ _), by rw [← z8]; exact heap_alloc_new _ _⟩
theorem upD {d : List Ds} (h : fitB d = true) (hs : smallD d = true) : ∀ x ∈ d, upA x.arcs 0 ∧ x.arcs.length ≤ 1000000 := fit_up h hs

set_option maxRecDepth 100000 in
set_option maxHeartbeats 3200000 in
theorem awake_any (w : World) : Calls Try.prog 5 #[] w fun e w' => e = .returned (.bool true) ∧ Below w.heap.size w w' := by
  go_enter Try.func5, Try.ntmps5
  go_upto_region 2 with fail
  go_cut [2] from 8 (fun t2 wx => ∃ q2 a2 c2, t2 = .pointer (some ⟨q2, 0, none⟩) ∧ Hid (Below w.heap.size w wx ∧ SlD dA (.slice a2 3 c2) wx ∧ wx.heap[q2]? = some (Obj.cells #[.slice a2 3 c2] 24)))
  case first =>
    go_wp2_with fail
    refine (oneA_any _ _ _).mono ?_
    rintro e w' ⟨rfl, rfl⟩
    go_wp2_with fail
    refine (oneA_any _ _ _).mono ?_
    rintro e w' ⟨rfl, rfl⟩
    go_wp2_with fail
    go_meet
    exact ⟨_, _, _, rfl, made_A w⟩
  case rest =>
  obtain ⟨q2, a2, c2, rfl, H1⟩ := hcut
  generalize wc = w1 at *
  go_upto_region 3 with fail
  go_cut [3] from 8 (fun t3 wx => ∃ q3 a3 c3, t3 = .pointer (some ⟨q3, 0, none⟩) ∧ Hid (Below w1.heap.size w1 wx ∧ SlD dB (.slice a3 4 c3) wx ∧ wx.heap[q3]? = some (Obj.cells #[.slice a3 4 c3] 24)))
  case first =>
    clear H1
    go_wp2_with fail
    refine (oneA_any _ _ _).mono ?_
    rintro e w' ⟨rfl, rfl⟩
    go_wp2_with fail
    refine (oneA_any _ _ _).mono ?_
    rintro e w' ⟨rfl, rfl⟩
    go_wp2_with fail
    refine (oneA_any _ _ _).mono ?_
    rintro e w' ⟨rfl, rfl⟩
    go_wp2_with fail
    refine (oneA_any _ _ _).mono ?_
    rintro e w' ⟨rfl, rfl⟩
    go_wp2_with fail
    go_meet
    exact ⟨_, _, _, rfl, made_B w1⟩
  case rest =>
  obtain ⟨q3, a3, c3, rfl, H2⟩ := hcut
  generalize wc = w2 at *
  have HS : Hid (∀ W, Below w2.heap.size w2 W → (W.cell? ⟨q2, 0, none⟩ = some (.slice a2 3 c2) ∧ W.cell? ⟨q3, 0, none⟩ = some (.slice a3 4 c3)) ∧ SlD dA (.slice a2 3 c2) W ∧ SlD dB (.slice a3 4 c3) W ∧ Below w.heap.size w W) := fun W hW => by
    obtain ⟨x1, x2, x3⟩ := H1.out
    obtain ⟨y1, y2, y3⟩ := H2.out
    have b1 : Below w1.heap.size w1 W := y1.trans (hW.mono y1.size)
    exact ⟨⟨by rw [Lib.cell_of_heap ((b1.block _ (blk_lt x3)).trans x3)]; rfl, by rw [Lib.cell_of_heap ((hW.block _ (blk_lt y3)).trans y3)]; rfl⟩, x2.next b1, y2.next hW, x1.trans (b1.mono x1.size)⟩
  clear H1 H2
  obtain ⟨⟨k1, k2⟩, k3, k4, _⟩ := HS.out w2 (Below.refl _ _)
  have CR := run_any dA _ ⟨#[97, 98, 98]⟩ w2 k3 (fit_up fitA (by decide)) (by decide)
  rw [runA] at CR
  simp only at CR
  clear k3 k4
  go_upto_region 4 with fail
  go_wp2_with fail
  refine CR.mono ?_
  rintro e W3 ⟨rfl, hb3⟩
  clear CR k1 k2
  obtain ⟨⟨k1, k2⟩, k3, k4, _⟩ := HS.out W3 hb3
  have CD := differ_any dA dB _ _ W3 k3 k4 fitA fitBB (by decide) (by decide) (by decide) (by decide)
  clear k3 k4
  go_upto_region 5 with fail
  go_wp2_with fail
  refine CD.mono ?_
  rintro e W5 ⟨hb5, ⟨rfl, h⟩ | ⟨P, rfl, _, _, hP⟩⟩
  case inl => exact absurd (congrFun h [97, 97]) (by decide)
  obtain rfl := hP.one firstAB
  rw [strAA]
  clear CD k1 k2 hP
  have b25 : Below w2.heap.size w2 W5 := hb3.trans (hb5.mono hb3.size)
  clear hb3 hb5
  go_upto_region 6 with fail
  have HSB : Hid (∀ W, Below W5.drew.heap.size W5.drew W → (W.cell? ⟨q2, 0, none⟩ = some (.slice a2 3 c2) ∧ W.cell? ⟨q3, 0, none⟩ = some (.slice a3 4 c3)) ∧ SlD dA (.slice a2 3 c2) W ∧ SlD dB (.slice a3 4 c3) W ∧ Below w.heap.size w W) := fun W hW => HS.out W ((below_drewN b25 1).trans (hW.mono b25.size))
  have HS0 : W5.drew.cell? ⟨q2, 0, none⟩ = some (.slice a2 3 c2) ∧ W5.drew.cell? ⟨q3, 0, none⟩ = some (.slice a3 4 c3) := (HSB.out _ (Below.refl _ _)).1
  have CF := fit_any dA _ W5.drew (HSB.out _ (Below.refl _ _)).2.1
  rw [fitA] at CF
  have fA := (fitB_fit fitA).1
  have fB := (fitB_fit fitBB).1
  have HLA : Hid (∀ W v, SlD dA v W → Calls Try.prog 14 #[.agg #[v]] W fun e w' => ∃ dv, e = .returned (.agg #[dv]) ∧ SlD dA dv w' ∧ Below W.heap.size W w') := fun W v hv => (least_any dA v W hv fitA (by decide) fA (by decide)).mono (by
    rintro e w' ⟨dv, d, rfl, h1, h2, h3, h4⟩
    obtain rfl := h2.one nfA h3.1
    exact ⟨dv, rfl, h1, h4⟩)
  have HLB : Hid (∀ W v, SlD dB v W → Calls Try.prog 14 #[.agg #[v]] W fun e w' => ∃ dv, e = .returned (.agg #[dv]) ∧ SlD dB dv w' ∧ Below W.heap.size W w') := fun W v hv => (least_any dB v W hv fitBB (by decide) fB (by decide)).mono (by
    rintro e w' ⟨dv, d, rfl, h1, h2, h3, h4⟩
    obtain rfl := h2.one nfB h3.1
    exact ⟨dv, rfl, h1, h4⟩)
  clear fA fB b25
  refine wp_region_L (fun W => W.cell? ⟨q2, 0, none⟩ = some (.slice a2 3 c2) ∧ W.cell? ⟨q3, 0, none⟩ = some (.slice a3 4 c3)) 35 (by kernel_rfl) 35 rfl ?_
  refine wpAnyL_take' (i := 0) (v := ?_) (oi := { dst := some 47, op := Op.load 24 (Operand.tmp 2), type := 24, pos := "law.go:134", after := #[], guard := none }) rfl (by kernel_rfl) (by kernel_rfl) (by kernel_rfl) (by kernel_rfl) rfl (fun _ _ _ h => h) (Or.inl ⟨by rfl, ?_⟩) HS0 ?_
  rotate_left
  · intro W hSW
    go_simp
    try with_reducible rfl
  simp only [Act.put, List.setIfInBounds_toArray, List.set_cons_zero, List.set_cons_succ]
  refine wpAnyL_one' (i := 1) (o := { dst := some 48, op := Op.call { callee := Callee.value (Operand.func 6), args := #[Operand.tmp 47], argTypes := #[24] }, type := 4, pos := "law.go:134", after := #[{ on := 0, ground := Ground.data }], guard := none }) (by kernel_rfl) rfl rfl (fun K hK => ?_)
  go_simp
  refine (CF).mono ?_
  rintro e V1 ⟨rfl, hb1⟩
  refine hK.out _ _ (fun _ => (HSB.out _ hb1).1) ?_
  clear hK
  have HS1 := (HSB.out _ hb1).1
  refine wpAnyL_take' (i := 2) (v := ?_) (oi := { dst := some 49, op := Op.move (Operand.tmp 48), type := 4, pos := "law.go:134", after := #[{ on := 1, ground := Ground.data }, { on := 1, ground := Ground.chain }], guard := none }) rfl (by kernel_rfl) (by kernel_rfl) (by kernel_rfl) (by kernel_rfl) rfl (fun _ _ _ h => h) (Or.inl ⟨by rfl, ?_⟩) HS1 ?_
  rotate_left
  · intro W hSW
    go_simp
    try with_reducible rfl
  simp only [Act.put, List.setIfInBounds_toArray, List.set_cons_zero, List.set_cons_succ]
  refine wpAnyL_take' (i := 3) (v := ?_) (oi := { dst := some 50, op := Op.load 24 (Operand.tmp 2), type := 24, pos := "law.go:134", after := #[{ on := 2, ground := Ground.guard }], guard := some (2, true) }) rfl (by kernel_rfl) (by kernel_rfl) (by kernel_rfl) (by kernel_rfl) rfl (fun _ _ _ h => h) (Or.inl ⟨by rfl, ?_⟩) HS1 ?_
  rotate_left
  · intro W hSW
    go_simp
    try with_reducible rfl
  simp only [Act.put, List.setIfInBounds_toArray, List.set_cons_zero, List.set_cons_succ]
  refine wpAnyL_take' (i := 5) (v := ?_) (oi := { dst := some 52, op := Op.load 24 (Operand.tmp 2), type := 24, pos := "law.go:134", after := #[{ on := 2, ground := Ground.guard }], guard := some (2, true) }) rfl (by kernel_rfl) (by kernel_rfl) (by kernel_rfl) (by kernel_rfl) rfl (fun _ _ _ h => h) (Or.inl ⟨by rfl, ?_⟩) HS1 ?_
  rotate_left
  · intro W hSW
    go_simp
    try with_reducible rfl
  simp only [Act.put, List.setIfInBounds_toArray, List.set_cons_zero, List.set_cons_succ]
  refine wpAnyL_one' (i := 4) (o := { dst := some 51, op := Op.call { callee := Callee.value (Operand.func 14), args := #[Operand.tmp 50], argTypes := #[24] }, type := 24, pos := "law.go:134", after := #[{ on := 3, ground := Ground.data }, { on := 2, ground := Ground.chain }, { on := 2, ground := Ground.guard }], guard := some (2, true) }) (by kernel_rfl) rfl rfl (fun K hK => ?_)
  go_simp
  refine ((HLA.out _ _ (HSB.out _ hb1).2.1)).mono ?_
  rintro e V2 ⟨dv, rfl, hd2, hb2⟩
  refine hK.out _ _ (fun _ => (HSB.out _ (hb1.trans (hb2.mono hb1.size))).1) ?_
  clear hK
  have CS := rsame_any dA dA dv _ V2 hd2 (HSB.out _ (hb1.trans (hb2.mono hb1.size))).2.1
  rw [decide_eq_true (rfl : dA = dA)] at CS
  refine wpAnyL_one' (i := 6) (o := { dst := some 53, op := Op.call { callee := Callee.value (Operand.func 9), args := #[Operand.tmp 51, Operand.tmp 52], argTypes := #[24, 24] }, type := 4, pos := "law.go:134", after := #[{ on := 4, ground := Ground.data }, { on := 5, ground := Ground.data }, { on := 4, ground := Ground.chain }, { on := 2, ground := Ground.guard }], guard := some (2, true) }) (by kernel_rfl) rfl rfl (fun K hK => ?_)
  go_simp
  refine (CS).mono ?_
  rintro e V3 ⟨rfl, hb3⟩
  refine hK.out _ _ (fun _ => (HSB.out _ ((hb1.trans (hb2.mono hb1.size)).trans (hb3.mono (hb1.trans (hb2.mono hb1.size)).size))).1) ?_
  clear hK
  clear CS hd2
  have HS3 := (HSB.out _ ((hb1.trans (hb2.mono hb1.size)).trans (hb3.mono (hb1.trans (hb2.mono hb1.size)).size))).1
  refine wpAnyL_take' (i := 7) (v := ?_) (oi := { dst := some 54, op := Op.pick (Operand.tmp 49) (Operand.tmp 53) (Operand.const (Value.bool false)), type := 4, pos := "law.go:134", after := #[{ on := 2, ground := Ground.data }, { on := 6, ground := Ground.data }], guard := none }) rfl (by kernel_rfl) (by kernel_rfl) (by kernel_rfl) (by kernel_rfl) rfl (fun _ _ _ h => h) (Or.inl ⟨by rfl, ?_⟩) HS3 ?_
  rotate_left
  · intro W hSW
    go_simp
    try with_reducible rfl
  simp only [Act.put, List.setIfInBounds_toArray, List.set_cons_zero, List.set_cons_succ]
  refine wpAnyL_take' (i := 8) (v := ?_) (oi := { dst := some 55, op := Op.move (Operand.tmp 54), type := 4, pos := "law.go:134", after := #[{ on := 7, ground := Ground.data }, { on := 6, ground := Ground.chain }], guard := none }) rfl (by kernel_rfl) (by kernel_rfl) (by kernel_rfl) (by kernel_rfl) rfl (fun _ _ _ h => h) (Or.inl ⟨by rfl, ?_⟩) HS3 ?_
  rotate_left
  · intro W hSW
    go_simp
    try with_reducible rfl
  simp only [Act.put, List.setIfInBounds_toArray, List.set_cons_zero, List.set_cons_succ]
  refine wpAnyL_take' (i := 9) (v := ?_) (oi := { dst := some 56, op := Op.move (Operand.tmp 4), type := 3, pos := "law.go:134", after := #[{ on := 8, ground := Ground.guard }], guard := some (8, true) }) rfl (by kernel_rfl) (by kernel_rfl) (by kernel_rfl) (by kernel_rfl) rfl (fun _ _ _ h => h) (Or.inl ⟨by rfl, ?_⟩) HS3 ?_
  rotate_left
  · intro W hSW
    go_simp
    try with_reducible rfl
  simp only [Act.put, List.setIfInBounds_toArray, List.set_cons_zero, List.set_cons_succ]
  refine wpAnyL_take' (i := 10) (v := ?_) (oi := { dst := some 57, op := Op.binOp BinOp.eql 3 (Operand.tmp 56) (Operand.const (Value.int IntKind.i64 2)) 3, type := 4, pos := "law.go:134", after := #[{ on := 9, ground := Ground.data }, { on := 8, ground := Ground.guard }], guard := some (8, true) }) rfl (by kernel_rfl) (by kernel_rfl) (by kernel_rfl) (by kernel_rfl) rfl (fun _ _ _ h => h) (Or.inl ⟨by rfl, ?_⟩) HS3 ?_
  rotate_left
  · intro W hSW
    go_simp
    try with_reducible rfl
  simp only [Act.put, List.setIfInBounds_toArray, List.set_cons_zero, List.set_cons_succ]
  refine wpAnyL_take' (i := 11) (v := ?_) (oi := { dst := some 58, op := Op.pick (Operand.tmp 55) (Operand.tmp 57) (Operand.const (Value.bool false)), type := 4, pos := "law.go:134", after := #[{ on := 8, ground := Ground.data }, { on := 10, ground := Ground.data }], guard := none }) rfl (by kernel_rfl) (by kernel_rfl) (by kernel_rfl) (by kernel_rfl) rfl (fun _ _ _ h => h) (Or.inl ⟨by rfl, ?_⟩) HS3 ?_
  rotate_left
  · intro W hSW
    go_simp
    try with_reducible rfl
  simp only [Act.put, List.setIfInBounds_toArray, List.set_cons_zero, List.set_cons_succ]
  refine wpAnyL_take' (i := 12) (v := ?_) (oi := { dst := some 59, op := Op.move (Operand.tmp 58), type := 4, pos := "law.go:134", after := #[{ on := 11, ground := Ground.data }, { on := 8, ground := Ground.chain }], guard := none }) rfl (by kernel_rfl) (by kernel_rfl) (by kernel_rfl) (by kernel_rfl) rfl (fun _ _ _ h => h) (Or.inl ⟨by rfl, ?_⟩) HS3 ?_
  rotate_left
  · intro W hSW
    go_simp
    try with_reducible rfl
  simp only [Act.put, List.setIfInBounds_toArray, List.set_cons_zero, List.set_cons_succ]
  refine wpAnyL_take' (i := 13) (v := ?_) (oi := { dst := some 60, op := Op.move (Operand.tmp 5), type := 3, pos := "law.go:134", after := #[{ on := 12, ground := Ground.guard }], guard := some (12, true) }) rfl (by kernel_rfl) (by kernel_rfl) (by kernel_rfl) (by kernel_rfl) rfl (fun _ _ _ h => h) (Or.inl ⟨by rfl, ?_⟩) HS3 ?_
  rotate_left
  · intro W hSW
    go_simp
    try with_reducible rfl
  simp only [Act.put, List.setIfInBounds_toArray, List.set_cons_zero, List.set_cons_succ]
  refine wpAnyL_take' (i := 14) (v := ?_) (oi := { dst := some 61, op := Op.binOp BinOp.eql 3 (Operand.tmp 60) (Operand.const (Value.int IntKind.i64 0)) 3, type := 4, pos := "law.go:134", after := #[{ on := 13, ground := Ground.data }, { on := 12, ground := Ground.guard }], guard := some (12, true) }) rfl (by kernel_rfl) (by kernel_rfl) (by kernel_rfl) (by kernel_rfl) rfl (fun _ _ _ h => h) (Or.inl ⟨by rfl, ?_⟩) HS3 ?_
  rotate_left
  · intro W hSW
    go_simp
    try with_reducible rfl
  simp only [Act.put, List.setIfInBounds_toArray, List.set_cons_zero, List.set_cons_succ]
  refine wpAnyL_take' (i := 15) (v := ?_) (oi := { dst := some 62, op := Op.pick (Operand.tmp 59) (Operand.tmp 61) (Operand.const (Value.bool false)), type := 4, pos := "law.go:134", after := #[{ on := 12, ground := Ground.data }, { on := 14, ground := Ground.data }], guard := none }) rfl (by kernel_rfl) (by kernel_rfl) (by kernel_rfl) (by kernel_rfl) rfl (fun _ _ _ h => h) (Or.inl ⟨by rfl, ?_⟩) HS3 ?_
  rotate_left
  · intro W hSW
    go_simp
    try with_reducible rfl
  simp only [Act.put, List.setIfInBounds_toArray, List.set_cons_zero, List.set_cons_succ]
  refine wpAnyL_take' (i := 16) (v := ?_) (oi := { dst := some 63, op := Op.move (Operand.tmp 62), type := 4, pos := "law.go:134", after := #[{ on := 15, ground := Ground.data }, { on := 12, ground := Ground.chain }], guard := none }) rfl (by kernel_rfl) (by kernel_rfl) (by kernel_rfl) (by kernel_rfl) rfl (fun _ _ _ h => h) (Or.inl ⟨by rfl, ?_⟩) HS3 ?_
  rotate_left
  · intro W hSW
    go_simp
    try with_reducible rfl
  simp only [Act.put, List.setIfInBounds_toArray, List.set_cons_zero, List.set_cons_succ]
  refine wpAnyL_take' (i := 17) (v := ?_) (oi := { dst := some 64, op := Op.load 24 (Operand.tmp 2), type := 24, pos := "law.go:134", after := #[{ on := 16, ground := Ground.guard }], guard := some (16, true) }) rfl (by kernel_rfl) (by kernel_rfl) (by kernel_rfl) (by kernel_rfl) rfl (fun _ _ _ h => h) (Or.inl ⟨by rfl, ?_⟩) HS3 ?_
  rotate_left
  · intro W hSW
    go_simp
    try with_reducible rfl
  simp only [Act.put, List.setIfInBounds_toArray, List.set_cons_zero, List.set_cons_succ]
  have CE := seen_any dA _ ⟨#[97, 98, 98]⟩ V3 (HSB.out _ ((hb1.trans (hb2.mono hb1.size)).trans (hb3.mono (hb1.trans (hb2.mono hb1.size)).size))).2.1 (fit_up fitA (by decide)) (by decide)
  rw [seenA] at CE
  refine wpAnyL_one' (i := 18) (o := { dst := some 65, op := Op.call { callee := Callee.value (Operand.func 16), args := #[Operand.tmp 64, Operand.const (Value.string { data := #[97, 98, 98] })], argTypes := #[24, 9] }, type := 3, pos := "law.go:134", after := #[{ on := 17, ground := Ground.data }, { on := 16, ground := Ground.chain }, { on := 16, ground := Ground.guard }], guard := some (16, true) }) (by kernel_rfl) rfl rfl (fun K hK => ?_)
  go_simp
  refine (CE).mono ?_
  rintro e V4 ⟨rfl, hb4⟩
  refine hK.out _ _ (fun _ => (HSB.out _ (((hb1.trans (hb2.mono hb1.size)).trans (hb3.mono (hb1.trans (hb2.mono hb1.size)).size)).trans (hb4.mono ((hb1.trans (hb2.mono hb1.size)).trans (hb3.mono (hb1.trans (hb2.mono hb1.size)).size)).size))).1) ?_
  clear hK
  have HS4 := (HSB.out _ (((hb1.trans (hb2.mono hb1.size)).trans (hb3.mono (hb1.trans (hb2.mono hb1.size)).size)).trans (hb4.mono ((hb1.trans (hb2.mono hb1.size)).trans (hb3.mono (hb1.trans (hb2.mono hb1.size)).size)).size))).1
  refine wpAnyL_take' (i := 19) (v := ?_) (oi := { dst := some 66, op := Op.binOp BinOp.eql 3 (Operand.tmp 65) (Operand.const (Value.int IntKind.i64 3)) 3, type := 4, pos := "law.go:134", after := #[{ on := 18, ground := Ground.data }, { on := 16, ground := Ground.guard }], guard := some (16, true) }) rfl (by kernel_rfl) (by kernel_rfl) (by kernel_rfl) (by kernel_rfl) rfl (fun _ _ _ h => h) (Or.inl ⟨by rfl, ?_⟩) HS4 ?_
  rotate_left
  · intro W hSW
    go_simp
    try with_reducible rfl
  simp only [Act.put, List.setIfInBounds_toArray, List.set_cons_zero, List.set_cons_succ]
  refine wpAnyL_take' (i := 20) (v := ?_) (oi := { dst := some 67, op := Op.pick (Operand.tmp 63) (Operand.tmp 66) (Operand.const (Value.bool false)), type := 4, pos := "law.go:134", after := #[{ on := 16, ground := Ground.data }, { on := 19, ground := Ground.data }], guard := none }) rfl (by kernel_rfl) (by kernel_rfl) (by kernel_rfl) (by kernel_rfl) rfl (fun _ _ _ h => h) (Or.inl ⟨by rfl, ?_⟩) HS4 ?_
  rotate_left
  · intro W hSW
    go_simp
    try with_reducible rfl
  simp only [Act.put, List.setIfInBounds_toArray, List.set_cons_zero, List.set_cons_succ]
  refine wpAnyL_take' (i := 21) (v := ?_) (oi := { dst := some 68, op := Op.move (Operand.tmp 67), type := 4, pos := "law.go:134", after := #[{ on := 20, ground := Ground.data }, { on := 18, ground := Ground.chain }], guard := none }) rfl (by kernel_rfl) (by kernel_rfl) (by kernel_rfl) (by kernel_rfl) rfl (fun _ _ _ h => h) (Or.inl ⟨by rfl, ?_⟩) HS4 ?_
  rotate_left
  · intro W hSW
    go_simp
    try with_reducible rfl
  simp only [Act.put, List.setIfInBounds_toArray, List.set_cons_zero, List.set_cons_succ]
  refine wpAnyL_take' (i := 22) (v := ?_) (oi := { dst := some 69, op := Op.move (Operand.tmp 6), type := 9, pos := "law.go:134", after := #[{ on := 21, ground := Ground.guard }], guard := some (21, true) }) rfl (by kernel_rfl) (by kernel_rfl) (by kernel_rfl) (by kernel_rfl) rfl (fun _ _ _ h => h) (Or.inl ⟨by rfl, ?_⟩) HS4 ?_
  rotate_left
  · intro W hSW
    go_simp
    try with_reducible rfl
  simp only [Act.put, List.setIfInBounds_toArray, List.set_cons_zero, List.set_cons_succ]
  refine wpAnyL_take' (i := 23) (v := ?_) (oi := { dst := some 70, op := Op.binOp BinOp.eql 9 (Operand.tmp 69) (Operand.const (Value.string { data := #[97, 97] })) 9, type := 4, pos := "law.go:134", after := #[{ on := 22, ground := Ground.data }, { on := 21, ground := Ground.guard }], guard := some (21, true) }) rfl (by kernel_rfl) (by kernel_rfl) (by kernel_rfl) (by kernel_rfl) rfl (fun _ _ _ h => h) (Or.inl ⟨by rfl, ?_⟩) HS4 ?_
  rotate_left
  · intro W hSW
    go_simp
    try with_reducible rfl
  simp only [Act.put, List.setIfInBounds_toArray, List.set_cons_zero, List.set_cons_succ]
  refine wpAnyL_take' (i := 24) (v := ?_) (oi := { dst := some 71, op := Op.pick (Operand.tmp 68) (Operand.tmp 70) (Operand.const (Value.bool false)), type := 4, pos := "law.go:134", after := #[{ on := 21, ground := Ground.data }, { on := 23, ground := Ground.data }], guard := none }) rfl (by kernel_rfl) (by kernel_rfl) (by kernel_rfl) (by kernel_rfl) rfl (fun _ _ _ h => h) (Or.inl ⟨by rfl, ?_⟩) HS4 ?_
  rotate_left
  · intro W hSW
    go_simp
    try with_reducible rfl
  simp only [Act.put, List.setIfInBounds_toArray, List.set_cons_zero, List.set_cons_succ]
  refine wpAnyL_take' (i := 25) (v := ?_) (oi := { dst := some 72, op := Op.move (Operand.tmp 71), type := 4, pos := "law.go:134", after := #[{ on := 24, ground := Ground.data }, { on := 21, ground := Ground.chain }], guard := none }) rfl (by kernel_rfl) (by kernel_rfl) (by kernel_rfl) (by kernel_rfl) rfl (fun _ _ _ h => h) (Or.inl ⟨by rfl, ?_⟩) HS4 ?_
  rotate_left
  · intro W hSW
    go_simp
    try with_reducible rfl
  simp only [Act.put, List.setIfInBounds_toArray, List.set_cons_zero, List.set_cons_succ]
  refine wpAnyL_take' (i := 26) (v := ?_) (oi := { dst := some 73, op := Op.move (Operand.tmp 7), type := 4, pos := "law.go:134", after := #[{ on := 25, ground := Ground.guard }], guard := some (25, true) }) rfl (by kernel_rfl) (by kernel_rfl) (by kernel_rfl) (by kernel_rfl) rfl (fun _ _ _ h => h) (Or.inl ⟨by rfl, ?_⟩) HS4 ?_
  rotate_left
  · intro W hSW
    go_simp
    try with_reducible rfl
  simp only [Act.put, List.setIfInBounds_toArray, List.set_cons_zero, List.set_cons_succ]
  refine wpAnyL_take' (i := 27) (v := ?_) (oi := { dst := some 74, op := Op.pick (Operand.tmp 72) (Operand.tmp 73) (Operand.const (Value.bool false)), type := 4, pos := "law.go:134", after := #[{ on := 25, ground := Ground.data }, { on := 26, ground := Ground.data }], guard := none }) rfl (by kernel_rfl) (by kernel_rfl) (by kernel_rfl) (by kernel_rfl) rfl (fun _ _ _ h => h) (Or.inl ⟨by rfl, ?_⟩) HS4 ?_
  rotate_left
  · intro W hSW
    go_simp
    try with_reducible rfl
  simp only [Act.put, List.setIfInBounds_toArray, List.set_cons_zero, List.set_cons_succ]
  refine wpAnyL_take' (i := 28) (v := ?_) (oi := { dst := some 75, op := Op.move (Operand.tmp 74), type := 4, pos := "law.go:134", after := #[{ on := 27, ground := Ground.data }, { on := 25, ground := Ground.chain }], guard := none }) rfl (by kernel_rfl) (by kernel_rfl) (by kernel_rfl) (by kernel_rfl) rfl (fun _ _ _ h => h) (Or.inl ⟨by rfl, ?_⟩) HS4 ?_
  rotate_left
  · intro W hSW
    go_simp
    try with_reducible rfl
  simp only [Act.put, List.setIfInBounds_toArray, List.set_cons_zero, List.set_cons_succ]
  refine wpAnyL_take' (i := 29) (v := ?_) (oi := { dst := some 76, op := Op.load 24 (Operand.tmp 3), type := 24, pos := "law.go:134", after := #[{ on := 28, ground := Ground.guard }], guard := some (28, true) }) rfl (by kernel_rfl) (by kernel_rfl) (by kernel_rfl) (by kernel_rfl) rfl (fun _ _ _ h => h) (Or.inl ⟨by rfl, ?_⟩) HS4 ?_
  rotate_left
  · intro W hSW
    go_simp
    try with_reducible rfl
  simp only [Act.put, List.setIfInBounds_toArray, List.set_cons_zero, List.set_cons_succ]
  refine wpAnyL_take' (i := 31) (v := ?_) (oi := { dst := some 78, op := Op.load 24 (Operand.tmp 3), type := 24, pos := "law.go:134", after := #[{ on := 28, ground := Ground.guard }], guard := some (28, true) }) rfl (by kernel_rfl) (by kernel_rfl) (by kernel_rfl) (by kernel_rfl) rfl (fun _ _ _ h => h) (Or.inl ⟨by rfl, ?_⟩) HS4 ?_
  rotate_left
  · intro W hSW
    go_simp
    try with_reducible rfl
  simp only [Act.put, List.setIfInBounds_toArray, List.set_cons_zero, List.set_cons_succ]
  refine wpAnyL_one' (i := 30) (o := { dst := some 77, op := Op.call { callee := Callee.value (Operand.func 14), args := #[Operand.tmp 76], argTypes := #[24] }, type := 24, pos := "law.go:134", after := #[{ on := 29, ground := Ground.data }, { on := 28, ground := Ground.chain }, { on := 28, ground := Ground.guard }], guard := some (28, true) }) (by kernel_rfl) rfl rfl (fun K hK => ?_)
  go_simp
  refine ((HLB.out _ _ (HSB.out _ (((hb1.trans (hb2.mono hb1.size)).trans (hb3.mono (hb1.trans (hb2.mono hb1.size)).size)).trans (hb4.mono ((hb1.trans (hb2.mono hb1.size)).trans (hb3.mono (hb1.trans (hb2.mono hb1.size)).size)).size))).2.2.1)).mono ?_
  rintro e V5 ⟨ev, rfl, hd5, hb5⟩
  refine hK.out _ _ (fun _ => (HSB.out _ ((((hb1.trans (hb2.mono hb1.size)).trans (hb3.mono (hb1.trans (hb2.mono hb1.size)).size)).trans (hb4.mono ((hb1.trans (hb2.mono hb1.size)).trans (hb3.mono (hb1.trans (hb2.mono hb1.size)).size)).size)).trans (hb5.mono (((hb1.trans (hb2.mono hb1.size)).trans (hb3.mono (hb1.trans (hb2.mono hb1.size)).size)).trans (hb4.mono ((hb1.trans (hb2.mono hb1.size)).trans (hb3.mono (hb1.trans (hb2.mono hb1.size)).size)).size)).size))).1) ?_
  clear hK
  have CS := rsame_any dB dB ev _ V5 hd5 (HSB.out _ ((((hb1.trans (hb2.mono hb1.size)).trans (hb3.mono (hb1.trans (hb2.mono hb1.size)).size)).trans (hb4.mono ((hb1.trans (hb2.mono hb1.size)).trans (hb3.mono (hb1.trans (hb2.mono hb1.size)).size)).size)).trans (hb5.mono (((hb1.trans (hb2.mono hb1.size)).trans (hb3.mono (hb1.trans (hb2.mono hb1.size)).size)).trans (hb4.mono ((hb1.trans (hb2.mono hb1.size)).trans (hb3.mono (hb1.trans (hb2.mono hb1.size)).size)).size)).size))).2.2.1
  rw [decide_eq_true (rfl : dB = dB)] at CS
  refine wpAnyL_one' (i := 32) (o := { dst := some 79, op := Op.call { callee := Callee.value (Operand.func 9), args := #[Operand.tmp 77, Operand.tmp 78], argTypes := #[24, 24] }, type := 4, pos := "law.go:134", after := #[{ on := 30, ground := Ground.data }, { on := 31, ground := Ground.data }, { on := 30, ground := Ground.chain }, { on := 28, ground := Ground.guard }], guard := some (28, true) }) (by kernel_rfl) rfl rfl (fun K hK => ?_)
  go_simp
  refine (CS).mono ?_
  rintro e V6 ⟨rfl, hb6⟩
  refine hK.out _ _ (fun _ => (HSB.out _ (((((hb1.trans (hb2.mono hb1.size)).trans (hb3.mono (hb1.trans (hb2.mono hb1.size)).size)).trans (hb4.mono ((hb1.trans (hb2.mono hb1.size)).trans (hb3.mono (hb1.trans (hb2.mono hb1.size)).size)).size)).trans (hb5.mono (((hb1.trans (hb2.mono hb1.size)).trans (hb3.mono (hb1.trans (hb2.mono hb1.size)).size)).trans (hb4.mono ((hb1.trans (hb2.mono hb1.size)).trans (hb3.mono (hb1.trans (hb2.mono hb1.size)).size)).size)).size)).trans (hb6.mono ((((hb1.trans (hb2.mono hb1.size)).trans (hb3.mono (hb1.trans (hb2.mono hb1.size)).size)).trans (hb4.mono ((hb1.trans (hb2.mono hb1.size)).trans (hb3.mono (hb1.trans (hb2.mono hb1.size)).size)).size)).trans (hb5.mono (((hb1.trans (hb2.mono hb1.size)).trans (hb3.mono (hb1.trans (hb2.mono hb1.size)).size)).trans (hb4.mono ((hb1.trans (hb2.mono hb1.size)).trans (hb3.mono (hb1.trans (hb2.mono hb1.size)).size)).size)).size)).size))).1) ?_
  clear hK
  have HS6 := (HSB.out _ (((((hb1.trans (hb2.mono hb1.size)).trans (hb3.mono (hb1.trans (hb2.mono hb1.size)).size)).trans (hb4.mono ((hb1.trans (hb2.mono hb1.size)).trans (hb3.mono (hb1.trans (hb2.mono hb1.size)).size)).size)).trans (hb5.mono (((hb1.trans (hb2.mono hb1.size)).trans (hb3.mono (hb1.trans (hb2.mono hb1.size)).size)).trans (hb4.mono ((hb1.trans (hb2.mono hb1.size)).trans (hb3.mono (hb1.trans (hb2.mono hb1.size)).size)).size)).size)).trans (hb6.mono ((((hb1.trans (hb2.mono hb1.size)).trans (hb3.mono (hb1.trans (hb2.mono hb1.size)).size)).trans (hb4.mono ((hb1.trans (hb2.mono hb1.size)).trans (hb3.mono (hb1.trans (hb2.mono hb1.size)).size)).size)).trans (hb5.mono (((hb1.trans (hb2.mono hb1.size)).trans (hb3.mono (hb1.trans (hb2.mono hb1.size)).size)).trans (hb4.mono ((hb1.trans (hb2.mono hb1.size)).trans (hb3.mono (hb1.trans (hb2.mono hb1.size)).size)).size)).size)).size))).1
  refine wpAnyL_take' (i := 33) (v := ?_) (oi := { dst := some 80, op := Op.pick (Operand.tmp 75) (Operand.tmp 79) (Operand.const (Value.bool false)), type := 4, pos := "law.go:134", after := #[{ on := 28, ground := Ground.data }, { on := 32, ground := Ground.data }], guard := none }) rfl (by kernel_rfl) (by kernel_rfl) (by kernel_rfl) (by kernel_rfl) rfl (fun _ _ _ h => h) (Or.inl ⟨by rfl, ?_⟩) HS6 ?_
  rotate_left
  · intro W hSW
    go_simp
    try with_reducible rfl
  simp only [Act.put, List.setIfInBounds_toArray, List.set_cons_zero, List.set_cons_succ]
  refine wpAnyL_take' (i := 34) (v := ?_) (oi := { dst := some 0, op := Op.assign (Operand.tmp 80), type := 4, pos := "law.go:134", after := #[{ on := 33, ground := Ground.data }, { on := 32, ground := Ground.chain }, { on := 0, ground := Ground.phase }, { on := 1, ground := Ground.phase }, { on := 2, ground := Ground.phase }, { on := 3, ground := Ground.phase }, { on := 4, ground := Ground.phase }, { on := 5, ground := Ground.phase }, { on := 6, ground := Ground.phase }, { on := 7, ground := Ground.phase }, { on := 8, ground := Ground.phase }, { on := 9, ground := Ground.phase }, { on := 10, ground := Ground.phase }, { on := 11, ground := Ground.phase }, { on := 12, ground := Ground.phase }, { on := 13, ground := Ground.phase }, { on := 14, ground := Ground.phase }, { on := 15, ground := Ground.phase }, { on := 16, ground := Ground.phase }, { on := 17, ground := Ground.phase }, { on := 18, ground := Ground.phase }, { on := 19, ground := Ground.phase }, { on := 20, ground := Ground.phase }, { on := 21, ground := Ground.phase }, { on := 22, ground := Ground.phase }, { on := 23, ground := Ground.phase }, { on := 24, ground := Ground.phase }, { on := 25, ground := Ground.phase }, { on := 26, ground := Ground.phase }, { on := 27, ground := Ground.phase }, { on := 28, ground := Ground.phase }, { on := 29, ground := Ground.phase }, { on := 30, ground := Ground.phase }, { on := 31, ground := Ground.phase }, { on := 32, ground := Ground.phase }, { on := 33, ground := Ground.phase }], guard := none }) rfl (by kernel_rfl) (by kernel_rfl) (by kernel_rfl) (by kernel_rfl) rfl (fun _ _ _ h => h) (Or.inl ⟨by rfl, ?_⟩) HS6 ?_
  rotate_left
  · intro W hSW
    go_simp
    try with_reducible rfl
  simp only [Act.put, List.setIfInBounds_toArray, List.set_cons_zero]
  refine wpAnyL_done (by kernel_rfl) ?_ _
  go_wp2_with fail
  go_ret
  exact ⟨rfl, (HSB.out _ (((((hb1.trans (hb2.mono hb1.size)).trans (hb3.mono (hb1.trans (hb2.mono hb1.size)).size)).trans (hb4.mono ((hb1.trans (hb2.mono hb1.size)).trans (hb3.mono (hb1.trans (hb2.mono hb1.size)).size)).size)).trans (hb5.mono (((hb1.trans (hb2.mono hb1.size)).trans (hb3.mono (hb1.trans (hb2.mono hb1.size)).size)).trans (hb4.mono ((hb1.trans (hb2.mono hb1.size)).trans (hb3.mono (hb1.trans (hb2.mono hb1.size)).size)).size)).size)).trans (hb6.mono ((((hb1.trans (hb2.mono hb1.size)).trans (hb3.mono (hb1.trans (hb2.mono hb1.size)).size)).trans (hb4.mono ((hb1.trans (hb2.mono hb1.size)).trans (hb3.mono (hb1.trans (hb2.mono hb1.size)).size)).size)).trans (hb5.mono (((hb1.trans (hb2.mono hb1.size)).trans (hb3.mono (hb1.trans (hb2.mono hb1.size)).size)).trans (hb4.mono ((hb1.trans (hb2.mono hb1.size)).trans (hb3.mono (hb1.trans (hb2.mono hb1.size)).size)).size)).size)).size))).2.2.2⟩
end Go.Proofs.Ytdalomibilicfaa
