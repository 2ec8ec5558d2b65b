/- A tree among the arguments, opened. -/
import Derived.Test.YtoocafcagelbgaaRows
import Derived.Test.YtoocafcagelbgaaAOwn
import Derived.ProofKit
import Derived.OpenShut
import Derived.SizedLaws
import Derived.Lib.SmallJoins
import Derived.Deep.Slices
import Derived.Deep.Strs
import Derived.ChangeMaps5
namespace Go.Proofs.Ytoocafcagelbgaa
open Go.ChangeShapes Go.WideShapes Go.ChangeAt Go.RowKit Go.Joins Go.Deep

def zeroNd : Nd := .mk ⟨⟨#[]⟩, false, ⟨#[]⟩, 0, 0, 0⟩ []
theorem toList_len (s : ByteArray) : s.data.toList.length = s.size := by rw [Array.length_toList]; rfl
theorem own : ownKnob Try.prog.godebug = none := by kernel_rfl
theorem cellsNd : Try.prog.cellsOf 32 = 7 := by kernel_rfl
theorem cellsInt : Try.prog.cellsOf 3 = 1 := by kernel_rfl
theorem cellsStr : Try.prog.cellsOf 9 = 1 := by kernel_rfl
theorem cellsBool : Try.prog.cellsOf 4 = 1 := by kernel_rfl
theorem cellsNds : Try.prog.cellsOf 30 = 1 := by kernel_rfl
theorem bytesNd : Try.prog.bytesOf 32 = 88 := by kernel_rfl
theorem bytesInt : Try.prog.bytesOf 3 = 8 := by kernel_rfl
theorem laidOut : laidOutB Try.prog = true := by kernel_rfl
theorem cell_plain {W : World} {a : Addr} {v : Value} (h : W.cell? a = some v) : ∃ b off, a = ⟨b, off, none⟩ := by
  obtain ⟨b, off, spot⟩ := a
  have hs : spot = none := by simpa using World.cell?_spot h
  subst hs
  exact ⟨b, off, rfl⟩
theorem i64_of {a : Int} (w : (Lit.int .i64 a).wf = true) : i64B a := by
  have := bounds_i64 w
  exact ⟨this.1, this.2⟩
theorem seven_of : ∀ {l : List Value}, l.length = 7 → ∃ a b c d e f g, l = [a, b, c, d, e, f, g]
  | [a, b, c, d, e, f, g], _ => ⟨a, b, c, d, e, f, g, rfl⟩
theorem getR {α : Type} {l n : Nat} {q : Nat → α} (hl : l = n) {i : Nat} {x : α} (h : ((List.range l).map q)[i]? = some x) : i < n ∧ x = q i := by
  have hi : i < l := by
    have := (List.getElem?_eq_some_iff.1 h).1
    simpa using this
  rw [List.getElem?_map, List.getElem?_range hi] at h
  exact ⟨by omega, (Option.some.inj h).symm⟩
theorem bound_lt (f : Nat → Nat) : ∀ n, ∃ N, ∀ i, i < n → f i ≤ N
  | 0 => ⟨0, fun i hi => by omega⟩
  | n + 1 => by
    obtain ⟨N, hN⟩ := bound_lt f n
    exact ⟨max N (f n), fun i hi => by
      by_cases e : i = n
      · subst e; omega
      · have := hN i (by omega); omega⟩
variable {H : Type} {enc : TypeId × Value → H} {W : World}
theorem weights_all {P : Program} {e : TypeId} : ∀ {l : List (DataW H)} {x : DataW H}, x ∈ l → ∀ n ∈ x.weights P e, n ∈ DataW.weightsAll P e l
  | d :: r, x, h, n, hn => by
    rw [DataW.weightsAll, List.mem_append]
    rcases List.mem_cons.1 h with rfl | h
    · exact .inl hn
    · exact .inr (weights_all h n hn)
theorem weigh_slice {t e : TypeId} {l m : Nat} {D : Nat → DataW H} (hu : Try.prog.underlying t = some (.slice e)) (hlm : l ≤ m)
    (hw : ∀ n ∈ (DataW.slice ((List.range l).map D) ((List.range (m - l)).map fun j => D (l + j)) : DataW H).weights Try.prog t, n ≤ reachBytes) :
    m * Try.prog.bytesOf e ≤ reachBytes ∧ ∀ i, i < l → ∀ n ∈ (D i).weights Try.prog e, n ≤ reachBytes := by
  rw [DataW.weights, hu] at hw
  simp only at hw
  refine ⟨?_, fun i hi n hn => hw n ?_⟩
  · have := hw _ (List.mem_cons_self ..)
    simp only [List.length_map, List.length_range] at this
    rw [show l + (m - l) = m by omega] at this
    exact this
  · refine List.mem_cons_of_mem _ (List.mem_append.2 (.inl (weights_all (List.mem_map.2 ⟨i, List.mem_range.2 hi, rfl⟩) n hn)))
theorem trod_struct7 {P : Program} {w : World} {base : Nat} {spare : Nat → Bool} {held : Bool} {t : TypeId} {f0 f1 f2 f3 f4 f5 f6 : Field} {fuel : Nat} {cs : List Value} {x : DataW H × List MemPlace} (ht : P.underlying t = some (.struct #[f0, f1, f2, f3, f4, f5, f6])) (h : DataW.trod enc P w base spare held fuel t cs = some x) :
    ∃ y0 y1 y2 y3 y4 y5 y6 n, x.1 = .agg [y0.1, y1.1, y2.1, y3.1, y4.1, y5.1, y6.1] ∧ cs.length = P.cellsOf t ∧ DataW.trod enc P w base spare held n f0.type ((cs.drop f0.offset).take (P.cellsOf f0.type)) = some y0 ∧
      DataW.trod enc P w base spare held n f1.type ((cs.drop f1.offset).take (P.cellsOf f1.type)) = some y1 ∧ DataW.trod enc P w base spare held n f2.type ((cs.drop f2.offset).take (P.cellsOf f2.type)) = some y2 ∧
      DataW.trod enc P w base spare held n f3.type ((cs.drop f3.offset).take (P.cellsOf f3.type)) = some y3 ∧ DataW.trod enc P w base spare held n f4.type ((cs.drop f4.offset).take (P.cellsOf f4.type)) = some y4 ∧
      DataW.trod enc P w base spare held n f5.type ((cs.drop f5.offset).take (P.cellsOf f5.type)) = some y5 ∧ DataW.trod enc P w base spare held n f6.type ((cs.drop f6.offset).take (P.cellsOf f6.type)) = some y6 := by
  obtain ⟨xs, n, _, rfl, hl, hlen, hf⟩ := DataW.trod_struct ht h
  match xs, hlen with
  | [y0, y1, y2, y3, y4, y5, y6], _ => exact ⟨y0, y1, y2, y3, y4, y5, y6, n, by simp, hl, by simpa using hf 0 f0 rfl, by simpa using hf 1 f1 rfl, by simpa using hf 2 f2 rfl, by simpa using hf 3 f3 rfl, by simpa using hf 4 f4 rfl, by simpa using hf 5 f5 rfl, by simpa using hf 6 f6 rfl⟩

set_option maxRecDepth 100000 in
set_option maxHeartbeats 2000000 in
theorem open_nd : ∀ (k fuel : Nat) (cs : List Value) (x : DataW H × List MemPlace), SizeOf.sizeOf x.1 < k → (∀ n ∈ x.1.weights Try.prog 32, n ≤ reachBytes) →
    DataW.trod enc Try.prog W 0 (fun _ => true) true fuel 32 cs = some x → ∃ (n : Nat) (t : Nd) (ka : Option Addr) (kc : Nat), cs = cells7 t.h (.slice ka t.kids.length kc) ∧ TAt (fun _ => True) n t (ndV t.h (.slice ka t.kids.length kc)) W
  | 0, _, _, _, hk, _, _ => by omega
  | k + 1, fuel, cs, x, hk, hw, hf => by
    obtain ⟨y0, y1, y2, y3, y4, y5, y6, n, hy, hlen, g0, g1, g2, g3, g4, g5, g6⟩ := trod_struct7 Try.underlying32 hf
    rw [cellsNd] at hlen
    obtain ⟨v0, v1, v2, v3, v4, v5, v6, rfl⟩ := seven_of hlen
    simp [cellsInt, cellsStr, cellsBool, cellsNds] at g0 g1 g2 g3 g4 g5 g6
    obtain ⟨s0, e0, x0, _⟩ := DataW.trod_string Try.underlying9 g0
    obtain ⟨s1, e1, x1⟩ := DataW.trod_bool Try.underlying4 g1
    obtain ⟨s2, e2, x2, _⟩ := DataW.trod_string Try.underlying9 g2
    obtain ⟨s3, e3, x3, w3⟩ := DataW.trod_int Try.underlying3 g3
    obtain ⟨s4, e4, x4, w4⟩ := DataW.trod_int Try.underlying3 g4
    obtain ⟨s5, e5, x5, w5⟩ := DataW.trod_int Try.underlying3 g5
    simp at e0 e1 e2 e3 e4 e5
    subst e0 e1 e2 e3 e4 e5
    rw [hy, DataW.weights, Try.underlying32] at hw
    have hk0 : s0.size ≤ 140737488351232 := by
      have := hw s0.data.toList.length (by simp [DataW.weightsEach, x0, DataW.weights])
      unfold reachBytes at this
      rw [toList_len] at this
      omega
    have hk2 : s2.size ≤ 140737488351232 := by
      have := hw s2.data.toList.length (by simp [DataW.weightsEach, x2, DataW.weights])
      unfold reachBytes at this
      rw [toList_len] at this
      omega
    have ho : HdOk ⟨s0, s1, s2, s3, s4, s5⟩ := ⟨i64_of w3, i64_of w4, i64_of w5, hk0, hk2⟩
    have hsz : SizeOf.sizeOf y6.1 < k := by
      rw [hy] at hk
      simp only [DataW.agg.sizeOf_spec, List.cons.sizeOf_spec] at hk
      omega
    have hw6 : ∀ n ∈ y6.1.weights Try.prog 30, n ≤ reachBytes := fun n hn => hw n (by simp [DataW.weightsEach, hn])
    rcases open_slice Try.underlying30 g6 with ⟨hcs, _⟩ | ⟨a, l, c, m, nn, D, Pl, hcs, _, hl, hmx, hmm, hx, hel⟩
    · simp at hcs
      subst hcs
      exact ⟨1, .mk ⟨s0, s1, s2, s3, s4, s5⟩ [], none, 0, rfl, none, 0, rfl, ho, fun _ => rfl, Nat.le_refl _, Nat.zero_le _, fun i t ht => by simp [Nd.kids] at ht⟩
    · simp at hcs
      subst hcs
      have hm : m = c := by simpa using hmm
      subst hm
      rw [hx] at hw6
      have hwt := weigh_slice Try.underlying30 hl hw6
      rw [bytesNd] at hwt
      have hwb := hwt.1
      unfold reachBytes at hwb
      have each : ∀ i, i < l → ∃ q : Nat × Nd × Option Addr × Nat, (∀ j u, (cells7 q.2.1.h (.slice q.2.2.1 q.2.1.kids.length q.2.2.2))[j]? = some u → W.cell? (a.add (i * 7 + j)) = some u) ∧ TAt (fun _ => True) q.1 q.2.1 (ndV q.2.1.h (.slice q.2.2.1 q.2.1.kids.length q.2.2.2)) W := by
        intro i hi
        obtain ⟨cs', h1, h2⟩ := hel i (by omega)
        rw [cellsNd] at h1
        obtain ⟨_, hlen', hcell⟩ := World.cells?_some h1
        have hsd : SizeOf.sizeOf (D i) < k := by
          have hmem : D i ∈ (List.range l).map D := List.mem_map.2 ⟨i, List.mem_range.2 hi, rfl⟩
          have h3 := List.sizeOf_lt_of_mem hmem
          rw [hx] at hsz
          simp only [DataW.slice.sizeOf_spec] at hsz
          omega
        obtain ⟨n', t', ka, kc, rfl, hT⟩ := open_nd k nn cs' (D i, Pl i) hsd (hwt.2 i hi) h2
        refine ⟨(n', t', ka, kc), fun j u hj => ?_, hT⟩
        have hjl : j < 7 := by have := (List.getElem?_eq_some_iff.1 hj).1; simpa [cells7] using this
        have q0 := hcell j hjl
        rw [add_add] at q0
        rw [q0]
        exact hj
      haveI : Inhabited Nd := ⟨zeroNd⟩
      obtain ⟨q, hq⟩ := choose_lt each
      obtain ⟨N, hN⟩ := bound_lt (fun i => (q i).1) l
      have hlm : ((List.range l).map fun i => (q i).2.1).length = l := by simp
      have ha : l ≠ 0 → ∃ b off, a = ⟨b, off, none⟩ ∧ b < W.heap.size := fun hl0 => by
        have hc' := (hq 0 (by omega)).1 0 _ rfl
        simp only [Nat.zero_mul, Nat.add_zero, Addr.add] at hc'
        have hc2 : W.cell? a = some (.string (q 0).2.1.h.kind) := by simpa using hc'
        obtain ⟨b, off, e⟩ := cell_plain hc2
        exact ⟨b, off, e, by rw [e] at hc2; exact World.block_lt_of_cell? W _ hc2⟩
      refine ⟨N + 1, .mk ⟨s0, s1, s2, s3, s4, s5⟩ ((List.range l).map fun i => (q i).2.1), some a, m, by simp only [Nd.kids, Nd.h, hlm]; rfl, some a, m, rfl, ho, (fun h => by cases h), by simp only [Nd.kids, hlm]; exact hl, by simp only [Nd.kids, hlm]; omega, fun i t' ht => ?_⟩
      obtain ⟨hi, rfl⟩ := getR rfl ht
      obtain ⟨hc, hT⟩ := hq i hi
      obtain ⟨b, off, rfl, hbl⟩ := ha (by omega)
      have hcc : ∀ j u, (cells7 (q i).2.1.h (.slice (q i).2.2.1 (q i).2.1.kids.length (q i).2.2.2))[j]? = some u → W.cell? ⟨b, off + i * 7 + j, none⟩ = some u := fun j u hj => by
        have := hc j u hj
        rw [add_plain] at this
        rw [Nat.add_assoc]
        exact this
      exact ⟨b, off, _, _, rfl, trivial, hbl, ⟨hcc 0 _ rfl, hcc 1 _ rfl, hcc 2 _ rfl, hcc 3 _ rfl, hcc 4 _ rfl, hcc 5 _ rfl, hcc 6 _ rfl⟩, hT.more (hN i hi)⟩
theorem open_node {r : Reach} {b0 : Nat} {v : Value} {d : DataW H} {p : List MemPlace} (hv : Value.okWide Try.prog W r b0 32 v) (h : DataW.Trod enc Try.prog W 0 (fun _ => true) true 32 v d p) (hw : ∀ n ∈ d.weights Try.prog 32, n ≤ reachBytes) :
    ∃ (n : Nat) (t : Nd), TAt (fun _ => True) n t v W := by
  obtain ⟨cs, rfl, hsz⟩ := okWide_struct Try.underlying32 hv
  obtain ⟨fuel, hf⟩ := h
  obtain ⟨n, t, ka, kc, e, hT⟩ := open_nd _ _ _ (d, p) (Nat.lt_succ_self _) hw hf
  have e2 : cs = (cells7 t.h (.slice ka t.kids.length kc)).toArray := by
    apply Array.toList_inj.1
    simpa [Value.cells] using e
  refine ⟨n, t, ?_⟩
  rw [e2]
  exact hT
end Go.Proofs.Ytoocafcagelbgaa
