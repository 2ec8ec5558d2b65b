/- A tree among the arguments, opened, with how many letters it has at most; how long its text is. -/
import Derived.Test.YthmpnhjlblcgdaaLOpen
namespace Go.Proofs.Ythmpnhjlblcgdaa
open Go.ChangeShapes Go.WideShapes Go.ChangeAt Go.RowKit Go.Joins Go.Deep

mutual
def strN : Nd → Nat
  | .mk h l => h.kind.size + h.field.size + strL l
def strL : List Nd → Nat
  | [] => 0
  | t :: l => strN t + strL l
 end
theorem strN_mk (t : Nd) : strN t = t.h.kind.size + t.h.field.size + strL t.kids := by cases t; simp [strN, Nd.h, Nd.kids]
theorem kidsP_str (l : List Nd) (h : ∀ k ∈ l, (printN k).length + 1 ≤ strN k + 13 * cntN k) : ∀ a : List UInt8, a.length ≤ 1 → (kidsP a l).length ≤ strL l + 13 * cntL l := by
  induction l with
  | nil => intro a _; simp [kidsP]
  | cons t l ih =>
    intro a ha
    have h1 := h t (by simp)
    have h2 := ih (fun k hk => h k (by simp [hk])) [32] (by simp)
    simp only [kidsP, strL, cntL, List.length_append]
    omega
theorem print_len (t : Nd) : (printN t).length + 1 ≤ strN t + 13 * cntN t := by
  induction t using nd_ind with
  | h t ih =>
    have k1 := kidsP_str t.kids ih [32] (by simp)
    have k2 := kidsP_str t.kids ih [91] (by simp)
    have hf : (fieldP t.h).length ≤ t.h.field.size + 2 := by
      unfold fieldP
      split
      · simp
      · simp only [List.length_append, toList_len, List.length_cons, List.length_nil]; omega
    rw [printN_mk, strN_mk, cntN_mk]
    rw [List.length_append]
    split
    · simp only [List.length_append, toList_len, List.length_cons, List.length_nil]; omega
    · split
      · simp only [List.length_append, toList_len, List.length_cons, List.length_nil]; omega
      · have h3 : ((if t.kids.length = 0 then [] else [93] : List UInt8)).length ≤ 1 := by split <;> simp
        simp only [List.length_append, toList_len]; omega
variable {H : Type} {enc : TypeId × Value → H} {W : World}
theorem strL_bulk (g : Nat → Nd) (D : Nat → DataW H) (l : List Nat) (h : ∀ i ∈ l, strN (g i) ≤ Rows.uptoBulk (D i)) : strL (l.map g) ≤ Rows.uptoBulkAll (l.map D) := by
  induction l with
  | nil => simp [strL]
  | cons a l ih =>
    have h1 := h a (by simp)
    have h2 := ih (fun i hi => h i (by simp [hi]))
    simp only [List.map_cons, strL, Rows.uptoBulkAll]
    omega
set_option maxRecDepth 100000 in
set_option maxHeartbeats 2000000 in
theorem open_ndu : ∀ (k fuel : Nat) (cs : List Value) (x : DataW H × List MemPlace), SizeOf.sizeOf x.1 < k → (∀ n ∈ x.1.weights Try.prog 24, n ≤ reachBytes) →
    DataW.trod enc Try.prog W 0 (fun _ => true) true fuel 24 cs = some x → ∃ (n : Nat) (t : Nd) (ka : Option Addr) (kc : Nat), cs = cells7 t.h (.slice ka t.kids.length kc) ∧ TAt (fun _ => True) n t (ndV t.h (.slice ka t.kids.length kc)) W ∧ strN t ≤ Rows.uptoBulk x.1
  | 0, _, _, _, hk, _, _ => by omega
  | k + 1, fuel, cs, x, hk, hw, hf => by
    obtain ⟨y0, y1, y2, y3, y4, y5, y6, n, hy, hlen, g0, g1, g2, g3, g4, g5, g6⟩ := trod_struct7 Try.underlying24 hf
    rw [cellsNd] at hlen
    obtain ⟨v0, v1, v2, v3, v4, v5, v6, rfl⟩ := seven_of hlen
    simp [cellsInt, cellsStr, cellsBool, cellsNds] at g0 g1 g2 g3 g4 g5 g6
    obtain ⟨s0, e0, x0, _⟩ := DataW.trod_string Try.underlying9 g0
    obtain ⟨s1, e1, x1⟩ := DataW.trod_bool Try.underlying4 g1
    obtain ⟨s2, e2, x2, _⟩ := DataW.trod_string Try.underlying9 g2
    obtain ⟨s3, e3, x3, w3⟩ := DataW.trod_int Try.underlying3 g3
    obtain ⟨s4, e4, x4, w4⟩ := DataW.trod_int Try.underlying3 g4
    obtain ⟨s5, e5, x5, w5⟩ := DataW.trod_int Try.underlying3 g5
    simp at e0 e1 e2 e3 e4 e5
    subst e0 e1 e2 e3 e4 e5
    rw [hy, DataW.weights, Try.underlying24] at hw
    have hk0 : s0.size ≤ 140737488351232 := by
      have := hw s0.data.toList.length (by simp [DataW.weightsEach, x0, DataW.weights])
      unfold reachBytes at this
      rw [toList_len] at this
      omega
    have hk2 : s2.size ≤ 140737488351232 := by
      have := hw s2.data.toList.length (by simp [DataW.weightsEach, x2, DataW.weights])
      unfold reachBytes at this
      rw [toList_len] at this
      omega
    have ho : HdOk ⟨s0, s1, s2, s3, s4, s5⟩ := ⟨i64_of w3, i64_of w4, i64_of w5, hk0, hk2⟩
    have hbulk : Rows.uptoBulk x.1 = (s0.size + 1) + Rows.uptoBulk y1.1 + (s2.size + 1) + Rows.uptoBulk y3.1 + Rows.uptoBulk y4.1 + Rows.uptoBulk y5.1 + Rows.uptoBulk y6.1 + 1 := by
      rw [hy, x0, x2]
      simp only [Rows.uptoBulk, Rows.uptoBulkAll, toList_len]
      omega
    have hsz : SizeOf.sizeOf y6.1 < k := by
      rw [hy] at hk
      simp only [DataW.agg.sizeOf_spec, List.cons.sizeOf_spec] at hk
      omega
    have hw6 : ∀ n ∈ y6.1.weights Try.prog 22, n ≤ reachBytes := fun n hn => hw n (by simp [DataW.weightsEach, hn])
    rcases open_slice Try.underlying22 g6 with ⟨hcs, _⟩ | ⟨a, l, c, m, nn, D, Pl, hcs, _, hl, hmx, hmm, hx, hel⟩
    · simp at hcs
      subst hcs
      refine ⟨1, .mk ⟨s0, s1, s2, s3, s4, s5⟩ [], none, 0, rfl, ⟨none, 0, rfl, ho, fun _ => rfl, Nat.le_refl _, Nat.zero_le _, fun i t ht => by simp [Nd.kids] at ht⟩, ?_⟩
      rw [hbulk]
      simp only [strN, strL]
      omega
    · simp at hcs
      subst hcs
      have hm : m = c := by simpa using hmm
      subst hm
      rw [hx] at hw6
      have hwt := weigh_slice Try.underlying22 hl hw6
      rw [bytesNd] at hwt
      have hwb := hwt.1
      unfold reachBytes at hwb
      have each : ∀ i, i < l → ∃ q : Nat × Nd × Option Addr × Nat, strN q.2.1 ≤ Rows.uptoBulk (D i) ∧ (∀ j u, (cells7 q.2.1.h (.slice q.2.2.1 q.2.1.kids.length q.2.2.2))[j]? = some u → W.cell? (a.add (i * 7 + j)) = some u) ∧ TAt (fun _ => True) q.1 q.2.1 (ndV q.2.1.h (.slice q.2.2.1 q.2.1.kids.length q.2.2.2)) W := by
        intro i hi
        obtain ⟨cs', h1, h2⟩ := hel i (by omega)
        rw [cellsNd] at h1
        obtain ⟨_, hlen', hcell⟩ := World.cells?_some h1
        have hsd : SizeOf.sizeOf (D i) < k := by
          have hmem : D i ∈ (List.range l).map D := List.mem_map.2 ⟨i, List.mem_range.2 hi, rfl⟩
          have h3 := List.sizeOf_lt_of_mem hmem
          rw [hx] at hsz
          simp only [DataW.slice.sizeOf_spec] at hsz
          omega
        obtain ⟨n', t', ka, kc, rfl, hT, hstr⟩ := open_ndu k nn cs' (D i, Pl i) hsd (hwt.2 i hi) h2
        refine ⟨(n', t', ka, kc), hstr, fun j u hj => ?_, hT⟩
        have hjl : j < 7 := by have := (List.getElem?_eq_some_iff.1 hj).1; simpa [cells7] using this
        have q0 := hcell j hjl
        rw [add_add] at q0
        rw [q0]
        exact hj
      haveI : Inhabited Nd := ⟨zeroN⟩
      obtain ⟨q, hq⟩ := choose_lt each
      obtain ⟨N, hN⟩ := bound_lt (fun i => (q i).1) l
      have hlm : ((List.range l).map fun i => (q i).2.1).length = l := by simp
      have ha : l ≠ 0 → ∃ b off, a = ⟨b, off, none⟩ ∧ b < W.heap.size := fun hl0 => by
        have hc' := (hq 0 (by omega)).2.1 0 _ rfl
        simp only [Nat.zero_mul, Nat.add_zero, Addr.add] at hc'
        have hc2 : W.cell? a = some (.string (q 0).2.1.h.kind) := by simpa using hc'
        obtain ⟨b, off, e⟩ := cell_plain hc2
        exact ⟨b, off, e, by rw [e] at hc2; exact World.block_lt_of_cell? W _ hc2⟩
      refine ⟨N + 1, .mk ⟨s0, s1, s2, s3, s4, s5⟩ ((List.range l).map fun i => (q i).2.1), some a, m, by simp only [Nd.kids, Nd.h, hlm]; rfl, ⟨some a, m, rfl, ho, (fun h => by cases h), by simp only [Nd.kids, hlm]; exact hl, by simp only [Nd.kids, hlm]; omega, fun i t' ht => ?_⟩, ?_⟩
      rotate_left
      · have hs6 := strL_bulk (fun i => (q i).2.1) D (List.range l) (fun i hi => (hq i (List.mem_range.1 hi)).1)
        have hx1 : Rows.uptoBulk y6.1 = Rows.uptoBulkAll ((List.range l).map D) + Rows.uptoBulkAll ((List.range (m - l)).map fun j => D (l + j)) + 1 := by rw [hx]; simp only [Rows.uptoBulk]
        rw [hbulk, hx1]
        simp only [strN]
        omega
      obtain ⟨hi, rfl⟩ := getR rfl ht
      obtain ⟨_, hc, hT⟩ := hq i hi
      obtain ⟨b, off, rfl, hbl⟩ := ha (by omega)
      have hcc : ∀ j u, (cells7 (q i).2.1.h (.slice (q i).2.2.1 (q i).2.1.kids.length (q i).2.2.2))[j]? = some u → W.cell? ⟨b, off + i * 7 + j, none⟩ = some u := fun j u hj => by
        have := hc j u hj
        rw [add_plain] at this
        rw [Nat.add_assoc]
        exact this
      exact ⟨b, off, _, _, rfl, trivial, hbl, ⟨hcc 0 _ rfl, hcc 1 _ rfl, hcc 2 _ rfl, hcc 3 _ rfl, hcc 4 _ rfl, hcc 5 _ rfl, hcc 6 _ rfl⟩, hT.more (hN i hi)⟩
theorem open_nodeu {r : Reach} {b0 : Nat} {v : Value} {d : DataW H} {p : List MemPlace} (hv : Value.okWide Try.prog W r b0 24 v) (h : DataW.Trod enc Try.prog W 0 (fun _ => true) true 24 v d p) (hw : ∀ n ∈ d.weights Try.prog 24, n ≤ reachBytes) :
    ∃ (n : Nat) (t : Nd), TAt (fun _ => True) n t v W ∧ strN t ≤ Rows.uptoBulk d := by
  obtain ⟨cs, rfl, hsz⟩ := okWide_struct Try.underlying24 hv
  obtain ⟨fuel, hf⟩ := h
  obtain ⟨n, t, ka, kc, e, hT, hstr⟩ := open_ndu _ _ _ (d, p) (Nat.lt_succ_self _) hw hf
  have e2 : cs = (cells7 t.h (.slice ka t.kids.length kc)).toArray := by
    apply Array.toList_inj.1
    simpa [Value.cells] using e
  refine ⟨n, t, ?_, hstr⟩
  rw [e2]
  exact hT
end Go.Proofs.Ythmpnhjlblcgdaa
