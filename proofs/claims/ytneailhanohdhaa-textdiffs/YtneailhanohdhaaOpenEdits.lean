/- A row of edits among the arguments, opened: what it holds as cells, and how long its texts are. -/
import Derived.Test.YtneailhanohdhaaOpen
import Derived.Test.YtneailhanohdhaaAlls
import Derived.Deep.Slices
import Derived.Deep.Strs
namespace Go.Proofs.Ytneailhanohdhaa
open Go.ChangeShapes Go.WideShapes Go.ChangeAt Go.RowKit Go.Joins Go.Deep

theorem bytes36 : Try.prog.bytesOf 36 = 32 := by kernel_rfl

theorem weights_all {H : Type} {P : Program} {e : TypeId} : ∀ {l : List (DataW H)} {x : DataW H}, x ∈ l → ∀ n ∈ x.weights P e, n ∈ DataW.weightsAll P e l
  | d :: r, x, hx, n, hn => by
    rw [DataW.weightsAll, List.mem_append]
    rcases List.mem_cons.1 hx with rfl | h
    · exact .inl hn
    · exact .inr (weights_all h n hn)

theorem cell_plain {W : World} {a : Addr} {v : Value} (h : W.cell? a = some v) : ∃ b off, a = ⟨b, off, none⟩ := by
  obtain ⟨b, off, spot⟩ := a
  have hs : spot = none := by simpa using World.cell?_spot h
  subst hs
  exact ⟨b, off, rfl⟩

theorem open_edits {H : Type} {enc : TypeId × Value → H} {W : World} {ts : List TypeId} {ds : List (DataW H)} {j : Nat} {v : Value} {d : DataW H} {p : List MemPlace} {len cap : Nat} {ao : Option Addr}
    (hsz : (DataW.weightsEach Try.prog ts ds).all (· ≤ reachBytes) = true) (hj : ts[j]? = some 50) (hd : ds[j]? = some d) (hv : v = .slice ao len cap)
    (h : DataW.Trod enc Try.prog W 0 (fun _ => true) true 50 v d p) :
    ∃ es : List Ed, es.length = len ∧ (∀ e ∈ es, e.Ok) ∧ es.length ≤ 140737488351232 ∧ (es = [] ∨ ∃ b off, ao = some ⟨b, off, none⟩ ∧ EdCells b off es W) := by
  subst hv
  obtain ⟨fuel, hf⟩ := h
  rcases open_slice Try.underlying50 hf with ⟨hcs, _⟩ | ⟨a, l, c, m, n, D, Pl, hcs, _, hl, _, hmm, hx, hel⟩
  · simp [Value.cells] at hcs
    obtain ⟨_, rfl, _⟩ := hcs
    exact ⟨[], rfl, by simp, by simp, .inl rfl⟩
  · simp [Value.cells] at hcs
    obtain ⟨rfl, rfl, rfl⟩ := hcs
    simp only [Prod.mk.injEq] at hx
    have hdd := hx.1
    have hlm : len ≤ m := by rw [hmm]; simpa using hl
    have hlen := sized_slice hsz hj (by rw [hd, hdd]) Try.underlying50
    rw [bytes36] at hlen
    simp [reachBytes] at hlen
    have each : ∀ i, i < len → ∃ q : Int × Int × ByteArray, (Ed.mk q.1 q.2.1 q.2.2).Ok ∧ W.cell? (a.add (i * 3)) = some (.int .i64 q.1) ∧ W.cell? (a.add (i * 3 + 1)) = some (.int .i64 q.2.1) ∧ W.cell? (a.add (i * 3 + 2)) = some (.string q.2.2) := by
      intro i hi
      obtain ⟨cs', h1, h2⟩ := hel i (by omega)
      rw [cells36] at h1
      obtain ⟨_, hlen', hcell⟩ := World.cells?_some h1
      obtain ⟨y0, y1, y2, k, hy, _, g0, g1, g2⟩ := trod_struct3 Try.underlying36 h2
      match cs', hlen' with
      | [v0, v1, v2], _ =>
        have k3 : Try.prog.cellsOf 3 = 1 := by kernel_rfl
        have k9 : Try.prog.cellsOf 9 = 1 := by kernel_rfl
        simp [k3, k9] at g0 g1 g2
        obtain ⟨x0, e0, rfl, w0⟩ := DataW.trod_int Try.underlying3 g0
        obtain ⟨x1, e1, rfl, w1⟩ := DataW.trod_int Try.underlying3 g1
        obtain ⟨x2, e2, rfl, w2⟩ := DataW.trod_string Try.underlying9 g2
        simp at e0 e1 e2
        subst e0 e1 e2
        have q0 := hcell 0 (by omega)
        have q1 := hcell 1 (by omega)
        have q2 := hcell 2 (by omega)
        rw [add_add] at q0 q1 q2
        simp only [Prod.mk.injEq] at hy
        refine ⟨(x0, x1, x2), ⟨i64_of w0, i64_of w1, ?_⟩, by simpa using q0, by simpa using q1, by simpa using q2⟩
        have hm := List.all_eq_true.1 hsz _ (DataW.weights_mem_each hj hd x2.data.toList.length ?_)
        · have h3 : x2.data.toList.length ≤ reachBytes := of_decide_eq_true hm
          simpa [reachBytes] using h3
        · rw [hdd, DataW.weights, Try.underlying50]
          simp only [List.mem_cons, List.mem_append]
          refine .inr (.inl (weights_all (x := D i) (List.mem_map.2 ⟨i, List.mem_range.2 hi, rfl⟩) _ ?_))
          rw [hy.1]
          simp [DataW.weights, Try.underlying36, DataW.weightsEach]
    obtain ⟨q, hq⟩ := choose_lt each
    refine ⟨(List.range len).map fun i => Ed.mk (q i).1 (q i).2.1 (q i).2.2, by simp, ?_, by simp; omega, ?_⟩
    · intro e he
      obtain ⟨i, hi, rfl⟩ := List.mem_map.1 he
      exact (hq i (List.mem_range.1 hi)).1
    · by_cases h0 : len = 0
      · exact .inl (by simp [h0])
      · right
        have hc := (hq 0 (by omega)).2.1
        have hc' : W.cell? a = some (.int .i64 (q 0).1) := by simpa [Addr.add] using hc
        obtain ⟨b, off, rfl⟩ := cell_plain hc'
        refine ⟨b, off, rfl, fun i e he => ?_⟩
        have hi : i < len := by
          have := (List.getElem?_eq_some_iff.1 he).1
          simpa using this
        obtain rfl : e = Ed.mk (q i).1 (q i).2.1 (q i).2.2 := by
          rw [List.getElem?_map, List.getElem?_range hi] at he
          exact (Option.some.inj he).symm
        obtain ⟨_, c0, c1, c2⟩ := hq i hi
        rw [add_plain] at c0 c1 c2
        exact ⟨World.block_lt_of_cell? W _ hc', c0, c1, c2⟩
end Go.Proofs.Ytneailhanohdhaa
