/- A row of numbers among the arguments, opened: how many bytes it has. -/
import Derived.Test.YtmkkjjhlppagpaaLOpen
namespace Go.Proofs.Ytmkkjjhlppagpaa
open Go.ChangeShapes Go.WideShapes Go.ChangeAt Go.RowKit Go.Joins Go.Deep

theorem open_row8 {H : Type} {enc : TypeId × Value → H} {W : World} {r : Reach} {b0 : Nat} {v : Value} {d : DataW H} {p : List MemPlace} (hv : Value.okWide Try.prog W r b0 25 v) (h : DataW.Trod enc Try.prog W 0 (fun _ => true) true 25 v d p) (hw : ∀ n ∈ d.weights Try.prog 25, n ≤ reachBytes) :
    ∃ (pp : List Int), SlP pp v W ∧ pp.length * 8 ≤ 140737488351232 := by
  obtain ⟨ao, la, ca, rfl⟩ := okWide_slice Try.underlying25 hv
  obtain ⟨fuel, hf⟩ := h
  rcases open_slice Try.underlying25 hf with ⟨hcs, _⟩ | ⟨a, l, c, m, n, D, Pl, hcs, _, hl, hmx, hmm, hx, hel⟩
  · simp [Value.cells] at hcs
    obtain ⟨rfl, rfl, rfl⟩ := hcs
    exact ⟨[], SlP.nil W, by simp⟩
  · simp [Value.cells] at hcs
    obtain ⟨rfl, rfl, rfl⟩ := hcs
    have hm : m = ca := by simpa using hmm
    subst hm
    simp only [Prod.mk.injEq] at hx
    rw [hx.1] at hw
    have hwt := (weigh_slice Try.underlying25 hl hw).1
    rw [bytesInt] at hwt
    unfold reachBytes at hwt
    have each : ∀ i, i < la → ∃ q : Int, W.cell? (a.add i) = some (.int .i64 q) := by
      intro i hi
      obtain ⟨cs', h1, h2⟩ := hel i (by omega)
      rw [cellsInt] at h1
      obtain ⟨_, hlen', hcell⟩ := World.cells?_some h1
      obtain ⟨x0, e0, _, w0⟩ := DataW.trod_int Try.underlying3 h2
      subst e0
      have q0 := hcell 0 (by omega)
      rw [add_add] at q0
      exact ⟨x0, by simpa using q0⟩
    obtain ⟨q, hq⟩ := choose_lt each
    refine ⟨(List.range la).map q, ⟨some a, m, by simp, fun i r hr => ?_, (fun h => by cases h), by simp; exact hl, by unfold maxLen at hmx; omega⟩, by simp; omega⟩
    obtain ⟨hi, rfl⟩ := getR rfl hr
    have c0 := hq i hi
    have hc' : W.cell? a = some (.int .i64 (q 0)) := by simpa [Addr.add] using hq 0 (by omega)
    obtain ⟨b, off, rfl⟩ := cell_plain hc'
    rw [add_plain] at c0
    exact ⟨b, off, rfl, World.block_lt_of_cell? W _ hc', c0⟩
end Go.Proofs.Ytmkkjjhlppagpaa
