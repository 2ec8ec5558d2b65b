/- A builder opened, told; a root turned. -/
import Derived.Test.YtoocafcagelbgaaPKeeps
import Derived.Test.YtoocafcagelbgaaPLay
import Derived.Test.YtoocafcagelbgaaPOpenA
namespace Go.Proofs.Ytoocafcagelbgaa
open Go.RowKit

theorem ar_slots {a : Ar} {v : Value} {w : World} (h : ArV a v w) : ∀ s ∈ a.slots, SlOk s := fun s hs => by
  obtain ⟨_, _, _, ⟨_, _, _, h1, _⟩, _⟩ := h
  obtain ⟨i, hi, rfl⟩ := List.getElem_of_mem hs
  obtain ⟨_, _, _, _, _, _, _, _, _, _, h2⟩ := h1 i _ (List.getElem?_eq_getElem hi)
  exact h2
section
variable {B bb mb : Nat} {S : St} {sv rv : Value} {L : List Sv} {W : World}
/-- What a builder holds, as an arena. -/
theorem Bld.out (h : Bld B bb mb S sv rv L W) (hs : S.sl.length ≤ 4096) (hf : i64B S.free) (hr : ∀ y ∈ S.roots, i64B y) (hrl : S.roots.length ≤ 1000000) : ArV S.ar (.agg #[sv, .int .i64 S.free, rv]) W := by
  have e : L.map Prod.fst = S.ar.slots := h.lst
  exact ⟨sv, rv, rfl, by rw [← e]; exact h.own.sl (by rw [h.len]; omega), sli_own h.rt hr, hf, by show S.roots.length ≤ _; omega⟩
/-- A root turned. -/
theorem Bld.rooted {g c n j : Nat} {x : Int} (h : Bld B bb mb S sv (.slice (some ⟨g, 0, none⟩) n c) L W) : Bld B bb mb { S with roots := S.roots.set j x } sv (.slice (some ⟨g, 0, none⟩) n c) L (W.setCell ⟨g, j, none⟩ (.int .i64 x)) := by
  have B1 : But (fun k => k = g) W (W.setCell ⟨g, j, none⟩ (.int .i64 x)) := (But.refl _ _).setCell _ _ (.inr rfl)
  obtain ⟨cs, hcs⟩ := own_is_cells h.rt (j := g) rfl
  obtain ⟨m, hm, hM⟩ := h.map
  refine ⟨but_blk B1 h.box (fun e => ?_), ⟨m, hm, hM.but B1 (fun e => ?_)⟩, h.lst, ⟨ownsRow_keep h.own.row B1 (fun k hk e => own_nb h.own.row hcs (by decide) (by rw [← e]; exact hk)), fun q hq => ownsRow_keep (h.own.kids q hq) B1 (fun k hk e => h.part q hq g rfl (by rw [← e]; exact hk)), h.own.ok⟩, ?_, h.part, h.lo⟩
  · exact own_nb h.rt h.box (by decide) (by rw [e]; rfl)
  · rw [e] at hM; exact hM.notCells _ _ _ hcs
  · have hn : n = S.roots.length := by
      obtain ⟨a, c', e⟩ := slice_of_ownK h.rt
      simp only [Value.slice.injEq] at e
      exact e.2.1
    subst hn
    have r0 : W.ownsRow B 3 1 (.slice (some ⟨g, 0, none⟩) S.roots.length c) S.roots.length (S.roots.map encI) := h.rt
    have r := (World.ownsRow.stored r0 j (.int .i64 x)).1
    show World.ownsRow _ _ _ _ _ (S.roots.set j x).length ((S.roots.set j x).map encI)
    rw [List.map_set, List.length_set]
    exact r
end
theorem Bld.of_open {B bb : Nat} {a : Ar} {most : Nat} {L : List Sv} {bv : Value} {W W' : World} (hfit : fitAB a most = true) (h : BldR B a L bv W) (hb : Below W.heap.size W W') (hB : B ≤ bb)
    (hbb : ∀ sa sc ra rc mb, bv = .agg #[.slice sa a.slots.length sc, .int .i64 a.free, .slice ra a.roots.length rc, .map (some mb)] → W'.heap[bb]? = some (Obj.cells #[.slice sa a.slots.length sc, .int .i64 a.free, .slice ra a.roots.length rc, .map (some mb)] 77)) :
    ∃ sa sc ra rc mb, bv = .agg #[.slice sa a.slots.length sc, .int .i64 a.free, .slice ra a.roots.length rc, .map (some mb)] ∧ Bld B bb mb (toSt a) (.slice sa a.slots.length sc) (.slice ra a.roots.length rc) L W' := by
  obtain ⟨sa, sc, ra, rc, mb, rfl, h1, h2, h3, h4, h5, h6⟩ := h
  have ha := toSt_ar hfit
  have hf : (toSt a).free = a.free := congrArg Ar.free ha
  have hs : (toSt a).sl.map SN.sl = a.slots := congrArg Ar.slots ha
  refine ⟨sa, sc, ra, rc, mb, rfl, by rw [hf]; exact hbb _ _ _ _ _ rfl, ⟨_, Nat.le_refl _, h5.next hb⟩, by rw [hs]; exact h1, h2.next hb, ownsRow_below4 h3 hb, h4, hB, h6⟩
end Go.Proofs.Ytoocafcagelbgaa
