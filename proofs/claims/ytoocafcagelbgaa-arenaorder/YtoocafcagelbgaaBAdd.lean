/- A builder: roots joined. -/
import Derived.Test.YtoocafcagelbgaaPDrop
namespace Go.Proofs.Ytoocafcagelbgaa
open Go.RowKit

theorem putS_roots (S : St) (h : Hd) (ks : List Nat) : (putS S h ks).1.roots = S.roots := by
  unfold putS
  cases S.F (keyH h (intL ks)) with
  | some p => rfl
  | none =>
    simp only
    cases ht : takeS S with
    | none => rfl
    | some x =>
      obtain ⟨S2, p⟩ := x
      simp only
      unfold takeS at ht
      split at ht
      · cases ht; rfl
      · split at ht
        · cases ht
        · cases ht; rfl
mutual
theorem layN_roots : ∀ (t : Nd) (S : St) (b : Int), (layN t S b).1.roots = S.roots
  | .mk h l, S, b => by
    simp only [layN]
    have hl := layL_roots l S h.frm
    rcases he : layL l S h.frm with ⟨S1, _ | ks⟩
    · rw [he] at hl; exact hl
    · rw [he] at hl
      simp only at hl ⊢
      rw [putS_roots, hl]
theorem layL_roots : ∀ (l : List Nd) (S : St) (b : Int), (layL l S b).1.roots = S.roots
  | [], S, b => by simp only [layL]
  | t :: l, S, b => by
    simp only [layL]
    have ht := layN_roots t S b
    rcases he : layN t S b with ⟨S1, _ | p⟩
    · rw [he] at ht; exact ht
    · rw [he] at ht
      simp only at ht ⊢
      have hl := layL_roots l S1 b
      rcases hf : layL l S1 b with ⟨S2, _ | ks⟩
      · rw [hf] at hl; simp only at hl ⊢; rw [hl, ht]
      · rw [hf] at hl; simp only at hl ⊢; rw [hl, ht]
end
section
variable {B bb mb : Nat} {S : St} {sv rv : Value} {L : List Sv} {W : World}
theorem Bld.lower {B' : Nat} (h : Bld B bb mb S sv rv L W) (hb : B' ≤ B) : Bld B' bb mb S sv rv L W :=
  ⟨h.box, h.map, h.lst, h.own.mono hb, own_mono h.rt hb, h.part, by have := h.lo; omega⟩
/-- A root joined. -/
theorem Bld.joined {x : Int} {W1 W2 : World} {rv2 : Value} (h : Bld B bb mb S sv rv L W) (hBA : Below W.heap.size W W1) (o1 : W2.ownsRow B 3 1 rv2 (S.roots.length + 1) (S.roots.map encI ++ [.int .i64 x])) (o2 : W1.grownBy W2 rv.ownBlock) (o4 : rv2.ownBlock = rv.ownBlock ∨ rv2.ownBlock = some W1.heap.size) :
    Bld B bb mb { S with roots := S.roots ++ [x] } sv rv2 L (W2.setCell ⟨bb, 2, none⟩ rv2) ∧ W2.heap[bb]? = some (Obj.cells #[sv, .int .i64 S.free, rv, .map (some mb)] 77) ∧ But (fun k => rv.ownBlock = some k ∨ k = bb) W (W2.setCell ⟨bb, 2, none⟩ rv2) := by
  have BG : But (fun k => rv.ownBlock = some k) W W2 := (But.of_next (D := fun k => rv.ownBlock = some k) hBA).trans ⟨o2.os, o2.tape, o2.output, o2.size, fun k hk hd => o2.block k hk (fun e => hd e.symm)⟩
  have kb2 := but_blk BG h.box (own_nb h.rt h.box (by decide))
  have B1 : But (fun k => k = bb) W2 (W2.setCell ⟨bb, 2, none⟩ rv2) := (But.refl _ _).setCell _ _ (.inr rfl)
  obtain ⟨n, hn, hm⟩ := h.map
  have hm2 : MapF mb S.F n W2 := hm.but BG (fun e => by
    obtain ⟨cs, hcs⟩ := own_is_cells h.rt e
    exact hm.notCells _ _ _ hcs)
  have hrow2 := ownsRow_keep h.own.row BG (fun j hj e => by
    obtain ⟨cs, hcs⟩ := own_is_cells h.rt e
    exact own_nb h.own.row hcs (by decide) hj)
  have hk2 := fun q hq => ownsRow_keep (h.own.kids q hq) BG (fun j hj e => h.part q hq j e hj)
  refine ⟨⟨?_, ⟨n, hn, hm2.but B1 (fun e => by rw [e] at hm2; exact hm2.notCells _ _ _ kb2)⟩, h.lst, ⟨ownsRow_keep hrow2 B1 (fun j hj e => own_nb hrow2 kb2 (by decide) (by rw [← e]; exact hj)), fun q hq => ownsRow_keep (hk2 q hq) B1 (fun j hj e => own_nb (hk2 q hq) kb2 (by decide) (by rw [← e]; exact hj)), h.own.ok⟩, ?_, fun q hq k hk hk' => ?_, h.lo⟩, kb2, (BG.mono (fun k _ hk => .inl hk)).trans (B1.mono (fun k _ hk => .inr hk))⟩
  · have := blk_set (o := 2) kb2 rv2
    simpa [St.free] using this
  · have r := ownsRow_keep o1 B1 (fun j hj e => own_nb o1 kb2 (by decide) (by rw [← e]; exact hj))
    show World.ownsRow _ _ _ _ _ (S.roots ++ [x]).length ((S.roots ++ [x]).map encI)
    rw [List.map_append, List.length_append]
    exact r
  · rcases o4 with h4 | h4
    · rw [h4] at hk; exact h.part q hq k hk hk'
    · rw [h4] at hk
      have h1 := (World.ownsRow.lt (h.own.kids q hq) k hk').2
      have h2 := hBA.size
      simp only [Option.some.injEq] at hk
      omega
end
def addS (S2 : St) (p : Nat) : St := { S2 with sl := bump S2.sl p, roots := S2.roots ++ [(p : Int)] }
/-- What is told of it stands whatever becomes of the blocks below. -/
theorem Bld.outLow {B bb mb : Nat} {S : St} {sv rv : Value} {L : List Sv} {W : World} (h : Bld B bb mb S sv rv L W) (hs : S.sl.length ≤ 4096) (hf : i64B S.free) (hr : ∀ y ∈ S.roots, i64B y) (hrl : S.roots.length ≤ 1000000) : ∀ W', But (fun k => k < B) W W' → ArV S.ar (.agg #[sv, .int .i64 S.free, rv]) W' := fun W' hb => by
  have e : L.map Prod.fst = S.ar.slots := h.lst
  exact ⟨sv, rv, rfl, by rw [← e]; exact (h.own.keep hb (fun _ h => h)).sl (by rw [h.len]; omega), sli_own (ownsRow_keep h.rt hb (fun j hj hD => by have := (World.ownsRow.lt h.rt j hj).1; omega)) hr, hf, by show S.roots.length ≤ _; omega⟩
/-- What Add tells. -/
def AddR (a : Ar) (t : Nd) (w : World) (e : Ending) (w' : World) : Prop :=
  Below w.heap.size w w' ∧ ((a.roots.length = 4096 ∧ ∃ bv, e = .returned (.tuple #[bv, .int .i64 0, .int .i64 15]) ∧ ArV a bv w') ∨ (a.roots.length < 4096 ∧ (layN t (toSt a) 0).2 = none ∧ ∃ bv, e = .returned (.tuple #[bv, .int .i64 0, .int .i64 22]) ∧ ArV a bv w') ∨ (a.roots.length < 4096 ∧ ∃ (S2 : St) (p : Nat) (bv : Value), layN t (toSt a) 0 = (S2, some p) ∧ e = .returned (.tuple #[bv, .int .i64 (a.roots.length : Int), .int .i64 0]) ∧ ArV (addS S2 p).ar bv w' ∧ Wf (addS S2 p) 9000000000 ∧ p < S2.sl.length ∧ ∀ W, But (fun k => k < w.heap.size) w' W → ArV (addS S2 p).ar bv W))
theorem addS_wf {S2 : St} {R p : Nat} (h : Wf S2 R) : Wf (addS S2 p) (R + 1) := by
  have hm : ∀ s ∈ bump S2.sl p, ∃ s0 ∈ S2.sl, s = s0 ∨ s = { s0 with refs := s0.refs + 1 } := fun s hs => by
    obtain ⟨i, hi, rfl⟩ := List.getElem_of_mem hs
    have h1 : (bump S2.sl p)[i]? = some (bump S2.sl p)[i] := List.getElem?_eq_getElem hi
    rw [bump_get] at h1
    split at h1
    · obtain ⟨s0, h2, h3⟩ := Option.map_eq_some_iff.1 h1
      exact ⟨s0, List.mem_of_getElem? h2, .inr h3.symm⟩
    · exact ⟨_, List.mem_of_getElem? h1, .inl rfl⟩
  have hl : (addS S2 p).sl.length = S2.sl.length := bump_len _ _
  refine ⟨by rw [hl]; exact h.len, h.chain.same fun i hi s hs => ?_, h.nd, fun k q hk => by rw [hl]; exact h.fin k q hk, fun s hs k hk => ?_, fun s hs => ?_, fun s hs => ?_, fun s hs => ?_, Nat.le_succ_of_le h.cnt⟩
  · show ∃ s', (bump S2.sl p)[i]? = some s' ∧ s'.next = s.next
    rw [bump_get, hs]
    split
    · exact ⟨_, rfl, rfl⟩
    · exact ⟨_, rfl, rfl⟩
  · rw [hl]
    obtain ⟨s0, h0, rfl | rfl⟩ := hm s hs
    · exact h.kin _ h0 k hk
    · exact h.kin s0 h0 k hk
  · obtain ⟨s0, h0, rfl | rfl⟩ := hm s hs
    · exact h.kl _ h0
    · exact h.kl s0 h0
  · obtain ⟨s0, h0, rfl | rfl⟩ := hm s hs
    · exact h.hd _ h0
    · exact h.hd s0 h0
  · obtain ⟨s0, h0, rfl | rfl⟩ := hm s hs
    · have := h.refs _ h0; omega
    · have := h.refs s0 h0; simp only; omega
theorem Wf.free64 {S : St} {R : Nat} (h : Wf S R) : i64B S.free := by
  unfold St.free freeI
  have hc := h.chain
  have hl := h.len
  cases hf : S.fl with
  | nil => exact ⟨by decide, by decide⟩
  | cons q l => rw [hf] at hc; have := Chain.in hc q (by simp); simp only; exact ⟨by omega, by omega⟩
end Go.Proofs.Ytoocafcagelbgaa
