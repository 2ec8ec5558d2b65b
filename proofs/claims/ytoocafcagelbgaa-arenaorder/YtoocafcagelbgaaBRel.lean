/- A builder: what releases turn. -/
import Derived.Test.YtoocafcagelbgaaBLay
import Derived.Test.YtoocafcagelbgaaPPlaces
namespace Go.Proofs.Ytoocafcagelbgaa
open Go.RowKit

/-- What release asks for: all is in bounds, and kids lie lower by a rank. -/
structure Wr (r : Nat → Nat) (S : St) : Prop where
  len : S.sl.length ≤ 4096
  kin : ∀ s ∈ S.sl, ∀ k ∈ s.ks, k < S.sl.length
  kl : ∀ s ∈ S.sl, s.ks.length ≤ 1000000
  hd : ∀ s ∈ S.sl, HdOk s.h
  fl : ∀ p ∈ S.fl, p < 4096
  rk : ∀ i s, S.sl[i]? = some s → ∀ k ∈ s.ks, r k < r i
theorem Wr.set {r : Nat → Nat} {S : St} (h : Wr r S) {i : Nat} {s0 s : SN} (hs : S.sl[i]? = some s0) (hk : ∀ k ∈ s.ks, k ∈ s0.ks) (hd : HdOk s.h) (kl : s.ks.length ≤ 1000000) {l : List Nat} (hl : ∀ p ∈ l, p < 4096) (F : HK → Option Nat) :
    Wr r { S with sl := S.sl.set i s, fl := l, F := F } := by
  have hm := List.mem_of_getElem? hs
  refine ⟨by simp only [List.length_set]; exact h.len, fun t ht k hk' => ?_, fun t ht => ?_, fun t ht => ?_, hl, fun j t ht k hk' => ?_⟩
  · simp only [List.length_set]
    rcases List.mem_or_eq_of_mem_set ht with ht | rfl
    · exact h.kin t ht k hk'
    · exact h.kin s0 hm k (hk k hk')
  · rcases List.mem_or_eq_of_mem_set ht with ht | rfl
    · exact h.kl t ht
    · exact kl
  · rcases List.mem_or_eq_of_mem_set ht with ht | rfl
    · exact h.hd t ht
    · exact hd
  · simp only [List.getElem?_set] at ht
    by_cases e : i = j
    · subst e
      rw [if_pos rfl, if_pos (List.getElem?_eq_some_iff.1 hs).1] at ht
      cases ht
      exact h.rk i s0 hs k (hk k hk')
    · rw [if_neg e] at ht
      exact h.rk j t ht k hk'
theorem relS_more {f i : Nat} {S : St} {s : SN} (hs : S.sl[i]? = some s) (hr : 1 < s.refs) : relS (f + 1) S i = S.setSl i { s with refs := s.refs - 1 } := by
  conv => lhs; unfold relS
  rw [hs]
  simp only
  rw [if_pos hr]
  rfl
/-- What is there ahead of the kids. -/
def relJ (S : St) (i : Nat) (s : SN) : St := { S with sl := S.sl.set i (zeroN S.free), fl := i :: S.fl, F := updF S.F (keyN s) none }
theorem relS_last {f i : Nat} {S : St} {s : SN} (hs : S.sl[i]? = some s) (hr : ¬ 1 < s.refs) : relS (f + 1) S i = s.ks.foldl (relS f) (relJ S i s) := by
  conv => lhs; unfold relS
  rw [hs]
  simp only
  rw [if_neg hr]
  rfl
section
variable {B bb mb : Nat} {S : St} {sv rv : Value} {L : List Sv} {W : World}
/-- The first free one turned. -/
theorem Bld.freed (h : Bld B bb mb S sv rv L W) (l : List Nat) : Bld B bb mb { S with fl := l } sv rv L (W.setCell ⟨bb, 1, none⟩ (.int .i64 (freeI l))) := by
  have B1 : But (fun k => k = bb) W (W.setCell ⟨bb, 1, none⟩ (.int .i64 (freeI l))) := (But.refl _ _).setCell _ _ (.inr rfl)
  obtain ⟨n, hn, hm⟩ := h.map
  refine ⟨?_, ⟨n, hn, hm.but B1 (fun e => by rw [e] at hm; exact hm.notCells _ _ _ h.box)⟩, h.lst, ⟨ownsRow_keep h.own.row B1 (fun j hj e => own_nb h.own.row h.box (by decide) (by rw [← e]; exact hj)), fun q hq => ownsRow_keep (h.own.kids q hq) B1 (fun j hj e => own_nb (h.own.kids q hq) h.box (by decide) (by rw [← e]; exact hj)), h.own.ok⟩, ownsRow_keep h.rt B1 (fun j hj e => own_nb h.rt h.box (by decide) (by rw [← e]; exact hj)), h.part, h.lo⟩
  have := blk_set (o := 1) h.box (.int .i64 (freeI l))
  simpa [St.free] using this
end
/-- What holds on the way of a release. -/
structure RelK (B bb mb : Nat) (sv rv : Value) (L : List Sv) (w : World) (P kB : Nat) (bc : Array Value) (l : List Int) (kv : Value) (S' : St) (L' : List Sv) (W : World) : Prop where
  bld : Bld B bb mb S' sv rv L' W
  kids : OwnI kB l kv W
  box : W.heap[P]? = some (Obj.cells bc 60)
  but : But (fun k => BldD bb mb sv k) w W
  kb : ∀ k, KB L' k → KB L k
  low : ∀ k, BldD bb mb sv k → k < w.heap.size
  lo : w.heap.size ≤ P
section
variable {B bb mb : Nat} {sv rv : Value} {L : List Sv} {w : World} {P kB : Nat} {bc : Array Value} {l : List Int} {kv : Value} {S' : St} {L' : List Sv} {W W' : World}
theorem RelK.next (h : RelK B bb mb sv rv L w P kB bc l kv S' L' W) (hb : Below W.heap.size W W') : RelK B bb mb sv rv L w P kB bc l kv S' L' W' :=
  ⟨h.bld.next hb, ownsRow_below4 h.kids hb, (hb.block _ (blk_lt h.box)).trans h.box, h.but.trans (But.of_next hb), h.kb, h.low, h.lo⟩
theorem RelK.step (h : RelK B bb mb sv rv L w P kB bc l kv S' L' W) {S2 : St} {L2 : List Sv} {D : Nat → Prop} (hb : But D W W') (hD : ∀ k, D k → BldD bb mb sv k) (hB : Bld B bb mb S2 sv rv L2 W') (hkb : ∀ k, KB L2 k → KB L' k) : RelK B bb mb sv rv L w P kB bc l kv S2 L2 W' :=
  ⟨hB, ownsRow_keep h.kids hb (fun k hk hd => h.bld.intD h.kids k hk (hD k hd)), but_blk hb h.box (fun hd => by have := h.low _ (hD _ hd); have := h.lo; omega), h.but.trans (hb.mono (fun k _ hk => hD k hk)), fun k hk => h.kb k (hkb k hk), h.low, h.lo⟩
end
theorem intL_size (ks : List Nat) : (intL ks).length = ks.length := by unfold intL; simp
theorem foldl_take {α β : Type} (f : α → β → α) (a : α) (l : List β) (j : Nat) (h : j < l.length) : (l.take (j + 1)).foldl f a = f ((l.take j).foldl f a) l[j] := by
  rw [List.take_succ_eq_append_getElem h, List.foldl_append]; rfl
end Go.Proofs.Ytoocafcagelbgaa
