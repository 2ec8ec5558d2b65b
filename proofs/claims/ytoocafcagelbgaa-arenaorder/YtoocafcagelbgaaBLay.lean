/- A builder behind what lay takes: stores on the way. -/
import Derived.Test.YtoocafcagelbgaaBSet
namespace Go.Proofs.Ytoocafcagelbgaa
open Go.RowKit

/-- What holds behind the key's box, up to the end. -/
structure LayK (B bb mb : Nat) (sv rv : Value) (L : List Sv) (w : World) (P q kB : Nat) (nc kc : Array Value) (ks : List Nat) (kv : Value) (S' : St) (sv' : Value) (L' : List Sv) (W : World) : Prop where
  bld : Bld B bb mb S' sv' rv L' W
  kids : OwnI kB (intL ks) kv W
  nbox : W.heap[P]? = some (Obj.cells nc 32)
  kbox : W.heap[q]? = some (Obj.cells kc 87)
  but : But (fun k => BldD bb mb sv k) w W
  sv : ∀ k, sv'.ownBlock = some k → sv.ownBlock = some k ∨ w.heap.size ≤ k
  kb : ∀ k, KB L' k → KB L k ∨ w.heap.size ≤ k
theorem Bld.notD {B bb mb : Nat} {S : St} {sv rv : Value} {L : List Sv} {W : World} (h : Bld B bb mb S sv rv L W) {P : Nat} {c : Array Value} {t : TypeId} (hP : W.heap[P]? = some (Obj.cells c t)) (h1 : 77 ≠ t) (h2 : 60 ≠ t) : ¬ BldD bb mb sv P := by
  intro hd
  rcases hd with rfl | rfl | hd
  · have := h.box
    rw [hP] at this
    simp only [Option.some.injEq, Obj.cells.injEq] at this
    exact h1 this.2.1.symm
  · obtain ⟨n, _, hm⟩ := h.map
    exact hm.notCells _ _ _ hP
  · exact own_nb h.own.row hP h2 hd
theorem Bld.intD {B bb mb kB : Nat} {S : St} {sv rv kv : Value} {L : List Sv} {l : List Int} {W : World} (h : Bld B bb mb S sv rv L W) (hk : OwnI kB l kv W) : ∀ k, kv.ownBlock = some k → ¬ BldD bb mb sv k := by
  intro k hj
  obtain ⟨cs, hcs⟩ := own_is_cells hk hj
  exact h.notD hcs (by decide) (by decide)
section
variable {B bb mb : Nat} {sv rv : Value} {L : List Sv} {w : World} {P q kB : Nat} {nc kc : Array Value} {ks : List Nat} {kv : Value} {S' : St} {sv' : Value} {L' : List Sv} {W W' : World}
theorem LayK.next (h : LayK B bb mb sv rv L w P q kB nc kc ks kv S' sv' L' W) (hb : Below W.heap.size W W') : LayK B bb mb sv rv L w P q kB nc kc ks kv S' sv' L' W' :=
  ⟨h.bld.next hb, ownsRow_below4 h.kids hb, (hb.block _ (blk_lt h.nbox)).trans h.nbox, (hb.block _ (blk_lt h.kbox)).trans h.kbox, h.but.trans (But.of_next hb), h.sv, h.kb⟩
theorem LayK.step (h : LayK B bb mb sv rv L w P q kB nc kc ks kv S' sv' L' W) {D : Nat → Prop} {S2 : St} {sv2 : Value} {L2 : List Sv} (hb : But D W W') (hD : ∀ k, D k → BldD bb mb sv' k) (hB : Bld B bb mb S2 sv2 rv L2 W') (hsv : ∀ k, sv2.ownBlock = some k → sv'.ownBlock = some k ∨ W.heap.size ≤ k) (hkb : ∀ k, KB L2 k → KB L' k ∨ W.heap.size ≤ k ∨ (w.heap.size ≤ k)) : LayK B bb mb sv rv L w P q kB nc kc ks kv S2 sv2 L2 W' := by
  have z := h.but.size
  refine ⟨hB, ownsRow_keep h.kids hb (fun k hk hd => h.bld.intD h.kids k hk (hD k hd)), but_blk hb h.nbox (fun hd => h.bld.notD h.nbox (by decide) (by decide) (hD _ hd)), but_blk hb h.kbox (fun hd => h.bld.notD h.kbox (by decide) (by decide) (hD _ hd)), ⟨hb.os.trans h.but.os, hb.tape.trans h.but.tape, hb.output.trans h.but.output, Nat.le_trans z hb.size, fun k hk hd => ?_⟩, fun k hk => ?_, fun k hk => ?_⟩
  · refine (hb.block k (by omega) (fun hd2 => ?_)).trans (h.but.block k hk hd)
    rcases hD k hd2 with h' | h' | h'
    · exact hd (.inl h')
    · exact hd (.inr (.inl h'))
    · rcases h.sv k h' with h3 | h3
      · exact hd (.inr (.inr h3))
      · omega
  · rcases hsv k hk with h' | h'
    · exact h.sv k h'
    · exact .inr (by omega)
  · rcases hkb k hk with h' | h' | h'
    · exact h.kb k h'
    · exact .inr (by omega)
    · exact .inr h'
/-- The map turned. -/
theorem Bld.mapped {S : St} (h : Bld B bb mb S sv rv L W) {F : HK → Option Nat} {n c : Nat} (hc : n ≤ c) (hm : MapF mb F n W') (hb : But (fun k => k = mb) W W') : Bld B bb mb { S with F := F, cnt := c } sv rv L W' := by
  obtain ⟨m, _, hM⟩ := h.map
  have hn : ∀ {cs t}, W.heap[mb]? ≠ some (Obj.cells cs t) := fun {cs t} => hM.notCells _ _ _
  have hints : ∀ {B' : Nat} {l : List Int} {v : Value}, OwnI B' l v W → OwnI B' l v W' := fun {B' l v} hv => ownsRow_keep hv hb (fun j hj e => by
    obtain ⟨cs, hcs⟩ := own_is_cells hv hj
    rw [e] at hcs; exact hn hcs)
  refine ⟨but_blk hb h.box (fun e => by have := h.box; rw [e] at this; exact hn this), ⟨n, hc, hm⟩, h.lst, ⟨ownsRow_keep h.own.row hb (fun j hj e => ?_), fun q hq => hints (h.own.kids q hq), h.own.ok⟩, hints h.rt, h.part, h.lo⟩
  obtain ⟨cs, hcs⟩ := own_is_cells h.own.row hj
  rw [e] at hcs; exact hn hcs
theorem KB.set {L : List Sv} {i : Nat} {p : Sv} {k : Nat} (h : KB (L.set i p) k) : KB L k ∨ p.2.ownBlock = some k := by
  obtain ⟨q, hq, e⟩ := h
  rcases List.mem_or_eq_of_mem_set hq with hq | rfl
  · exact .inl ⟨q, hq, e⟩
  · exact .inr e
theorem own_low {e : TypeId} {k n : Nat} {v : Value} {xs : List Value} {b : Nat} (h : W.ownsRow b e k v n xs) (hb : B ≤ b) : W.ownsRow B e k v n xs := by
  obtain ⟨h1, h2⟩ := h
  refine ⟨h1, ?_⟩
  rcases h2 with ⟨rfl, hn⟩ | ⟨g, cap, cur, rfl, hB, hg, h3⟩
  · exact .inl ⟨rfl, hn⟩
  · exact .inr ⟨g, cap, cur, rfl, by omega, hg, h3⟩
/-- What putS gives where the key is new. -/
def putJ (S2 : St) (p : Nat) (h : Hd) (ks : List Nat) (K : HK) (j : Nat) : St := { S2 with sl := bumps (S2.sl.set p ⟨h, ks, 0, -1⟩) (ks.take j), F := updF S2.F K (some p), cnt := S2.cnt + 1 }
theorem bump_some {sl : List SN} {k : Nat} {s : SN} (h : sl[k]? = some s) : bump sl k = sl.set k { s with refs := s.refs + 1 } := by
  unfold bump
  rw [h]
theorem putJ_succ {S2 : St} {p : Nat} {h : Hd} {ks : List Nat} {K : HK} {j : Nat} (hj : j < ks.length) {s : SN} (hs : (putJ S2 p h ks K j).sl[ks[j]]? = some s) : (putJ S2 p h ks K j).setSl ks[j] { s with refs := s.refs + 1 } = putJ S2 p h ks K (j + 1) := by
  unfold putJ St.setSl
  unfold putJ at hs
  simp only at hs ⊢
  congr 1
  rw [List.take_succ_eq_append_getElem hj]
  unfold bumps at hs ⊢
  rw [List.foldl_append]
  simp only [List.foldl_cons, List.foldl_nil]
  rw [bump_some hs]
theorem putJ_len (S2 : St) (p : Nat) (h : Hd) (ks : List Nat) (K : HK) (j : Nat) : (putJ S2 p h ks K j).sl.length = S2.sl.length := by
  unfold putJ
  simp only [bumps_len, List.length_set]
theorem putJ_refs {S2 : St} {R p : Nat} {h : Hd} {ks : List Nat} {K : HK} {j : Nat} (hw : Wf S2 R) {s : SN} (hs : s ∈ (putJ S2 p h ks K j).sl) : s.refs ≤ R + ks.length := by
  obtain ⟨s0, h0, c, hc, rfl⟩ := bumps_mem hs
  have : c ≤ ks.length := by have := List.length_take_le j ks; rw [List.length_take] at hc; omega
  rcases List.mem_or_eq_of_mem_set h0 with h0 | rfl
  · have := hw.refs s0 h0; simp only; omega
  · simp only; omega
end
end Go.Proofs.Ytoocafcagelbgaa
