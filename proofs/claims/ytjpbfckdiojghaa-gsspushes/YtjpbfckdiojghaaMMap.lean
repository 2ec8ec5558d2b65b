/- Stacks: a map of spots to numbers. -/
import Derived.Test.YtjpbfckdiojghaaMMath
import Derived.Maps.OwnSet
import Derived.Maps.Views
import Derived.DeepKeys4
namespace Go.Proofs.Ytjpbfckdiojghaa
open Go.RowKit Go.Maps

theorem laidOutM : laidOutB Try.prog = true := by kernel_rfl
theorem lawSp : Keyed Try.prog 48 := Keyed.of_law (deep_law_laid laidOutM (m := 2) (by omega) (of_decide_eq_true (by kernel_rfl)) (by kernel_rfl) (by kernel_rfl))
theorem wf64 {x : Int} (h : i64B x) : (Lit.int .i64 x).wf = true := WalkArith.wf_i64 (by unfold i64B at h; omega)
theorem wf64' {x : Int} (h : (Lit.int .i64 x).wf = true) : i64B x := by
  simp [Lit.wf, IntKind.min, IntKind.max, IntKind.bits, IntKind.signed] at h
  unfold i64B; omega
def okSp (s : Sp) : Prop := i64B s.1 ∧ i64B s.2
theorem sizeT : ∃ m, Try.prog.types.size = m + 1 := ⟨Try.prog.types.size - 1, by have : 0 < Try.prog.types.size := of_decide_eq_true (by kernel_rfl); omega⟩
theorem keySp {s : Sp} (h : okSp s) : ∃ kl, keyOf Try.prog 48 (spV s) = some kl := by
  obtain ⟨m, hm⟩ := sizeT
  have h0 := wf64 h.1
  have h1 := wf64 h.2
  have e1 : Try.prog.keyType 48 = true := by kernel_rfl
  have e2 : Try.prog.cellsOf 48 = 2 := by kernel_rfl
  have e3 : Try.prog.cellsOf 3 = 1 := by kernel_rfl
  unfold keyOf
  simp only [Try.underlying48]
  rw [if_pos (by simp [e1, Value.formed, Try.underlying48, e2, spV]), hm]
  unfold Program.keyLits
  simp [Try.underlying48, spV, Value.cells, e2, e3, Program.keyLits, Try.underlying3, h0, h1]
theorem int_one {P : Program} {t : TypeId} (hu : P.underlying t = some (.int .i64)) {d : Nat} {cs : List Value} {ls : List Lit} (h : P.keyLits d t cs = some ls) : ∃ x, cs = [.int .i64 x] ∧ i64B x := by
  cases d with
  | zero => simp [Program.keyLits] at h
  | succ d =>
    unfold Program.keyLits at h
    rw [hu] at h
    match cs, h with
    | [.int q n], h =>
      simp at h
      obtain ⟨⟨rfl, hw⟩, _⟩ := h
      exact ⟨n, rfl, wf64' hw⟩
theorem pair_inv {P : Program} {k ti : TypeId} {f1 f2 : Field} (hk : P.underlying k = some (.struct #[f1, f2])) (h1 : f1.type = ti ∧ f1.offset = 0) (h2 : f2.type = ti ∧ f2.offset = 1) (hi : P.underlying ti = some (.int .i64)) (e2 : P.cellsOf k = 2) (e3 : P.cellsOf ti = 1) {key : Value} {kl : Lit} (h : keyOf P k key = some kl) : ∃ s : Sp, key = spV s ∧ okSp s := by
  unfold keyOf at h
  simp only [hk] at h
  split at h
  case isFalse => cases h
  rename_i hf
  rw [Bool.and_eq_true] at hf
  have hf2 := hf.2
  cases key <;> simp [Value.formed, hk] at hf2
  rename_i cs
  rw [e2] at hf2
  obtain ⟨ls, hls, _⟩ := Option.map_eq_some_iff.1 h
  unfold Program.keyLits at hls
  simp only [hk] at hls
  obtain ⟨l⟩ := cs
  match l, hf2 with
  | [x, y], _ =>
    simp [Value.cells, e2, e3, h1.1, h1.2, h2.1, h2.2] at hls
    cases ha : P.keyLits P.types.size ti [x] with
    | none => rw [ha] at hls; simp at hls
    | some a =>
      cases hb : P.keyLits P.types.size ti [y] with
      | none => rw [ha, hb] at hls; simp at hls
      | some b =>
        obtain ⟨x', hx', ix⟩ := int_one hi ha
        obtain ⟨y', hy', iy⟩ := int_one hi hb
        simp at hx' hy'
        subst hx' hy'
        exact ⟨(x', y'), rfl, ix, iy⟩
theorem keySp_inv {key : Value} {kl : Lit} (h : keyOf Try.prog 48 key = some kl) : ∃ s, key = spV s ∧ okSp s := pair_inv (ti := 3) Try.underlying48 ⟨rfl, rfl⟩ ⟨rfl, rfl⟩ Try.underlying3 (by kernel_rfl) (by kernel_rfl) h
open Classical in
noncomputable def litS (s : Sp) : Lit := if h : ∃ kl, keyOf Try.prog 48 (spV s) = some kl then Classical.choose h else .bool false
theorem litS_key {s : Sp} (h : okSp s) : keyOf Try.prog 48 (spV s) = some (litS s) := by
  have h' := keySp h
  unfold litS
  rw [dif_pos h']
  exact Classical.choose_spec h'
theorem spV_inj {s t : Sp} (h : spV s = spV t) : s = t := by
  unfold spV at h
  simp at h
  exact Prod.ext h.1 h.2
theorem litS_inj {s t : Sp} (h : okSp s) (h' : okSp t) (e : litS s = litS t) : s = t := spV_inj (lawSp.inj (litS_key h) (by rw [e]; exact litS_key h'))
theorem litS_lit {s : Sp} (h : okSp s) : WideAt.IsKeyLit (litS s) := lawSp.key (litS_key h)
/-- A value of the map is held as it is. -/
def heldR (v : Value) : Option (DataW Value × List MemPlace) := some (.held v, [])
theorem heldR_inv {v x : Value} {ps : List MemPlace} (h : heldR v = some (.held x, ps)) : v = x := by
  unfold heldR at h
  simp at h
  exact h.1
/-- Block b is a map that has just the keys of L, and of each what g says. -/
structure MapN (b : Nat) (L : List Sp) (g : Sp → Int) (W : World) : Prop where
  ok : ∀ s ∈ L, okSp s
  nd : L.Nodup
  own : ∃ D : DataW Value, W.ownsMap Try.prog 48 heldR b L.length D ∧ Maps.size D = L.length ∧ (∀ kl, Maps.has D kl = true ↔ ∃ s ∈ L, litS s = kl) ∧ ∀ s ∈ L, ∀ z, D.atKey (litS s) z = .held (.int .i64 (g s))
theorem MapN.lt {b : Nat} {L : List Sp} {g : Sp → Int} {W : World} (h : MapN b L g W) : b < W.heap.size := by
  obtain ⟨D, h, _⟩ := h.own; exact h.lt
theorem MapN.kept {b : Nat} {L : List Sp} {g : Sp → Int} {W W' : World} (h : MapN b L g W) (hb : W'.heap[b]? = W.heap[b]?) : MapN b L g W' := by
  obtain ⟨D, ⟨es, clock, h1, h2⟩, h3⟩ := h.own
  exact ⟨h.ok, h.nd, D, ⟨es, clock, hb.trans h1, h2⟩, h3⟩
theorem MapN.but {b : Nat} {L : List Sp} {g : Sp → Int} {W W' : World} {D : Nat → Prop} (h : MapN b L g W) (hb : But D W W') (hd : ¬ D b) : MapN b L g W' := h.kept (hb.block b h.lt hd)
theorem MapN.next {b : Nat} {L : List Sp} {g : Sp → Int} {W W' : World} (h : MapN b L g W) (hb : Below W.heap.size W W') : MapN b L g W' := h.kept (hb.block b h.lt)
theorem MapN.notCells {b : Nat} {L : List Sp} {g : Sp → Int} {W : World} (h : MapN b L g W) : ∀ cs t f, W.heap[b]? ≠ some (.cells cs t f) := by
  obtain ⟨D, ⟨es, clock, h1, _⟩, _⟩ := h.own
  intro cs t f hv
  rw [h1] at hv; cases hv
theorem MapN.made (g : Sp → Int) (W : World) : MapN W.heap.size [] g (W.alloc (.map #[] 0)) :=
  ⟨fun _ h => (by cases h), List.nodup_nil, .map [], World.ownsMap_made W _ _ _, rfl, fun kl => by simp [Maps.has], fun _ h => (by cases h)⟩
theorem MapN.congr {b : Nat} {L : List Sp} {g g' : Sp → Int} {W : World} (h : MapN b L g W) (hg : ∀ s ∈ L, g s = g' s) : MapN b L g' W := by
  obtain ⟨D, h1, h2, h3, h4⟩ := h.own
  exact ⟨h.ok, h.nd, D, h1, h2, h3, fun s hs z => by rw [h4 s hs z, hg s hs]⟩
theorem zeroInt (W : World) : (zeroValue 3).run Try.prog W = .ok (.int .i64 0) W := Try.zeroValue3 W
theorem MapN.look {b : Nat} {L : List Sp} {g : Sp → Int} {W : World} (h : MapN b L g W) {s : Sp} (hs : s ∈ L) :
    (Instr.lookup 58 (.map (some b)) (spV s) false).run Try.prog W = .ok (.int .i64 (g s)) W := by
  obtain ⟨D, h1, h2, h3, h4⟩ := h.own
  obtain ⟨v, ps, hr, hv⟩ := h1.lookup lawSp Try.underlying58 (zeroInt W) (zd := .held (.int .i64 0)) (zp := []) rfl (litS_key (h.ok s hs))
  rw [h4 s hs] at hv
  rw [hr, heldR_inv hv]
theorem MapN.len {b : Nat} {L : List Sp} {g : Sp → Int} {W : World} (h : MapN b L g W) (ty : TypeId) : (Builtin.len_ #[58] ty #[.map (some b)]).run Try.prog W = .ok (.int .i64 L.length) W := by
  obtain ⟨D, h1, h2, h3, h4⟩ := h.own
  rw [h1.len Try.underlying58 ty, h2]
theorem but_turned {W W' : World} {b : Nat} (h : W.mapTurned W' b) : But (fun k => k = b) W W' := by
  have hg := h.grown
  exact ⟨hg.os, hg.tape, hg.output, hg.size, fun k hk hd => hg.block k hk (fun e => hd (by cases e; rfl))⟩
def updS (g : Sp → Int) (s : Sp) (x : Int) : Sp → Int := fun t => if t = s then x else g t
def addS (L : List Sp) (s : Sp) : List Sp := if s ∈ L then L else L ++ [s]
theorem mem_addS {L : List Sp} {s t : Sp} : t ∈ addS L s ↔ t ∈ L ∨ t = s := by
  unfold addS
  split
  · constructor
    · exact .inl
    · rintro (h | rfl)
      · exact h
      · assumption
  · simp
theorem addS_nd {L : List Sp} {s : Sp} (h : L.Nodup) : (addS L s).Nodup := by
  unfold addS
  split
  · exact h
  · rename_i hs
    rw [List.nodup_append]
    exact ⟨h, by simp, fun a ha b hb => by simp at hb; subst hb; exact fun e => hs (e ▸ ha)⟩
theorem addS_len {L : List Sp} {s : Sp} : (addS L s).length ≤ L.length + 1 := by
  unfold addS
  split
  · omega
  · simp
theorem MapN.store {b : Nat} {L : List Sp} {g : Sp → Int} {W : World} (h : MapN b L g W) (hn : L.length < 1000000000) {s : Sp} (hs : okSp s) (x : Int) :
    ∃ W', (Instr.mapUpdate 58 (.map (some b)) (spV s) (.int .i64 x)).run Try.prog W = .ok () W' ∧ MapN b (addS L s) (updS g s x) W' ∧ But (fun k => k = b) W W' ∧ W'.heap.size = W.heap.size := by
  obtain ⟨D, h1, h2, h3, h4⟩ := h.own
  obtain ⟨W', hr, ho, hm⟩ := h1.store lawSp Try.underlying58 (by unfold maxLen; omega) (key := spV s) (val := .int .i64 x) (kl := litS s) (d := .held (.int .i64 x)) (ps := []) (litS_key hs) rfl
  have hb := but_turned hm
  have ht := h1.tidy lawSp
  have hM := h1.isMap
  have hkey := litS_lit hs
  have hz := size_put (k := litS s) ht (.held (.int .i64 x))
  have hhas : Maps.has D (litS s) = decide (s ∈ L) := by
    rw [Bool.eq_iff_iff, decide_eq_true_eq, h3]
    constructor
    · rintro ⟨t, ht, e⟩; rw [← litS_inj (h.ok t ht) hs e]; exact ht
    · intro hx; exact ⟨s, hx, rfl⟩
  rw [hhas, h2] at hz
  have hsz : Maps.size (D.put (litS s) (.held (.int .i64 x))) = (addS L s).length := by
    rw [hz]; unfold addS
    split
    · rename_i hx; rw [if_pos (by simpa using hx)]
    · rename_i hx; rw [if_neg (by simpa using hx)]; simp
  have hlow : W'.ownsMap Try.prog 48 heldR b (addS L s).length (D.put (litS s) (.held (.int .i64 x))) := by
    rw [← hsz]
    obtain ⟨es, clock, k1, k2, k3, k4⟩ := ho
    refine ⟨es, clock, k1, k2, ?_, k4⟩
    rw [k4]
    simp [Maps.size, length_sorted]
  refine ⟨W', hr, ⟨fun t ht => ?_, addS_nd h.nd, _, hlow, hsz, fun kl => ?_, fun t ht z => ?_⟩, hb, ?_⟩
  · rcases mem_addS.1 ht with h' | rfl
    · exact h.ok t h'
    · exact hs
  · by_cases e : kl = litS s
    · subst e
      rw [has_put_same hM hkey]
      simp only [true_iff]
      exact ⟨s, mem_addS.2 (.inr rfl), rfl⟩
    · rw [has_put_other e, h3]
      constructor
      · rintro ⟨t, ht, hk⟩; exact ⟨t, mem_addS.2 (.inl ht), hk⟩
      · rintro ⟨t, ht, hk⟩
        rcases mem_addS.1 ht with h' | rfl
        · exact ⟨t, h', hk⟩
        · exact absurd hk.symm e
  · unfold updS
    split
    · rename_i e; subst e
      exact atKey_put_same hM hkey _ _
    · rename_i e
      have ht' : t ∈ L := (mem_addS.1 ht).resolve_right e
      rw [atKey_put_other (fun e' => e (litS_inj (h.ok t ht') hs e'))]
      exact h4 t ht' z
  · obtain ⟨es, clock, es', clock', _, rfl⟩ := hm
    simp [ChangeMaps.setBlock]
end Go.Proofs.Ytjpbfckdiojghaa
