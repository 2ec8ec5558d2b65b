/- Maps of what slots hold to their places. -/
import Derived.Test.YtoocafcagelbgaaPHeld
import Derived.Maps.OwnSet
import Derived.Maps.Views
import Derived.DeepKeys4
namespace Go.Proofs.Ytoocafcagelbgaa
open Go.RowKit Go.Maps

theorem laidOutM : laidOutB Try.prog = true := by kernel_rfl
theorem lawH : Keyed Try.prog 87 := Keyed.of_law (deep_law_laid laidOutM (m := 7) (by omega) (of_decide_eq_true (by kernel_rfl)) (by kernel_rfl) (by kernel_rfl))
theorem wf64 {x : Int} (h : i64B x) : (Lit.int .i64 x).wf = true := WalkArith.wf_i64 (by unfold i64B at h; omega)
structure okK (k : HK) : Prop where
  kind : k.kind.size ≤ 140737488351232
  field : k.field.size ≤ 140737488351232
  frm : i64B k.frm
  til : i64B k.til
  bad : i64B k.bad
  ks : k.ks.size ≤ 140737488351232
theorem sizeT : ∃ m, Try.prog.types.size = m + 1 := ⟨Try.prog.types.size - 1, by have : 0 < Try.prog.types.size := of_decide_eq_true (by kernel_rfl); omega⟩
theorem keyHK {k : HK} (h : okK k) : ∃ kl, keyOf Try.prog 87 (hkV k) = some kl := by
  obtain ⟨m, hm⟩ := sizeT
  obtain ⟨h0, h1, h2, h3, h4, h5⟩ := h
  have g2 := wf64 h2
  have g3 := wf64 h3
  have g4 := wf64 h4
  have s0 : k.kind.size ≤ maxLen := by unfold maxLen; omega
  have s1 : k.field.size ≤ maxLen := by unfold maxLen; omega
  have s2 : k.ks.size ≤ maxLen := by unfold maxLen; omega
  have e1 : Try.prog.keyType 87 = true := by kernel_rfl
  have e2 : Try.prog.cellsOf 87 = 7 := by kernel_rfl
  have e3 : Try.prog.cellsOf 3 = 1 := by kernel_rfl
  have e4 : Try.prog.cellsOf 9 = 1 := by kernel_rfl
  have e5 : Try.prog.cellsOf 4 = 1 := by kernel_rfl
  unfold keyOf
  simp only [Try.underlying87]
  rw [if_pos (by simp [e1, Value.formed, Try.underlying87, e2, hkV]), hm]
  unfold Program.keyLits
  simp [Try.underlying87, hkV, Value.cells, e2, e3, e4, e5, Program.keyLits, Try.underlying3, Try.underlying9, Try.underlying4, g2, g3, g4, s0, s1, s2]
noncomputable def litH (k : HK) : Lit := (keyOf Try.prog 87 (hkV k)).getD (.bool false)
theorem keyL {k : HK} (h : okK k) : keyOf Try.prog 87 (hkV k) = some (litH k) := by
  obtain ⟨kl, e⟩ := keyHK h
  unfold litH
  rw [e]; rfl
theorem hkV_inj {k l : HK} (h : hkV k = hkV l) : k = l := by
  obtain ⟨_, _, _, _, _, _, _⟩ := k
  obtain ⟨_, _, _, _, _, _, _⟩ := l
  simp only [hkV, Value.agg.injEq] at h
  simp at h
  obtain ⟨rfl, rfl, rfl, rfl, rfl, rfl, rfl⟩ := h
  rfl
theorem litH_inj {k l : HK} (hk : okK k) (hl : okK l) (h : litH k = litH l) : k = l :=
  hkV_inj (lawH.inj (keyL hk) (by rw [h]; exact keyL hl))
theorem litH_key {k : HK} (hk : okK k) : WideAt.IsKeyLit (litH k) := lawH.key (keyL hk)
/-- A value of the map is held as it is. -/
def heldR (v : Value) : Option (DataW Value × List MemPlace) := some (.held v, [])
theorem heldR_inv {v x : Value} {ps : List MemPlace} (h : heldR v = some (.held x, ps)) : v = x := by
  unfold heldR at h
  simp at h
  exact h.1
/-- Block b is a map that tells of each key what F does, of so many keys. -/
structure MapF (b : Nat) (F : HK → Option Nat) (n : Nat) (W : World) : Prop where
  good : ∀ k p, F k = some p → okK k
  own : ∃ D : DataW Value, W.ownsMap Try.prog 87 heldR b n D ∧ Maps.size D = n ∧ (∀ kl, Maps.has D kl = true ↔ ∃ k p, F k = some p ∧ litH k = kl) ∧ ∀ k p, F k = some p → ∀ z, D.atKey (litH k) z = .held (.int .i64 (p : Int))
def updF (F : HK → Option Nat) (k : HK) (x : Option Nat) : HK → Option Nat := fun l => if l = k then x else F l
theorem updF_same (F : HK → Option Nat) (k : HK) (x : Option Nat) : updF F k x k = x := by unfold updF; rw [if_pos rfl]
theorem updF_other (F : HK → Option Nat) {k l : HK} (x : Option Nat) (h : l ≠ k) : updF F k x l = F l := by unfold updF; rw [if_neg h]
theorem but_turned {W W' : World} {b : Nat} (h : W.mapTurned W' b) : But (fun k => k = b) W W' := by
  have hg := h.grown
  exact ⟨hg.os, hg.tape, hg.output, hg.size, fun k hk hd => hg.block k hk (fun e => hd (by cases e; rfl))⟩
section
variable {b n : Nat} {F : HK → Option Nat} {W W' : World}
theorem MapF.lt (h : MapF b F n W) : b < W.heap.size := by
  obtain ⟨D, h, _⟩ := h.own; exact h.lt
theorem MapF.kept (h : MapF b F n W) (hb : W'.heap[b]? = W.heap[b]?) : MapF b F n W' := by
  obtain ⟨D, ⟨es, clock, h1, h2⟩, h3⟩ := h.own
  exact ⟨h.good, D, ⟨es, clock, hb.trans h1, h2⟩, h3⟩
theorem MapF.but {D : Nat → Prop} (h : MapF b F n W) (hb : But D W W') (hd : ¬ D b) : MapF b F n W' := h.kept (hb.block b h.lt hd)
theorem MapF.next (h : MapF b F n W) (hb : Below W.heap.size W W') : MapF b F n W' := h.kept (hb.block b h.lt)
theorem MapF.notCells (h : MapF b F n W) : ∀ cs t f, W.heap[b]? ≠ some (.cells cs t f) := by
  obtain ⟨D, ⟨es, clock, h1, _⟩, _⟩ := h.own
  intro cs t f hv
  rw [h1] at hv; cases hv
theorem MapF.made (W : World) : MapF W.heap.size (fun _ => none) 0 (W.alloc (.map #[] 0)) :=
  ⟨fun _ _ h => (by cases h), .map [], World.ownsMap_made W _ _ _, rfl, fun kl => by simp [Maps.has], fun k p h => (by cases h)⟩
theorem MapF.hasB (h : MapF b F n W) {D : DataW Value} (hD : ∀ kl, Maps.has D kl = true ↔ ∃ k p, F k = some p ∧ litH k = kl) {k : HK} (hk : okK k) : Maps.has D (litH k) = (F k).isSome := by
  rw [Bool.eq_iff_iff, hD, Option.isSome_iff_exists]
  constructor
  · rintro ⟨l, p, hl, e⟩
    rw [← litH_inj (h.good l p hl) hk e]; exact ⟨p, hl⟩
  · rintro ⟨p, hp⟩; exact ⟨k, p, hp, rfl⟩
set_option maxRecDepth 100000 in
theorem MapF.look (h : MapF b F n W) {k : HK} (hk : okK k) :
    (Instr.lookup 61 (.map (some b)) (hkV k) true).run Try.prog W = .ok (.tuple #[.int .i64 ((F k).getD 0 : Nat), .bool (F k).isSome]) W := by
  obtain ⟨D, h1, h2, h3, h4⟩ := h.own
  obtain ⟨v, ps, hr, hv⟩ := h1.look_ok lawH Try.underlying61 (Try.zeroValue3 W) (zd := .held (.int .i64 0)) (zp := []) rfl (keyL hk)
  have hhas := h.hasB h3 hk
  rw [hr, hhas]
  cases hF : F k with
  | some p =>
    rw [h4 k p hF] at hv
    rw [heldR_inv hv]; rfl
  | none =>
    rw [atKey_of_not_has (by rw [hhas, hF]; rfl)] at hv
    rw [heldR_inv hv]; rfl
set_option maxRecDepth 100000 in
theorem MapF.store (h : MapF b F n W) (hn : n < 1000000000000) {k : HK} (hk : okK k) (p : Nat) :
    ∃ W', (Instr.mapUpdate 61 (.map (some b)) (hkV k) (.int .i64 (p : Int))).run Try.prog W = .ok () W' ∧ MapF b (updF F k (some p)) (if (F k).isSome then n else n + 1) W' ∧ But (fun k => k = b) W W' ∧ W'.heap.size = W.heap.size := by
  obtain ⟨D, h1, h2, h3, h4⟩ := h.own
  obtain ⟨W', hr, ho, hmt'⟩ := h1.store lawH Try.underlying61 (by unfold maxLen; omega) (key := hkV k) (val := .int .i64 (p : Int)) (kl := litH k) (d := .held (.int .i64 (p : Int))) (ps := []) (keyL hk) rfl
  have hb := but_turned hmt'
  have ht := h1.tidy lawH
  have hM := h1.isMap
  have hkey := litH_key hk
  have hz := size_put (k := litH k) ht (.held (.int .i64 (p : Int)))
  have hhas := h.hasB h3 hk
  rw [hhas, h2] at hz
  have hlow : W'.ownsMap Try.prog 87 heldR b (if (F k).isSome then n else n + 1) (D.put (litH k) (.held (.int .i64 (p : Int)))) := by
    rw [← hz]
    obtain ⟨es, clock, k1, k2, k3, k4⟩ := ho
    refine ⟨es, clock, k1, k2, ?_, k4⟩
    rw [k4]
    simp [Maps.size, length_sorted]
  refine ⟨W', hr, ⟨fun l q hl => ?_, _, hlow, hz, fun kl => ?_, fun l q hl z => ?_⟩, hb, ?_⟩
  · by_cases e : l = k
    · subst e; exact hk
    · rw [updF_other _ _ e] at hl; exact h.good l q hl
  · by_cases e : kl = litH k
    · subst e
      rw [has_put_same hM hkey]
      simp only [true_iff]
      exact ⟨k, p, updF_same _ _ _, rfl⟩
    · rw [has_put_other e, h3]
      constructor
      · rintro ⟨l, q, hl, rfl⟩
        exact ⟨l, q, by rw [updF_other _ _ (fun h' => e (by rw [h']))]; exact hl, rfl⟩
      · rintro ⟨l, q, hl, rfl⟩
        rw [updF_other _ _ (fun h' => e (by rw [h']))] at hl
        exact ⟨l, q, hl, rfl⟩
  · by_cases e : l = k
    · subst e
      rw [updF_same] at hl
      cases hl
      exact atKey_put_same hM hkey _ _
    · rw [updF_other _ _ e] at hl
      rw [atKey_put_other (fun e' => e (litH_inj (h.good l q hl) hk e'))]
      exact h4 l q hl z
  · obtain ⟨es, clock, es', clock', _, rfl⟩ := hmt'
    simp [ChangeMaps.setBlock]
set_option maxRecDepth 100000 in
theorem MapF.drop (h : MapF b F n W) {k : HK} (hk : okK k) (ty : TypeId) :
    ∃ W', (Builtin.delete_ #[61, 87] ty #[.map (some b), hkV k]).run Try.prog W = .ok (.tuple #[]) W' ∧ MapF b (updF F k none) (if (F k).isSome then n - 1 else n) W' ∧ But (fun k => k = b) W W' ∧ W'.heap.size = W.heap.size := by
  obtain ⟨D, h1, h2, h3, h4⟩ := h.own
  obtain ⟨W', hr, ho, hmt'⟩ := h1.drop lawH Try.underlying61 (keyL hk) ty
  have hb := but_turned hmt'
  have ht := h1.tidy lawH
  have hz := size_del (k := litH k) ht
  have hhas := h.hasB h3 hk
  rw [hhas, h2] at hz
  have hz2 : Maps.size (D.del (litH k)) = if (F k).isSome then n - 1 else n := by split at hz <;> split <;> simp_all <;> omega
  have hlow : W'.ownsMap Try.prog 87 heldR b (if (F k).isSome then n - 1 else n) (D.del (litH k)) := by
    rw [← hz2]
    obtain ⟨es, clock, k1, k2, k3, k4⟩ := ho
    refine ⟨es, clock, k1, k2, ?_, k4⟩
    rw [k4]
    simp [Maps.size, length_sorted]
  refine ⟨W', hr, ⟨fun l q hl => ?_, _, hlow, hz2, fun kl => ?_, fun l q hl z => ?_⟩, hb, ?_⟩
  · by_cases e : l = k
    · subst e; exact hk
    · rw [updF_other _ _ e] at hl; exact h.good l q hl
  · by_cases e : kl = litH k
    · subst e
      rw [has_del_same]
      simp only [Bool.false_eq_true, false_iff, not_exists, not_and]
      intro l q hl e
      by_cases e' : l = k
      · subst e'; rw [updF_same] at hl; cases hl
      · rw [updF_other _ _ e'] at hl
        exact e' (litH_inj (h.good l q hl) hk e)
    · rw [has_del_other e, h3]
      constructor
      · rintro ⟨l, q, hl, rfl⟩
        exact ⟨l, q, by rw [updF_other _ _ (fun h' => e (by rw [h']))]; exact hl, rfl⟩
      · rintro ⟨l, q, hl, rfl⟩
        rw [updF_other _ _ (fun h' => e (by rw [h']))] at hl
        exact ⟨l, q, hl, rfl⟩
  · by_cases e : l = k
    · subst e
      rw [updF_same] at hl
      cases hl
    · rw [updF_other _ _ e] at hl
      rw [atKey_del_other (fun e' => e (litH_inj (h.good l q hl) hk e'))]
      exact h4 l q hl z
  · obtain ⟨es, clock, es', clock', _, rfl⟩ := hmt'
    simp [ChangeMaps.setBlock]
theorem MapF.len (h : MapF b F n W) (ty : TypeId) : (Builtin.len_ #[61] ty #[.map (some b)]).run Try.prog W = .ok (.int .i64 (n : Int)) W := by
  obtain ⟨D, h1, h2, _⟩ := h.own
  rw [h1.len Try.underlying61 ty, h2]
end
end Go.Proofs.Ytoocafcagelbgaa
