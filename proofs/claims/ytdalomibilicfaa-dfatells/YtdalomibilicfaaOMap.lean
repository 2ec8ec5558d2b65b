/- Things in the order in which they are met: a map of their numbers. -/
import Derived.Test.YtdalomibilicfaaJDSeen
import Derived.Maps.OwnSet
import Derived.Maps.Views
namespace Go.Proofs.Ytdalomibilicfaa
open Go.RowKit Go.Maps

/-- The place of a thing. -/
def idxK {κ : Type} [DecidableEq κ] (L : List κ) (k : κ) : Nat := L.idxOf k
theorem idxK_get {κ : Type} [DecidableEq κ] {L : List κ} {k : κ} (h : k ∈ L) : L[idxK L k]? = some k := by
  unfold idxK
  rw [List.getElem?_eq_getElem (List.idxOf_lt_length_iff.2 h)]; simp
theorem idxK_lt {κ : Type} [DecidableEq κ] {L : List κ} {k : κ} (h : k ∈ L) : idxK L k < L.length := List.idxOf_lt_length_iff.2 h
theorem idxK_snoc {κ : Type} [DecidableEq κ] {L : List κ} {k : κ} (h : k ∉ L) : idxK (L ++ [k]) k = L.length := by
  unfold idxK
  rw [List.idxOf_append, if_neg h]; simp
/-- What a kind of keys is like. -/
structure KeyKind {κ : Type} (kt : TypeId) (ke : κ → Value) (lit : κ → Lit) (ok : κ → Prop) : Prop where
  law : Keyed Try.prog kt
  key : ∀ k, ok k → keyOf Try.prog kt (ke k) = some (lit k)
  inj : ∀ k l, ke k = ke l → k = l
theorem KeyKind.one {κ : Type} {kt : TypeId} {ke : κ → Value} {lit : κ → Lit} {ok : κ → Prop} (K : KeyKind kt ke lit ok) {k l : κ} (hk : ok k) (hl : ok l) (e : lit k = lit l) : k = l :=
  K.inj _ _ (K.law.inj (K.key k hk) (by rw [e]; exact K.key l hl))
theorem KeyKind.lit {κ : Type} {kt : TypeId} {ke : κ → Value} {lit : κ → Lit} {ok : κ → Prop} (K : KeyKind kt ke lit ok) {k : κ} (hk : ok k) : WideAt.IsKeyLit (lit k) := K.law.key (K.key k hk)
theorem wf64 {x : Int} (h : i64B x) : (Lit.int .i64 x).wf = true := WalkArith.wf_i64 (by unfold i64B at h; omega)
theorem kindI : KeyKind 3 (fun x : Int => Value.int .i64 x) (fun x => Lit.int .i64 x) i64B := by
  refine ⟨int_keyed Try.underlying3, fun k h => ?_, fun k l h => by simpa using h⟩
  unfold keyOf mapKey
  simp [Try.underlying3, wf64 h]
theorem kindS : KeyKind 9 (fun s : ByteArray => Value.string s) (fun s => Lit.string s.data.toList) (fun s => s.size ≤ 100000000) := by
  refine ⟨string_keyed Try.underlying9, fun k h => ?_, fun k l h => by simpa using h⟩
  unfold keyOf mapKey
  have : k.size ≤ maxLen := by unfold maxLen; omega
  simp [Try.underlying9, this]
/-- A value of the map is held as it is. -/
def heldR (v : Value) : Option (DataW Value × List MemPlace) := some (.held v, [])
theorem heldR_inv {v x : Value} {ps : List MemPlace} (h : heldR v = some (.held x, ps)) : v = x := by
  unfold heldR at h
  simp at h
  exact h.1
/-- Block b is a map that has just the keys of L, and of each its place. -/
structure MapK {κ : Type} (kt : TypeId) (lit : κ → Lit) (ok : κ → Prop) (b : Nat) (L : List κ) (W : World) : Prop where
  good : ∀ s ∈ L, ok s
  nd : L.Nodup
  own : ∃ D : DataW Value, W.ownsMap Try.prog kt heldR b L.length D ∧ Maps.size D = L.length ∧ (∀ kl, Maps.has D kl = true ↔ ∃ s ∈ L, lit s = kl) ∧ ∀ (i : Nat) s, L[i]? = some s → ∀ z, D.atKey (lit s) z = .held (.int .i64 i)
section
variable {κ : Type} {kt : TypeId} {ke : κ → Value} {lit : κ → Lit} {ok : κ → Prop} {b : Nat} {L : List κ} {W W' : World}
theorem MapK.lt (h : MapK kt lit ok b L W) : b < W.heap.size := by
  obtain ⟨D, h, _⟩ := h.own; exact h.lt
theorem MapK.kept (h : MapK kt lit ok b L W) (hb : W'.heap[b]? = W.heap[b]?) : MapK kt lit ok b L W' := by
  obtain ⟨D, ⟨es, clock, h1, h2⟩, h3⟩ := h.own
  exact ⟨h.good, h.nd, D, ⟨es, clock, hb.trans h1, h2⟩, h3⟩
theorem MapK.but {D : Nat → Prop} (h : MapK kt lit ok b L W) (hb : But D W W') (hd : ¬ D b) : MapK kt lit ok b L W' := h.kept (hb.block b h.lt hd)
theorem MapK.next (h : MapK kt lit ok b L W) (hb : Below W.heap.size W W') : MapK kt lit ok b L W' := h.kept (hb.block b h.lt)
theorem MapK.notCells (h : MapK kt lit ok b L W) : ∀ cs t f, W.heap[b]? ≠ some (.cells cs t f) := by
  obtain ⟨D, ⟨es, clock, h1, _⟩, _⟩ := h.own
  intro cs t f hv
  rw [h1] at hv; cases hv
theorem MapK.made (W : World) : MapK kt lit ok W.heap.size [] (W.alloc (.map #[] 0)) :=
  ⟨fun _ h => (by cases h), List.nodup_nil, .map [], World.ownsMap_made W _ _ _, rfl, fun kl => by simp [Maps.has], fun i s h => (by simp at h)⟩
theorem but_turned {W W' : World} {b : Nat} (h : W.mapTurned W' b) : But (fun k => k = b) W W' := by
  have hg := h.grown
  exact ⟨hg.os, hg.tape, hg.output, hg.size, fun k hk hd => hg.block k hk (fun e => hd (by cases e; rfl))⟩
theorem MapK.look [DecidableEq κ] (K : KeyKind kt ke lit ok) {mt : TypeId} (hmt : Try.prog.underlying mt = some (.map kt 3)) (h : MapK kt lit ok b L W) {k : κ} (hk : ok k) :
    (Instr.lookup mt (.map (some b)) (ke k) true).run Try.prog W = .ok (.tuple #[.int .i64 (if k ∈ L then (idxK L k : Int) else 0), .bool (decide (k ∈ L))]) W := by
  obtain ⟨D, h1, h2, h3, h4⟩ := h.own
  obtain ⟨v, ps, hr, hv⟩ := h1.look_ok K.law hmt (Try.zeroValue3 W) (zd := .held (.int .i64 0)) (zp := []) rfl (K.key k hk)
  have hhas : Maps.has D (lit k) = decide (k ∈ L) := by
    rw [Bool.eq_iff_iff, decide_eq_true_eq, h3]
    constructor
    · rintro ⟨t, ht, e⟩; rw [← K.one (h.good t ht) hk e]; exact ht
    · intro hx; exact ⟨k, hx, rfl⟩
  rw [hr, hhas]
  by_cases hm : k ∈ L
  · rw [h4 (idxK L k) k (idxK_get hm)] at hv
    rw [heldR_inv hv, if_pos hm]
  · rw [atKey_of_not_has (by rw [hhas]; simpa using hm)] at hv
    rw [heldR_inv hv, if_neg hm]
theorem MapK.look_yes [DecidableEq κ] (K : KeyKind kt ke lit ok) {mt : TypeId} (hmt : Try.prog.underlying mt = some (.map kt 3)) (h : MapK kt lit ok b L W) {k : κ} (hk : ok k) (hm : k ∈ L) :
    (Instr.lookup mt (.map (some b)) (ke k) true).run Try.prog W = .ok (.tuple #[.int .i64 (idxK L k : Int), .bool true]) W := by
  rw [h.look K hmt hk, if_pos hm, decide_eq_true hm]
theorem MapK.look_no [DecidableEq κ] (K : KeyKind kt ke lit ok) {mt : TypeId} (hmt : Try.prog.underlying mt = some (.map kt 3)) (h : MapK kt lit ok b L W) {k : κ} (hk : ok k) (hm : k ∉ L) :
    (Instr.lookup mt (.map (some b)) (ke k) true).run Try.prog W = .ok (.tuple #[.int .i64 0, .bool false]) W := by
  rw [h.look K hmt hk, if_neg hm, decide_eq_false hm]
theorem MapK.store (K : KeyKind kt ke lit ok) {mt : TypeId} (hmt : Try.prog.underlying mt = some (.map kt 3)) (h : MapK kt lit ok b L W) (hn : L.length < 1000000000) {k : κ} (hk : ok k) (hm : k ∉ L) :
    ∃ W', (Instr.mapUpdate mt (.map (some b)) (ke k) (.int .i64 L.length)).run Try.prog W = .ok () W' ∧ MapK kt lit ok b (L ++ [k]) W' ∧ But (fun k => k = b) W W' ∧ W'.heap.size = W.heap.size := by
  obtain ⟨D, h1, h2, h3, h4⟩ := h.own
  obtain ⟨W', hr, ho, hmt'⟩ := h1.store K.law hmt (by unfold maxLen; omega) (key := ke k) (val := .int .i64 L.length) (kl := lit k) (d := .held (.int .i64 L.length)) (ps := []) (K.key k hk) rfl
  have hb := but_turned hmt'
  have ht := h1.tidy K.law
  have hM := h1.isMap
  have hkey := K.lit hk
  have hz := size_put (k := lit k) ht (.held (.int .i64 L.length))
  have hhas : Maps.has D (lit k) = false := by
    rw [Bool.eq_false_iff, ne_eq, h3]
    rintro ⟨t, ht, e⟩; rw [K.one (h.good t ht) hk e] at ht; exact hm ht
  rw [hhas, h2] at hz
  have hsz : Maps.size (D.put (lit k) (.held (.int .i64 L.length))) = (L ++ [k]).length := by rw [hz]; simp
  have hlow : W'.ownsMap Try.prog kt heldR b (L ++ [k]).length (D.put (lit k) (.held (.int .i64 L.length))) := by
    rw [← hsz]
    obtain ⟨es, clock, k1, k2, k3, k4⟩ := ho
    refine ⟨es, clock, k1, k2, ?_, k4⟩
    rw [k4]
    simp [Maps.size, length_sorted]
  refine ⟨W', hr, ⟨fun t ht => ?_, ?_, _, hlow, hsz, fun kl => ?_, fun i t hi z => ?_⟩, hb, ?_⟩
  · rcases List.mem_append.1 ht with h' | h'
    · exact h.good t h'
    · simp at h'; subst h'; exact hk
  · exact List.nodup_append.2 ⟨h.nd, by simp, fun a ha c hc => by simp at hc; subst hc; exact fun e => hm (e ▸ ha)⟩
  · by_cases e : kl = lit k
    · subst e
      rw [has_put_same hM hkey]
      simp only [true_iff]
      exact ⟨k, by simp, rfl⟩
    · rw [has_put_other e, h3]
      constructor
      · rintro ⟨t, ht, hq⟩; exact ⟨t, by simp [ht], hq⟩
      · rintro ⟨t, ht, hq⟩
        rcases List.mem_append.1 ht with h' | h'
        · exact ⟨t, h', hq⟩
        · simp at h'; subst h'; exact absurd hq.symm e
  · by_cases hil : i < L.length
    · rw [List.getElem?_append_left hil] at hi
      have htL := List.mem_of_getElem? hi
      rw [atKey_put_other (fun e' => hm (by rw [← K.one (h.good t htL) hk e']; exact htL))]
      exact h4 i t hi z
    · obtain rfl : i = L.length := by
        have := (List.getElem?_eq_some_iff.1 hi).1
        simp at this; omega
      simp at hi
      subst hi
      exact atKey_put_same hM hkey _ _
  · obtain ⟨es, clock, es', clock', _, rfl⟩ := hmt'
    simp [ChangeMaps.setBlock]
end
end Go.Proofs.Ytdalomibilicfaa
