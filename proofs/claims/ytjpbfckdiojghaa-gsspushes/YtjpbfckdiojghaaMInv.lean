/- Stacks: what is laid of stacks onto the nodes of all their spots. -/
import Derived.Test.YtjpbfckdiojghaaMNums
namespace Go.Proofs.Ytjpbfckdiojghaa
open Go.RowKit

/-- M: a node a spot of S; of those of V the spot is written, the links are those of E. -/
structure InvM (S : List Sp) (V : Sp → Prop) (E : Sp → Sp → Prop) (M : List Gn) : Prop where
  len : M.length = S.length
  sp : ∀ (p : Nat) (x : Gn) (s : Sp), M[p]? = some x → S[p]? = some s → V s → spG x = s
  sound : ∀ (p : Nat) (x : Gn) (s : Sp), M[p]? = some x → S[p]? = some s → ∀ j ∈ x.links, ∃ (q : Nat) (t : Sp), j = q ∧ S[q]? = some t ∧ E s t
  full : ∀ (p : Nat) (x : Gn) (s : Sp) (q : Nat) (t : Sp), M[p]? = some x → S[p]? = some s → S[q]? = some t → E s t → (q : Int) ∈ x.links
theorem nodup_at {S : List Sp} (h : S.Nodup) {p q : Nat} {s : Sp} (hp : S[p]? = some s) (hq : S[q]? = some s) : p = q := by rw [← posS_at h hp, posS_at h hq]
theorem InvM.congr {S : List Sp} {V V' : Sp → Prop} {E E' : Sp → Sp → Prop} {M : List Gn} (h : InvM S V E M) (hV : ∀ s, V' s → V s) (hE : ∀ s t, E s t ↔ E' s t) : InvM S V' E' M :=
  ⟨h.len, fun p x s hx hs hv => h.sp p x s hx hs (hV s hv), fun p x s hx hs j hj => by obtain ⟨q, t, e, ht, he⟩ := h.sound p x s hx hs j hj; exact ⟨q, t, e, ht, (hE s t).1 he⟩, fun p x s q t hx hs ht he => h.full p x s q t hx hs ht ((hE s t).2 he)⟩
theorem InvM.start {S : List Sp} {n : Nat} (hn : n = S.length) : InvM S (fun _ => False) (fun _ _ => False) (List.replicate n ⟨0, 0, []⟩) := by
  refine ⟨by simp [hn], fun p x s _ _ h => h.elim, fun p x s hx _ j hj => ?_, fun p x s q t _ _ _ h => h.elim⟩
  obtain ⟨_, rfl⟩ := List.getElem?_eq_some_iff.1 hx
  simp at hj
theorem set_cases {M : List Gn} {p q : Nat} {y z : Gn} (h : (M.set p y)[q]? = some z) : (q = p ∧ z = y ∧ p < M.length) ∨ (q ≠ p ∧ M[q]? = some z) := by
  by_cases e : p = q
  · subst e
    have hl : p < M.length := by
      have := (List.getElem?_eq_some_iff.1 h).1
      simpa using this
    rw [List.getElem?_set_self hl] at h
    exact .inl ⟨rfl, (Option.some.inj h).symm, hl⟩
  · rw [List.getElem?_set_ne e] at h
    exact .inr ⟨Ne.symm e, h⟩
theorem InvM.setSp {S : List Sp} {V : Sp → Prop} {E : Sp → Sp → Prop} {M : List Gn} (h : InvM S V E M) (hnd : S.Nodup) {p : Nat} {x : Gn} {s : Sp} (hx : M[p]? = some x) (hs : S[p]? = some s) : InvM S (fun u => V u ∨ u = s) E (M.set p ⟨s.2, s.1, x.links⟩) := by
  refine ⟨by simp [h.len], fun q y u hy hu hv => ?_, fun q y u hy hu j hj => ?_, fun q y u r t hy hu ht he => ?_⟩
  · rcases set_cases hy with ⟨rfl, rfl, _⟩ | ⟨hne, hy'⟩
    · rw [hs] at hu; cases hu; rfl
    · rcases hv with hv | rfl
      · exact h.sp q y u hy' hu hv
      · exact absurd (nodup_at hnd hu hs) hne
  · rcases set_cases hy with ⟨rfl, rfl, _⟩ | ⟨hne, hy'⟩
    · exact h.sound _ x u hx hu j hj
    · exact h.sound q y u hy' hu j hj
  · rcases set_cases hy with ⟨rfl, rfl, _⟩ | ⟨hne, hy'⟩
    · exact h.full _ x u r t hx hu ht he
    · exact h.full q y u r t hy' hu ht he
theorem InvM.addLink {S : List Sp} {V : Sp → Prop} {E : Sp → Sp → Prop} {M : List Gn} (h : InvM S V E M) (hnd : S.Nodup) {p q : Nat} {x : Gn} {s t : Sp} (hx : M[p]? = some x) (hs : S[p]? = some s) (ht : S[q]? = some t) : InvM S V (fun u v => E u v ∨ (u = s ∧ v = t)) (M.set p ⟨x.st, x.pl, x.links ++ [(q : Int)]⟩) := by
  refine ⟨by simp [h.len], fun r y u hy hu hv => ?_, fun r y u hy hu j hj => ?_, fun r y u r' t' hy hu ht' he => ?_⟩
  · rcases set_cases hy with ⟨rfl, rfl, _⟩ | ⟨hne, hy'⟩
    · exact h.sp _ x u hx hu hv
    · exact h.sp r y u hy' hu hv
  · rcases set_cases hy with ⟨rfl, rfl, _⟩ | ⟨hne, hy'⟩
    · rcases List.mem_append.1 hj with hj | hj
      · obtain ⟨q', t', e, ht', he⟩ := h.sound _ x u hx hu j hj
        exact ⟨q', t', e, ht', .inl he⟩
      · simp at hj
        rw [hs] at hu; cases hu
        exact ⟨q, t, hj, ht, .inr ⟨rfl, rfl⟩⟩
    · obtain ⟨q', t', e, ht', he⟩ := h.sound r y u hy' hu j hj
      exact ⟨q', t', e, ht', .inl he⟩
  · rcases set_cases hy with ⟨rfl, rfl, _⟩ | ⟨hne, hy'⟩
    · rcases he with he | ⟨_, rfl⟩
      · exact List.mem_append_left _ (h.full _ x u r' t' hx hu ht' he)
      · rw [nodup_at hnd ht' ht]; simp
    · rcases he with he | ⟨rfl, rfl⟩
      · exact h.full r y u r' t' hy' hu ht' he
      · exact absurd (nodup_at hnd hu hs) hne
theorem EG.spots {l : List Gn} {s t : Sp} (h : EG l s t) : VG l s ∧ VG l t := by
  obtain ⟨x, hx, e, j, _, _, y, hy, e'⟩ := h
  exact ⟨⟨x, hx, e⟩, ⟨y, List.mem_of_getElem? hy, e'⟩⟩
theorem EG.le {l : List Gn} (hf : fitP l) {s t : Sp} (h : EG l s t) : t.1 ≤ s.1 := by
  obtain ⟨x, hx, e, j, hj, _, y, hy, e'⟩ := h
  obtain ⟨i, hi⟩ := List.getElem?_of_mem hx
  obtain ⟨_, z, hz, hle⟩ := (hf.at_ hi).2.2.2 j hj
  rw [hz] at hy; cases hy
  rw [← e, ← e']; exact hle
theorem VG.num {l : List Gn} (hf : fitP l) {s : Sp} (h : VG l s) : numB s.2 = true ∧ numB s.1 = true := by
  obtain ⟨x, hx, rfl⟩ := h
  obtain ⟨i, hi⟩ := List.getElem?_of_mem hx
  exact ⟨(hf.at_ hi).1, (hf.at_ hi).2.1⟩
/-- What is made of it when all is laid, and the links stand in order. -/
theorem InvM.joins {S : List Sp} {a b M m : List Gn} (h : InvM S (fun s => VG a s ∨ VG b s) (fun s t => EG a s t ∨ EG b s t) M) (ha : fitP a) (hb : fitP b) (hup : S.Pairwise ltS) (hS : MetB (fun s => VG a s ∨ VG b s) S) (hl : S.length ≤ 4096)
    (hml : m.length = M.length) (hm : ∀ (p : Nat) (x y : Gn), M[p]? = some x → m[p]? = some y → y.st = x.st ∧ y.pl = x.pl ∧ UpL y.links ∧ ∀ j, j ∈ y.links ↔ j ∈ x.links) : Joins2 a b m := by
  have hnd := up_nodup hup
  have hlen : m.length = S.length := hml.trans h.len
  -- a node of m and its spot
  have key : ∀ (p : Nat) (y : Gn), m[p]? = some y → ∃ x s, M[p]? = some x ∧ S[p]? = some s ∧ spG y = s ∧ s ∈ S ∧ UpL y.links ∧ ∀ j, j ∈ y.links ↔ j ∈ x.links := fun p y hy => by
    have hp := (List.getElem?_eq_some_iff.1 hy).1
    have hx := List.getElem?_eq_getElem (l := M) (i := p) (by omega)
    have hs := List.getElem?_eq_getElem (l := S) (i := p) (by omega)
    obtain ⟨e1, e2, e3, e4⟩ := hm p _ y hx hy
    have hv := (hS _).1 (List.mem_of_getElem? hs)
    have h5 := h.sp p _ _ hx hs hv
    refine ⟨_, _, hx, hs, ?_, List.mem_of_getElem? hs, e3, e4⟩
    rw [← h5]; unfold spG; rw [e1, e2]
  have at_ : ∀ (p : Nat) (s : Sp), S[p]? = some s → ∃ y, m[p]? = some y ∧ spG y = s := fun p s hs => by
    have hp := (List.getElem?_eq_some_iff.1 hs).1
    have hy := List.getElem?_eq_getElem (l := m) (i := p) (by omega)
    obtain ⟨x, s', _, hs', e, _⟩ := key p _ hy
    rw [hs] at hs'; cases hs'
    exact ⟨_, hy, e⟩
  have hmap : m.map spG = S := by
    apply List.ext_getElem?
    intro p
    rw [List.getElem?_map]
    cases hy : m[p]? with
    | none =>
      rw [List.getElem?_eq_none_iff] at hy
      rw [List.getElem?_eq_none (by omega)]; rfl
    | some y =>
      obtain ⟨x, s, _, hs, e, _⟩ := key p y hy
      rw [hs, ← e]; rfl
  have num : ∀ s ∈ S, numB s.2 = true ∧ numB s.1 = true := fun s hs => ((hS s).1 hs).elim (VG.num ha) (VG.num hb)
  have edge : ∀ (p : Nat) (y : Gn), m[p]? = some y → ∀ j ∈ y.links, ∃ (q : Nat) (z : Gn), j = q ∧ m[q]? = some z ∧ (EG a (spG y) (spG z) ∨ EG b (spG y) (spG z)) := fun p y hy j hj => by
    obtain ⟨x, s, hx, hs, e, _, _, h4⟩ := key p y hy
    obtain ⟨q, t, ej, ht, he⟩ := h.sound p x s hx hs j ((h4 j).1 hj)
    obtain ⟨z, hz, ez⟩ := at_ q t ht
    exact ⟨q, z, ej, hz, by rw [e, ez]; exact he⟩
  refine ⟨fit_of (by omega) (spG_up.2 (by rw [hmap]; exact hup)) (fun y hy => ?_), fun s => ?_, fun s t => ?_⟩
  · obtain ⟨p, hp⟩ := List.getElem?_of_mem hy
    obtain ⟨x, s, hx, hs, e, hsS, hu, _⟩ := key p y hp
    have hn := num s hsS
    rw [← e] at hn
    refine ⟨hn.1, hn.2, hu, fun j hj => ?_⟩
    obtain ⟨q, z, rfl, hz, he⟩ := edge p y hp j hj
    refine ⟨by omega, z, by simpa using hz, ?_⟩
    exact he.elim (EG.le ha) (EG.le hb)
  · refine Iff.trans ?_ (hS s)
    constructor
    · rintro ⟨y, hy, rfl⟩; rw [← hmap]; exact List.mem_map_of_mem hy
    · intro hs; rw [← hmap] at hs; obtain ⟨y, hy, e⟩ := List.mem_map.1 hs; exact ⟨y, hy, e⟩
  · constructor
    · rintro ⟨y, hy, rfl, j, hj, _, z, hz, rfl⟩
      obtain ⟨p, hp⟩ := List.getElem?_of_mem hy
      obtain ⟨q, z', rfl, hz', he⟩ := edge p y hp j hj
      simp at hz
      rw [hz'] at hz; cases hz
      exact he
    · intro he
      have hst : (VG a s ∨ VG b s) ∧ (VG a t ∨ VG b t) := he.elim (fun h => ⟨.inl h.spots.1, .inl h.spots.2⟩) (fun h => ⟨.inr h.spots.1, .inr h.spots.2⟩)
      obtain ⟨p, hp⟩ := List.getElem?_of_mem ((hS s).2 hst.1)
      obtain ⟨q, hq⟩ := List.getElem?_of_mem ((hS t).2 hst.2)
      obtain ⟨y, hy, ey⟩ := at_ p s hp
      obtain ⟨z, hz, ez⟩ := at_ q t hq
      obtain ⟨x, s', hx, hs', _, _, _, h4⟩ := key p y hy
      exact ⟨y, List.mem_of_getElem? hy, ey, q, (h4 _).2 (h.full p x s q t hx hp hq he), by omega, z, by simpa using hz, ez⟩
end Go.Proofs.Ytjpbfckdiojghaa
