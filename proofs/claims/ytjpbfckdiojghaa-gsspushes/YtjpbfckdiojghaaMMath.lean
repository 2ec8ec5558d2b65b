/- Stacks: a fit stack is its spots and the links between spots: two with the same are the same. -/
import Derived.Test.YtjpbfckdiojghaaKMath
namespace Go.Proofs.Ytjpbfckdiojghaa
open Go.RowKit

/-- The spots of a stack; from which to which a link leads. -/
def VG (l : List Gn) (s : Sp) : Prop := ∃ x ∈ l, spG x = s
def EG (l : List Gn) (s t : Sp) : Prop := ∃ x ∈ l, spG x = s ∧ ∃ j ∈ x.links, 0 ≤ j ∧ ∃ y, l[j.toNat]? = some y ∧ spG y = t
theorem upS_ext : ∀ {a b : List Sp}, a.Pairwise ltS → b.Pairwise ltS → (∀ s, s ∈ a ↔ s ∈ b) → a = b
  | [], [], _, _, _ => rfl
  | [], y :: b, _, _, h => by have := (h y).2 (by simp); simp at this
  | x :: a, [], _, _, h => by have := (h x).1 (by simp); simp at this
  | x :: a, y :: b, ha, hb, h => by
    obtain ⟨ha1, ha2⟩ := List.pairwise_cons.1 ha
    obtain ⟨hb1, hb2⟩ := List.pairwise_cons.1 hb
    have hxy : x = y := by
      rcases List.mem_cons.1 ((h x).1 (by simp)) with e | hx
      · exact e
      · rcases List.mem_cons.1 ((h y).2 (by simp)) with e | hy
        · exact e.symm
        · exact absurd (ltS_trans (hb1 x hx) (ha1 y hy)) (ltS_irrefl _)
    subst hxy
    rw [upS_ext ha2 hb2 (fun s => ?_)]
    constructor
    · intro hs
      rcases List.mem_cons.1 ((h s).1 (by simp [hs])) with e | h'
      · subst e; exact absurd (ha1 _ hs) (ltS_irrefl _)
      · exact h'
    · intro hs
      rcases List.mem_cons.1 ((h s).2 (by simp [hs])) with e | h'
      · subst e; exact absurd (hb1 _ hs) (ltS_irrefl _)
      · exact h'
theorem spot_one {l : List Gn} (h : UpG l) {i j : Nat} {x y : Gn} (hx : l[i]? = some x) (hy : l[j]? = some y) (e : spG x = spG y) : i = j := by
  obtain ⟨hi, rfl⟩ := List.getElem?_eq_some_iff.1 hx
  obtain ⟨hj, rfl⟩ := List.getElem?_eq_some_iff.1 hy
  rcases Nat.lt_trichotomy i j with h' | h' | h'
  · have := h.at hi hj h'; rw [e] at this; exact absurd this (ltS_irrefl _)
  · exact h'
  · have := h.at hj hi h'; rw [e] at this; exact absurd this (ltS_irrefl _)
theorem fit_ext {a b : List Gn} (ha : fitP a) (hb : fitP b) (hV : ∀ s, VG a s ↔ VG b s) (hE : ∀ s t, EG a s t ↔ EG b s t) : a = b := by
  have hm : a.map spG = b.map spG := upS_ext (spG_up.1 ha.up) (spG_up.1 hb.up) (fun s => by simpa [VG] using hV s)
  have hl : a.length = b.length := by simpa using congrArg List.length hm
  have hsp : ∀ (i : Nat) (x y : Gn), a[i]? = some x → b[i]? = some y → spG x = spG y := fun i x y hx hy => by
    have := congrArg (fun (l : List Sp) => l[i]?) hm
    simp only [List.getElem?_map, hx, hy, Option.map_some] at this
    exact Option.some.inj this
  have key : ∀ {a b : List Gn}, fitP a → fitP b → a.length = b.length → (∀ (i : Nat) (x y : Gn), a[i]? = some x → b[i]? = some y → spG x = spG y) → (∀ s t, EG a s t → EG b s t) → ∀ (i : Nat) (x y : Gn), a[i]? = some x → b[i]? = some y → ∀ j ∈ x.links, j ∈ y.links := fun {a b} ha hb hl hsp hE i x y hx hy j hj => by
    obtain ⟨hj0, z, hz, _⟩ := (ha.at_ hx).2.2.2 j hj
    obtain ⟨x', hx', e1, j', hj', hj0', z', hz', e2⟩ := hE _ _ ⟨x, List.mem_of_getElem? hx, rfl, j, hj, hj0, z, hz, rfl⟩
    obtain ⟨k, hk⟩ := List.getElem?_of_mem hx'
    have hki : k = i := spot_one hb.up hk hy (e1.trans (hsp i x y hx hy))
    subst hki
    rw [hk] at hy
    have hxy := Option.some.inj hy
    have hjl : j.toNat < b.length := by rw [← hl]; exact (List.getElem?_eq_some_iff.1 hz).1
    have hbz := List.getElem?_eq_getElem hjl
    have := spot_one hb.up hz' hbz (e2.trans (hsp _ _ _ hz hbz))
    have hjj : j' = j := by omega
    rw [← hjj, ← hxy]
    exact hj'
  apply List.ext_getElem?
  intro i
  rcases Nat.lt_or_ge i a.length with hi | hi
  · have hx := List.getElem?_eq_getElem hi
    have hy := List.getElem?_eq_getElem (show i < b.length by omega)
    rw [hx, hy]
    have e1 := hsp i _ _ hx hy
    have e2 : a[i].links = (b[i]'(by omega)).links := up_ext (ha.at_ hx).2.2.1 (hb.at_ hy).2.2.1 (fun j => ⟨key ha hb hl hsp (fun s t => (hE s t).1) i _ _ hx hy j, key hb ha hl.symm (fun i x y h1 h2 => (hsp i y x h2 h1).symm) (fun s t => (hE s t).2) i _ _ hy hx j⟩)
    congr 1
    generalize a[i] = x at *
    generalize (b[i]'(by omega)) = y at *
    obtain ⟨s1, p1, l1⟩ := x
    obtain ⟨s2, p2, l2⟩ := y
    simp [spG] at e1 e2
    simp [e1, e2]
  · rw [List.getElem?_eq_none hi, List.getElem?_eq_none (by omega)]
/-- A stack that is what two others have. -/
structure Joins2 (a b m : List Gn) : Prop where
  fit : fitP m
  spots : ∀ s, VG m s ↔ VG a s ∨ VG b s
  links : ∀ s t, EG m s t ↔ EG a s t ∨ EG b s t
theorem Joins2.one {a b m m' : List Gn} (h : Joins2 a b m) (h' : Joins2 a b m') : m = m' := fit_ext h.fit h'.fit (fun s => (h.spots s).trans (h'.spots s).symm) (fun s t => (h.links s t).trans (h'.links s t).symm)
theorem Joins2.comm {a b m m' : List Gn} (h : Joins2 a b m) (h' : Joins2 b a m') : m = m' := fit_ext h.fit h'.fit (fun s => by rw [h.spots, h'.spots, or_comm]) (fun s t => by rw [h.links, h'.links, or_comm])
theorem or_twice {p q : Prop} : (p ∨ q) ∨ p ↔ p ∨ q := ⟨fun h => h.elim id .inl, .inl⟩
theorem Joins2.twice {a b m m' : List Gn} (h : Joins2 a b m) (h' : Joins2 m a m') : m' = m := fit_ext h'.fit h.fit (fun s => by rw [h'.spots, h.spots, or_twice]) (fun s t => by rw [h'.links, h.links, or_twice])
theorem Joins2.assoc {a b c m n p q : List Gn} (h1 : Joins2 a b m) (h2 : Joins2 m c n) (h3 : Joins2 b c p) (h4 : Joins2 a p q) : n = q := fit_ext h2.fit h4.fit (fun s => by rw [h2.spots, h1.spots, h4.spots, h3.spots, or_assoc]) (fun s t => by rw [h2.links, h1.links, h4.links, h3.links, or_assoc])
end Go.Proofs.Ytjpbfckdiojghaa
