/- Stacks: a node's state and place stored; what is laid, node by node. -/
import Derived.Test.YtjpbfckdiojghaaMInv
import Derived.Test.YtjpbfckdiojghaaPPush2
namespace Go.Proofs.Ytjpbfckdiojghaa
open Go.RowKit

theorem flatG_set3 (s p : Int) : ∀ (L : List GnV) (i : Nat) (x : Gn) (u : Value), L[i]? = some (x, u) → ((L.flatMap encG).set (i * 3) (.int .i64 s)).set (i * 3 + 1) (.int .i64 p) = (L.set i (⟨s, p, x.links⟩, u)).flatMap encG
  | [], i, x, u, h => by simp at h
  | q :: L, 0, x, u, h => by
    simp at h
    subst h
    simp [encG]
  | q :: L, i + 1, x, u, h => by
    simp at h
    rw [List.flatMap_cons, List.set_cons_succ, List.flatMap_cons, ← flatG_set3 s p L i x u h, List.set_append_right _ _ (by rw [encG_len]; omega), List.set_append_right _ _ (by rw [encG_len]; omega), encG_len]
    congr 2
    · congr 1; omega
    · omega
/-- A node's state and place are others. -/
theorem OwnS.setHead {B : Nat} {L : List GnV} {g n c : Nat} {W : World} (h : OwnS B L (.slice (some ⟨g, 0, none⟩) n c) W) {i : Nat} {x : Gn} {u : Value} {s p : Int} (hi : L[i]? = some (x, u)) (hs : i64B s) (hp : i64B p) :
    OwnS B (L.set i (⟨s, p, x.links⟩, u)) (.slice (some ⟨g, 0, none⟩) n c) ((W.setCell ⟨g, i * 3, none⟩ (.int .i64 s)).setCell ⟨g, i * 3 + 1, none⟩ (.int .i64 p)) := by
  have hm := List.mem_of_getElem? hi
  have hil := (List.getElem?_eq_some_iff.1 hi).1
  have hok := h.ok _ hm
  have hn : n = L.length := by
    rcases h.nodes.2 with ⟨e, _⟩ | ⟨_, _, _, e, _⟩
    · simp at e
    · simp at e; exact e.2.1
  subst hn
  have hb2 : But (fun j => j = g) W ((W.setCell ⟨g, i * 3, none⟩ (.int .i64 s)).setCell ⟨g, i * 3 + 1, none⟩ (.int .i64 p)) := But.setCell (But.setCell (But.refl (fun j => j = g) W) _ _ (.inr rfl)) _ _ (.inr rfl)
  have hog : ∀ (v : Value) (m : Nat) (ys : List Value), W.ownsRow B 3 1 v m ys → ∀ j, v.ownBlock = some j → ¬ j = g := fun v m ys hv j hj e => own_types h.nodes hv (by decide) g rfl (by rw [← e]; exact hj)
  refine ⟨?_, fun q hq => ?_, ?_, fun q hq => ?_⟩
  · have h1 := (World.ownsRow.stored h.nodes (i * 3) (.int .i64 s)).1
    have h2 := (World.ownsRow.stored h1 (i * 3 + 1) (.int .i64 p)).1
    rw [flatG_set3 s p L i x u hi] at h2
    simpa using h2
  · obtain ⟨j, hj⟩ := List.getElem?_of_mem hq
    by_cases hij : i = j
    · subst hij
      rw [List.getElem?_set_self hil] at hj
      cases hj
      have h1 : OwnI B x.links u W := h.links (x, u) hm
      exact ownsRow_keep h1 hb2 (hog _ _ _ h1.own)
    · rw [List.getElem?_set_ne hij] at hj
      have h1 := h.links q (List.mem_of_getElem? hj)
      exact ownsRow_keep h1 hb2 (hog _ _ _ h1.own)
  · rw [List.pairwise_iff_getElem]
    intro a b ha hb hab
    simp only [List.length_set] at ha hb
    have h2 := List.pairwise_iff_getElem.1 h.part a b ha hb hab
    have hv : ∀ k (hk : k < L.length), ((L.set i (⟨s, p, x.links⟩, u))[k]'(by simpa using hk)).2 = L[k].2 := fun k hk => by
      rw [List.getElem_set]
      split
      · rename_i e; subst e
        have : L[i] = (x, u) := by rw [List.getElem?_eq_getElem hk] at hi; exact Option.some.inj hi
        rw [this]
      · rfl
    unfold partV at *
    rw [hv a ha, hv b hb]
    exact h2
  · rcases List.mem_or_eq_of_mem_set hq with hq | rfl
    · exact h.ok q hq
    · exact ⟨hs, hp, hok.2.2.1, hok.2.2.2⟩
theorem cell_set_other (W : World) (g o k j : Nat) (v : Value) (h : k ≠ g) : (W.setCell ⟨g, o, none⟩ v).cell? ⟨k, j, none⟩ = W.cell? ⟨k, j, none⟩ := World.cell?_of_block (set_block W g o k v h)
theorem frozen_set (W : World) (a : Addr) (v : Value) (b : Addr) : (W.setCell a v).frozen? b = W.frozen? b := by
  simp
theorem cell_lt {W : World} {b o : Nat} {v : Value} (h : W.cell? ⟨b, o, none⟩ = some v) : b < W.heap.size := by
  unfold World.cell? at h
  cases hb : W.heap[b]? with
  | none => simp [hb] at h
  | some x => exact blk_lt hb
/-- The links of the first i nodes; of a node's first k links. -/
def EdK (g : List Gn) (x : Gn) (k : Nat) (s t : Sp) : Prop := s = spG x ∧ ∃ j ∈ x.links.take k, ∃ y, g[j.toNat]? = some y ∧ t = spG y
def EdN (g : List Gn) (i : Nat) (s t : Sp) : Prop := ∃ x ∈ g.take i, EdK g x x.links.length s t
theorem EdN.succ {g : List Gn} {i : Nat} {x : Gn} (h : g.take (i + 1) = g.take i ++ [x]) (s t : Sp) : EdN g (i + 1) s t ↔ EdN g i s t ∨ EdK g x x.links.length s t := by
  unfold EdN
  rw [h]
  constructor
  · rintro ⟨y, hy, e⟩
    rcases List.mem_append.1 hy with hy | hy
    · exact .inl ⟨y, hy, e⟩
    · simp at hy; subst hy; exact .inr e
  · rintro (⟨y, hy, e⟩ | e)
    · exact ⟨y, by simp [hy], e⟩
    · exact ⟨x, by simp, e⟩
theorem EdN.all {g : List Gn} (hf : fitP g) (s t : Sp) : EdN g g.length s t ↔ EG g s t := by
  unfold EdN EdK EG
  rw [List.take_length]
  constructor
  · rintro ⟨x, hx, rfl, j, hj, y, hy, rfl⟩
    rw [List.take_length] at hj
    exact ⟨x, hx, rfl, j, hj, (hf.links x hx j hj).1, y, hy, rfl⟩
  · rintro ⟨x, hx, rfl, j, hj, _, y, hy, rfl⟩
    exact ⟨x, hx, rfl, j, by rw [List.take_length]; exact hj, y, hy, rfl⟩
theorem EdK.succ {g : List Gn} {x y : Gn} {k : Nat} {j : Int} (hj : x.links.take (k + 1) = x.links.take k ++ [j]) (hy : g[j.toNat]? = some y) (s t : Sp) : EdK g x (k + 1) s t ↔ EdK g x k s t ∨ (s = spG x ∧ t = spG y) := by
  unfold EdK
  rw [hj]
  constructor
  · rintro ⟨e, j', hj', y', hy', e'⟩
    rcases List.mem_append.1 hj' with h | h
    · exact .inl ⟨e, j', h, y', hy', e'⟩
    · simp at h; subst h
      rw [hy] at hy'; cases hy'
      exact .inr ⟨e, e'⟩
  · rintro (⟨e, j', hj', y', hy', e'⟩ | ⟨e, e'⟩)
    · exact ⟨e, j', by simp [hj'], y', hy', e'⟩
    · exact ⟨e, j, by simp, y, hy, e'⟩
end Go.Proofs.Ytjpbfckdiojghaa
