/- Stacks: a stack in memory of one's own: its row of nodes, and each node's row of links, apart from one another. -/
import Derived.Test.YtjpbfckdiojghaaGBack
namespace Go.Proofs.Ytjpbfckdiojghaa
open Go.RowKit

abbrev GnV := Gn × Value
def encG (p : GnV) : List Value := [.int .i64 p.1.st, .int .i64 p.1.pl, p.2]
theorem encG_len (p : GnV) : (encG p).length = 3 := rfl
def partV (p q : GnV) : Prop := ∀ k, p.2.ownBlock = some k → q.2.ownBlock ≠ some k
def okG (x : Gn) : Prop := i64B x.st ∧ i64B x.pl ∧ (∀ y ∈ x.links, i64B y) ∧ x.links.length ≤ 1000000
structure OwnS (B : Nat) (L : List GnV) (v : Value) (W : World) : Prop where
  nodes : W.ownsRow B 35 3 v L.length (L.flatMap encG)
  links : ∀ p ∈ L, OwnI B p.1.links p.2 W
  part : L.Pairwise partV
  ok : ∀ p ∈ L, okG p.1
theorem own_types {W : World} {B B' n n' k k' : Nat} {e e' : TypeId} {v v' : Value} {xs ys : List Value} (h : W.ownsRow B e k v n xs) (h' : W.ownsRow B' e' k' v' n' ys) (he : e ≠ e') : ∀ j, v.ownBlock = some j → v'.ownBlock ≠ some j := by
  intro j hj hj'
  rcases h.2 with ⟨rfl, _⟩ | ⟨g, cap, cur, rfl, _, hg, _⟩
  · cases hj
  rcases h'.2 with ⟨rfl, _⟩ | ⟨g', cap', cur', rfl, _, hg', _⟩
  · cases hj'
  cases hj
  cases hj'
  rw [hg] at hg'
  simp at hg'
  exact he hg'.2
theorem OwnI.own {B : Nat} {l : List Int} {v : Value} {W : World} (h : OwnI B l v W) : W.ownsRow B 3 1 v l.length (l.map encI) := h
theorem OwnI.sl {B : Nat} {l : List Int} {v : Value} {W : World} (h : OwnI B l v W) (hi : ∀ y ∈ l, i64B y) : SlI l v W := sli_own (B := B) h hi
/-- As a stack that is read. -/
theorem OwnS.sl {B : Nat} {L : List GnV} {v : Value} {W : World} (h : OwnS B L v W) (hlen : L.length ≤ 1000000) : SlN (L.map Prod.fst) v W := by
  rcases Nat.eq_zero_or_pos L.length with h0 | h0
  · have hL : L = [] := List.eq_nil_of_length_eq_zero h0
    subst hL
    rcases h.nodes.2 with ⟨rfl, _⟩ | ⟨g, cap, cur, rfl, hB, hg, hle, _⟩
    · exact SlN.nil W
    · exact ⟨_, cap, rfl, fun i x hx => by simp at hx, fun e => (by cases e), by simp, by simp⟩
  · obtain ⟨g, cap, rfl, hg, hle, hc⟩ := own_cells encG_len h.nodes h0
    refine ⟨some ⟨g, 0, none⟩, cap, by simp, fun i x hx => ?_, fun e => (by cases e), by simpa using hle, by simp; omega⟩
    rw [List.getElem?_map] at hx
    obtain ⟨p, hp, rfl⟩ := Option.map_eq_some_iff.1 hx
    have hm := List.mem_of_getElem? hp
    have hok := h.ok p hm
    have c0 := hc i 0 p _ hp (by omega) rfl
    have c1 := hc i 1 p _ hp (by omega) rfl
    have c2 := hc i 2 p _ hp (by omega) rfl
    exact ⟨g, 0, p.2, rfl, hg, by simpa using c0, by simpa using c1, by simpa using c2, (h.links p hm).sl hok.2.2.1, hok.1, hok.2.1, by have := hok.2.2.2; omega⟩
theorem OwnS.nil (B : Nat) (W : World) : OwnS B [] (.slice none 0 0) W := ⟨World.ownsRow_nil _ _ _ _, fun p h => (by cases h), List.Pairwise.nil, fun p h => (by cases h)⟩
/-- Kept where none of its blocks is turned. -/
theorem OwnS.keep {B : Nat} {L : List GnV} {v : Value} {W W' : World} {D : Nat → Prop} (h : OwnS B L v W) (hb : But D W W') (hd : ∀ k, D k → k < B) : OwnS B L v W' :=
  ⟨ownsRow_keep h.nodes hb (fun j hj hD => by have := (World.ownsRow.lt h.nodes j hj).1; have := hd j hD; omega), fun p hp => ownsRow_keep (h.links p hp) hb (fun j hj hD => by have := (World.ownsRow.lt (h.links p hp).own j hj).1; have := hd j hD; omega), h.part, h.ok⟩
theorem OwnS.next {B : Nat} {L : List GnV} {v : Value} {W W' : World} (h : OwnS B L v W) (hb : Below W.heap.size W W') : OwnS B L v W' := h.keep (D := fun _ => False) (But.of_next hb) (fun _ h => h.elim)
theorem flat_snoc (L : List GnV) (p : GnV) : (L ++ [p]).flatMap encG = L.flatMap encG ++ encG p := by simp
/-- One node more, behind the others. -/
theorem OwnS.snoc {B : Nat} {L : List GnV} {v v' u : Value} {x : Gn} {W W' : World} (h : OwnS B L v W) (hb : But (fun k => v.ownBlock = some k ∨ k < B) W W') (hn : W'.ownsRow B 35 3 v' (L.length + 1) (L.flatMap encG ++ [.int .i64 x.st, .int .i64 x.pl, u])) (hu : OwnI B x.links u W') (hnew : ∀ k, u.ownBlock = some k → W.heap.size ≤ k) (hx : okG x) : OwnS B (L ++ [(x, u)]) v' W' := by
  refine ⟨by rw [flat_snoc]; simpa [encG] using hn, fun p hp => ?_, ?_, fun p hp => ?_⟩
  · rcases List.mem_append.1 hp with hp | hp
    · refine ownsRow_keep (h.links p hp) hb (fun j hj hD => ?_)
      rcases hD with hD | hD
      · exact own_types h.nodes (h.links p hp).own (by decide) j hD hj
      · have := (World.ownsRow.lt (h.links p hp).own j hj).1; omega
    · simp at hp; subst hp; exact hu
  · rw [List.pairwise_append]
    refine ⟨h.part, List.pairwise_singleton _ _, fun p hp q hq k hk hk' => ?_⟩
    simp at hq; subst hq
    have h1 := (World.ownsRow.lt (h.links p hp).own k hk).2
    have h2 := hnew k hk'
    omega
  · rcases List.mem_append.1 hp with hp | hp
    · exact h.ok p hp
    · simp at hp; subst hp; exact hx
theorem own_mono {W : World} {B B' n k : Nat} {e : TypeId} {v : Value} {xs : List Value} (h : W.ownsRow B e k v n xs) (hb : B' ≤ B) : W.ownsRow B' e k v n xs := by
  refine ⟨h.1, ?_⟩
  rcases h.2 with h2 | ⟨g, cap, cur, hv, hB, rest⟩
  · exact .inl h2
  · exact .inr ⟨g, cap, cur, hv, Nat.le_trans hb hB, rest⟩
theorem OwnS.mono {B B' : Nat} {L : List GnV} {v : Value} {W : World} (h : OwnS B L v W) (hb : B' ≤ B) : OwnS B' L v W := ⟨own_mono h.nodes hb, fun p hp => own_mono (h.links p hp) hb, h.part, h.ok⟩
theorem blk_new {W : World} {k : Nat} {ob o : Obj} (h : W.heap[k]? = some ob) : (W.alloc o).heap[k]? = some ob := (((Below.refl _ W).alloc (Nat.le_refl _) o).block k (blk_lt h)).trans h
theorem RowAt.news {l : List Int} {ad : Addr} {W : World} (h : RowAt encI l (some ad) W) (hn : l = [] ∨ ad = ⟨ad.block, ad.off, none⟩) : ∀ (j : Nat) (u : Value), (l.map encI)[j]? = some u → W.cell? (ad.add j) = some u := by
  intro j u hj
  rw [List.getElem?_map] at hj
  obtain ⟨x, hx, rfl⟩ := Option.map_eq_some_iff.1 hj
  obtain ⟨b, off, e, _, h2⟩ := h j x hx
  cases e
  rw [add_plain]
  exact h2
set_option maxHeartbeats 800000 in
/-- An append of a row of numbers to one of one's own. -/
theorem wpList_append_sl {w : World} {ops : Array Oper} {rest : List Oper} {o : Oper} {a : Act} {Q : Exit → Act → World → Prop} (hgd : o.guard = none) (s x : Operand)
    (ho : o.op = .call { callee := .builtin .append, args := #[s, x], argTypes := #[33, 33] }) (B : Nat) (ys xs : List Int) (v u : Value) (hs : a.eval s = v) (hx : a.eval x = u) (hown : OwnI B ys v w) (hsl : SlI xs u w) (hlen : xs.length + ys.length ≤ 2000000) (hB : B ≤ w.heap.size)
    (h : ∀ v' w', OwnI B (ys ++ xs) v' w' → w.grownBy w' v.ownBlock → (v'.ownBlock = v.ownBlock ∨ v'.ownBlock = some w.heap.size) → wpList Try.prog ops Q rest (a.put o.dst v') w') : wpList Try.prog ops Q (o :: rest) a w := by
  obtain ⟨ii, hii, hz0, hz1, hz2⟩ := info_parts info3
  obtain ⟨ao, cap, rfl, hr, hn, _, _⟩ := hsl
  cases ao with
  | none =>
    obtain rfl : xs = [] := hr.cons_none
    obtain rfl : cap = 0 := hn rfl
    refine wpList_append_own_none hgd s x 33 ho B 3 ii 1 Try.underlying33 hii v ys.length (ys.map encI) hs hown (by simpa using hx) ?_
    exact h v w (by simpa using hown) ⟨rfl, rfl, rfl, Nat.le_refl _, fun _ _ _ => rfl⟩ (.inl rfl)
  | some ad =>
    refine wpList_append_own_at w hgd s x 33 ho B 3 ii _ 1 8 Try.underlying33 hii hz0 hz1 hz2 rfl (by decide) v ys.length (ys.map encI) hs hown ad xs.length cap (xs.map encI) hx (by simp) (hr.news (by
      cases xs with
      | nil => exact .inl rfl
      | cons y r => obtain ⟨b, off, e, _⟩ := hr 0 y rfl; cases e; exact .inr rfl)) (one_row xs) (by unfold maxLen; omega) (by omega) hB ?_
    intro v' w' h1 h2 _ h4
    exact h v' w' (by unfold OwnI; simpa using h1) h2 h4
end Go.Proofs.Ytjpbfckdiojghaa
