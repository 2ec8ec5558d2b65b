/- Stacks: a row of nodes of one's own whose links are only read. -/
import Derived.Test.YtjpbfckdiojghaaWWith
import Derived.Test.YtjpbfckdiojghaaPPaths
namespace Go.Proofs.Ytjpbfckdiojghaa
open Go.RowKit

theorem SlI.but2 {l : List Int} {v : Value} {W W' : World} {D : Nat → Prop} (h : SlI l v W) (hb : But D W W') (hd : l ≠ [] → ∀ k, v.ownBlock = some k → ¬ D k) : SlI l v W' := by
  obtain ⟨ao, cap, h0, h1, h2⟩ := h
  refine ⟨ao, cap, h0, fun i y hy => ?_, h2⟩
  obtain ⟨b, off, e, hl, hc⟩ := h1 i y hy
  have hn : ¬ D b := hd (fun e => by rw [e] at hy; simp at hy) b (by rw [h0, e]; rfl)
  exact ⟨b, off, e, Nat.lt_of_lt_of_le hl hb.size, (hb.cell (p := ⟨b, off + i, none⟩) hl hn).trans hc⟩
theorem SlI.inL {l : List Int} {v : Value} {W : World} (h : SlI l v W) (hl : l ≠ []) : ∀ k, v.ownBlock = some k → k < W.heap.size := fun k hk => by
  obtain ⟨ao, cap, h0, h1, _⟩ := h
  obtain ⟨x, l', rfl⟩ := List.exists_cons_of_ne_nil hl
  obtain ⟨b, off, e, hlt, _⟩ := h1 0 x rfl
  rw [h0, e] at hk
  have : b = k := by simpa [Value.ownBlock] using hk
  omega
theorem SlI.notBox {l : List Int} {v : Value} {W : World} {gb : Nat} {a : Option Addr} {n c : Nat} {T : TypeId} (h : SlI l v W) (hl : l ≠ []) (hg : W.heap[gb]? = some (Obj.cells #[.slice a n c] T)) : v.ownBlock ≠ some gb := fun e => by
  obtain ⟨ao, cap, h0, h1, _⟩ := h
  obtain ⟨x, l', rfl⟩ := List.exists_cons_of_ne_nil hl
  obtain ⟨b, off, eb, _, hc⟩ := h1 0 x rfl
  rw [h0, eb] at e
  have : b = gb := by simpa [Value.ownBlock] using e
  subst this
  rw [Lib.cell_of_heap hg] at hc
  match off + 0, hc with
  | 0, hc => simp [encI] at hc
  | k + 1, hc => simp at hc
def okN (x : Gn) : Prop := i64B x.st ∧ i64B x.pl ∧ x.links.length ≤ 1000000
structure RowN (B : Nat) (L : List GnV) (v : Value) (W : World) : Prop where
  nodes : W.ownsRow B 35 3 v L.length (L.flatMap encG)
  links : ∀ p ∈ L, SlI p.1.links p.2 W
  ok : ∀ p ∈ L, okN p.1
theorem RowN.sl {B : Nat} {L : List GnV} {v : Value} {W : World} (h : RowN B L v W) (hlen : L.length ≤ 1000000) : SlN (L.map Prod.fst) v W := by
  rcases Nat.eq_zero_or_pos L.length with h0 | h0
  · have hL : L = [] := List.eq_nil_of_length_eq_zero h0
    subst hL
    rcases h.nodes.2 with ⟨rfl, _⟩ | ⟨g, cap, cur, rfl, hB, hg, hle, _⟩
    · exact SlN.nil W
    · exact ⟨_, cap, rfl, fun i x hx => by simp at hx, fun e => (by cases e), by simp, by simp⟩
  · obtain ⟨g, cap, rfl, hg, hle, hc⟩ := own_cells encG_len h.nodes h0
    refine ⟨some ⟨g, 0, none⟩, cap, by simp, fun i x hx => ?_, fun e => (by cases e), by simpa using hle, by simp; omega⟩
    rw [List.getElem?_map] at hx
    obtain ⟨p, hp, rfl⟩ := Option.map_eq_some_iff.1 hx
    have hm := List.mem_of_getElem? hp
    have hok := h.ok p hm
    have c0 := hc i 0 p _ hp (by omega) rfl
    have c1 := hc i 1 p _ hp (by omega) rfl
    have c2 := hc i 2 p _ hp (by omega) rfl
    exact ⟨g, 0, p.2, rfl, hg, by simpa using c0, by simpa using c1, by simpa using c2, h.links p hm, hok.1, hok.2.1, by have := hok.2.2; omega⟩
theorem nodes_cells (b : Nat) (W : World) : ∀ (l : List Gn) (off : Nat), (∀ (i : Nat) (x : Gn), l[i]? = some x → ∃ v, W.cell? ⟨b, off + i * 3, none⟩ = some (.int .i64 x.st) ∧ W.cell? ⟨b, off + i * 3 + 1, none⟩ = some (.int .i64 x.pl) ∧ W.cell? ⟨b, off + i * 3 + 2, none⟩ = some v ∧ SlI x.links v W) → ∃ L : List GnV, L.map Prod.fst = l ∧ (∀ (j : Nat) (u : Value), (L.flatMap encG)[j]? = some u → W.cell? ⟨b, off + j, none⟩ = some u) ∧ ∀ p ∈ L, SlI p.1.links p.2 W
  | [], off, _ => ⟨[], rfl, fun j u h => by simp at h, fun p h => (by cases h)⟩
  | x :: l, off, h => by
    obtain ⟨v, h0, h1, h2, h3⟩ := h 0 x rfl
    obtain ⟨L, e, hc, hs⟩ := nodes_cells b W l (off + 3) (fun i y hy => by
      obtain ⟨v, g0, g1, g2, g3⟩ := h (i + 1) y (by simpa using hy)
      refine ⟨v, ?_, ?_, ?_, g3⟩
      · rw [← g0]; congr 2; omega
      · rw [← g1]; congr 2; omega
      · rw [← g2]; congr 2; omega)
    refine ⟨(x, v) :: L, by simp [e], fun j u hj => ?_, fun p hp => ?_⟩
    · rw [List.flatMap_cons] at hj
      match j, hj with
      | 0, hj => simp [encG] at hj; subst hj; simpa using h0
      | 1, hj => simp [encG] at hj; subst hj; simpa using h1
      | 2, hj => simp [encG] at hj; subst hj; simpa using h2
      | j + 3, hj =>
        rw [List.getElem?_append_right (by rw [encG_len]; omega), encG_len] at hj
        have := hc j u (by simpa using hj)
        rw [← this]; congr 2; omega
    · rcases List.mem_cons.1 hp with rfl | hp
      · exact h3
      · exact hs p hp
theorem SlN.cells {l : List Gn} {v : Value} {W : World} (h : SlN l v W) (hne : l ≠ []) : ∃ (b off cap : Nat) (L : List GnV), v = .slice (some ⟨b, off, none⟩) l.length cap ∧ L.map Prod.fst = l ∧ (∀ (j : Nat) (u : Value), (L.flatMap encG)[j]? = some u → W.cell? ((⟨b, off, none⟩ : Addr).add j) = some u) ∧ (∀ p ∈ L, SlI p.1.links p.2 W) ∧ ∀ p ∈ L, i64B p.1.st ∧ i64B p.1.pl := by
  obtain ⟨ao, cap, rfl, hg, _⟩ := h
  obtain ⟨x, l', rfl⟩ := List.exists_cons_of_ne_nil hne
  obtain ⟨b, off, _, rfl, _⟩ := hg 0 x rfl
  obtain ⟨L, e, hc, hs⟩ := nodes_cells b W (x :: l') off (fun i y hy => by
    obtain ⟨b', off', v, e, _, c0, c1, c2, c3, _⟩ := hg i y hy
    cases e
    exact ⟨v, c0, c1, c2, c3⟩)
  refine ⟨b, off, cap, L, rfl, e, fun j u hj => by rw [add_plain]; exact hc j u hj, hs, fun p hp => ?_⟩
  obtain ⟨i, hi⟩ := List.getElem?_of_mem hp
  have : (x :: l')[i]? = some p.1 := by rw [← e, List.getElem?_map, hi]; rfl
  obtain ⟨_, _, _, _, _, _, _, _, _, i1, i2, _⟩ := hg i _ this
  exact ⟨i1, i2⟩
theorem flatG_one (L : List GnV) : ∀ u ∈ L.flatMap encG, (∃ n, u = .int .i64 n) ∨ ∃ p ∈ L, u = p.2 := by
  intro u hu
  obtain ⟨p, hp, h⟩ := List.mem_flatMap.1 hu
  simp [encG] at h
  rcases h with rfl | rfl | rfl
  · exact .inl ⟨_, rfl⟩
  · exact .inl ⟨_, rfl⟩
  · exact .inr ⟨p, hp, rfl⟩
theorem flatG_len : ∀ L : List GnV, (L.flatMap encG).length = L.length * 3
  | [] => rfl
  | p :: L => by rw [List.flatMap_cons, List.length_append, flatG_len L, encG_len]; simp; omega
/-- A node's links are others. -/
theorem RowN.set {B : Nat} {L : List GnV} {g n c : Nat} {W : World} (h : RowN B L (.slice (some ⟨g, 0, none⟩) n c) W) {i : Nat} {x : Gn} {u lv : Value} {ls : List Int} (hi : L[i]? = some (x, u)) (hl : SlI ls lv W) (hlg : ls ≠ [] → lv.ownBlock ≠ some g) (hap : ∀ p ∈ L, p.1.links ≠ [] → p.2.ownBlock ≠ some g) (hll : ls.length ≤ 1000000) :
    RowN B (L.set i (⟨x.st, x.pl, ls⟩, lv)) (.slice (some ⟨g, 0, none⟩) n c) (W.setCell ⟨g, i * 3 + 2, none⟩ lv) := by
  have hm := List.mem_of_getElem? hi
  have hn : n = L.length := by
    rcases h.nodes.2 with ⟨e, _⟩ | ⟨_, _, _, e, _⟩
    · simp at e
    · simp at e; exact e.2.1
  subst hn
  have hb2 : But (fun j => j = g) W (W.setCell ⟨g, i * 3 + 2, none⟩ lv) := (But.refl _ _).setCell _ _ (.inr rfl)
  refine ⟨?_, fun p hp => ?_, fun p hp => ?_⟩
  · have := (World.ownsRow.stored h.nodes (i * 3 + 2) lv).1
    rw [flatG_set2 ⟨x.st, x.pl, ls⟩ lv L i x u hi rfl rfl] at this
    simpa using this
  · rcases List.mem_or_eq_of_mem_set hp with hp | rfl
    · exact (h.links p hp).but2 hb2 (fun hne k hk e => hap p hp hne (by rw [hk, e]))
    · exact hl.but2 hb2 (fun hne k hk e => hlg hne (by rw [hk, e]))
  · rcases List.mem_or_eq_of_mem_set hp with hp | rfl
    · exact h.ok p hp
    · exact ⟨(h.ok _ hm).1, (h.ok _ hm).2.1, hll⟩
theorem RowN.keep {B : Nat} {L : List GnV} {v : Value} {W W' : World} {D : Nat → Prop} (h : RowN B L v W) (hb : But D W W') (h1 : ∀ k, v.ownBlock = some k → ¬ D k) (h2 : ∀ p ∈ L, p.1.links ≠ [] → ∀ k, p.2.ownBlock = some k → ¬ D k) : RowN B L v W' :=
  ⟨ownsRow_keep h.nodes hb h1, fun p hp => (h.links p hp).but2 hb (h2 p hp), h.ok⟩
theorem RowN.next {B : Nat} {L : List GnV} {v : Value} {W W' : World} (h : RowN B L v W) (hb : Below W.heap.size W W') : RowN B L v W' := h.keep (D := fun _ => False) (But.of_next hb) (fun _ _ h => h) (fun _ _ _ _ _ h => h)
set_option maxHeartbeats 800000 in
/-- append(nil, nodes...): a row of one's own. -/
theorem wpList_copyN {w : World} {ops : Array Oper} {rest : List Oper} {o : Oper} {a : Act} {Q : Exit → Act → World → Prop} (hgd : o.guard = none) (s x : Operand)
    (ho : o.op = .call { callee := .builtin .append, args := #[s, x], argTypes := #[22, 22] }) (B : Nat) (l : List Gn) (u : Value) (hs : a.eval s = .slice none 0 0) (hx : a.eval x = u) (hsl : SlN l u w) (hne : l ≠ []) (hlen : l.length ≤ 5000) (hlk : ∀ x ∈ l, x.links.length ≤ 1000000) (hB : B ≤ w.heap.size)
    (h : ∀ (L : List GnV) (g c : Nat) (w' : World), L.map Prod.fst = l → RowN B L (.slice (some ⟨g, 0, none⟩) l.length c) w' → Below w.heap.size w w' → w.heap.size ≤ g → (∀ p ∈ L, p.1.links ≠ [] → p.2.ownBlock ≠ some g) → wpList Try.prog ops Q rest (a.put o.dst (.slice (some ⟨g, 0, none⟩) l.length c)) w') : wpList Try.prog ops Q (o :: rest) a w := by
  obtain ⟨ig, hig, hge0, hge1, hge2⟩ := info_parts infoG
  obtain ⟨b, off, cap, L, rfl, he, hc, hsI, h64⟩ := hsl.cells hne
  have hLl : L.length = l.length := by rw [← he]; simp
  refine wpList_append_own_at w hgd s x 22 ho w.heap.size 35 ig _ 3 40 Try.underlying22 hig hge0 hge1 hge2 rfl (by decide) (.slice none 0 0) 0 [] hs (World.ownsRow_nil _ _ _ _) ⟨b, off, none⟩ l.length cap (L.flatMap encG) hx (by rw [flatG_len, hLl]) hc (fun v hv => ?_) (by unfold maxLen; omega) (by omega) (Nat.le_refl _) ?_
  · rcases flatG_one L v hv with ⟨n, rfl⟩ | ⟨p, hp, rfl⟩
    · rfl
    · obtain ⟨_, _, e, _⟩ := hsI p hp; rw [e]; rfl
  intro v' w' h1 h2 _ h4
  have hb : Below w.heap.size w w' := (Below.refl _ _).grown h2 (Nat.le_refl _) (fun k e => by cases e)
  rcases h1.2 with ⟨_, e0⟩ | ⟨g, c, cur, rfl, hBg, hrest⟩
  · have : l.length = 0 := by omega
    exact absurd (List.eq_nil_of_length_eq_zero this) hne
  have e9 : 0 + l.length = l.length := by omega
  rw [e9] at h1 ⊢
  refine h L g c w' he ⟨?_, fun p hp => (hsI p hp).next hb, fun p hp => ⟨(h64 p hp).1, (h64 p hp).2, hlk _ (by rw [← he]; exact List.mem_map_of_mem hp)⟩⟩ hb hBg (fun p hp hne' e => ?_)
  · have := own_base (B' := B) h1 hB
    rw [hLl]
    simpa using this
  · have := (hsI p hp).inL hne' g e
    omega
set_option maxHeartbeats 800000 in
theorem wpList_copy0 {w : World} {ops : Array Oper} {rest : List Oper} {o : Oper} {a : Act} {Q : Exit → Act → World → Prop} (hgd : o.guard = none) (s x : Operand)
    (ho : o.op = .call { callee := .builtin .append, args := #[s, x], argTypes := #[22, 22] }) (u : Value) (hs : a.eval s = .slice none 0 0) (hx : a.eval x = u) (hsl : SlN [] u w)
    (h : ∀ (na : Option Addr) (nc : Nat) (w' : World), SlN [] (.slice na 0 nc) w' → Below w.heap.size w w' → wpList Try.prog ops Q rest (a.put o.dst (.slice na 0 nc)) w') : wpList Try.prog ops Q (o :: rest) a w := by
  obtain ⟨ig, hig, hge0, hge1, hge2⟩ := info_parts infoG
  obtain ⟨ao, cap, rfl, _, hn, _⟩ := hsl
  cases ao with
  | none =>
    obtain rfl : cap = 0 := hn rfl
    exact wpList_append_own_none hgd s x 22 ho w.heap.size 35 ig 3 Try.underlying22 hig (.slice none 0 0) 0 [] hs (World.ownsRow_nil _ _ _ _) (by simpa using hx) (h none 0 w (SlN.nil w) (Below.refl _ _))
  | some ad =>
    refine wpList_append_own_at w hgd s x 22 ho w.heap.size 35 ig _ 3 40 Try.underlying22 hig hge0 hge1 hge2 rfl (by decide) (.slice none 0 0) 0 [] hs (World.ownsRow_nil _ _ _ _) ad 0 cap [] (by simpa using hx) rfl (fun j u h => by simp at h) (fun u h => by simp at h) (by unfold maxLen; omega) (by omega) (Nat.le_refl _) ?_
    intro v' w' h1 h2 _ _
    obtain ⟨na, nc, rfl⟩ := slice_of_ownK h1
    refine h na nc w' ?_ ((Below.refl _ _).grown h2 (Nat.le_refl _) (fun k e => by cases e))
    rcases h1.2 with ⟨e, _⟩ | ⟨g, c, cur, e, _⟩
    · cases e; exact SlN.nil w'
    · cases e; exact ⟨_, _, rfl, fun i x hx => by simp at hx, fun e => (by cases e), Nat.zero_le _, Nat.zero_le _⟩
end Go.Proofs.Ytjpbfckdiojghaa
