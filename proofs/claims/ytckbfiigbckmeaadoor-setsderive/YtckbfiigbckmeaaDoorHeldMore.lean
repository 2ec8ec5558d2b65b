/- A region that draws its order: two that may come up; rows of productions. -/
import Derived.Test.YtckbfiigbckmeaaDoorHeld
import Derived.Test.YtckbfiigbckmeaaDoorGrowMath
namespace Go.Proofs.YtckbfiigbckmeaaDoor
open Go.RowKit
section
variable {P : Program} {ops : Array Oper} {Q : Exit → Act → World → Prop} {md : Region.Mode} {S : World → Prop} {n : Nat}
/-- Two may come up: either is carried out. -/
theorem wpAnyL_two {i j : Nat} {oi oj : Oper} {fuel : Nat} {listed l1 l2 : Array Bool} {a : Act} {w : World} (hr : Region.ready md ops listed = [i, j]) (hi : ops[i]? = some oi) (hj : ops[j]? = some oj)
    (hl1 : listed.setIfInBounds i true = l1) (hl2 : listed.setIfInBounds j true = l2)
    (h1 : ∀ K' : Act → World → Prop, Shut (∀ a w, (i < n → S w) → wpAnyL P md ops Q S n fuel l1 a w → K' a w) → if Region.wanted oi (yielded ops a.tmps) = true then Oper.wp P oi a w K' Q else K' (a.put oi.dst undef) w)
    (h2 : ∀ K' : Act → World → Prop, Shut (∀ a w, (j < n → S w) → wpAnyL P md ops Q S n fuel l2 a w → K' a w) → if Region.wanted oj (yielded ops a.tmps) = true then Oper.wp P oj a w K' Q else K' (a.put oj.dst undef) w) :
    wpAnyL P md ops Q S n (fuel + 1) listed a w := by
  subst hl1 hl2
  refine ⟨fun h0 => (by rw [hr] at h0; cases h0), fun k hk => ?_⟩
  rw [hr] at hk
  simp at hk
  rcases hk with rfl | rfl
  · exact wpOp_step hi (fun K' hK => h1 K' (fun a w hS hW => hK a w ⟨hS, hW⟩))
  · exact wpOp_step hj (fun K' hK => h2 K' (fun a w hS hW => hK a w ⟨hS, hW⟩))
/-- As wpAnyL_one and wpAnyL_take, with what has come up behind it written out. -/
theorem wpAnyL_one' {i : Nat} {o : Oper} {fuel : Nat} {listed l1 : Array Bool} {a : Act} {w : World} (hr : Region.ready md ops listed = [i]) (ho : ops[i]? = some o) (hl1 : listed.setIfInBounds i true = l1)
    (h : ∀ K' : Act → World → Prop, Shut (∀ a w, (i < n → S w) → wpAnyL P md ops Q S n fuel l1 a w → K' a w) → if Region.wanted o (yielded ops a.tmps) = true then Oper.wp P o a w K' Q else K' (a.put o.dst undef) w) :
    wpAnyL P md ops Q S n (fuel + 1) listed a w := by
  subst hl1
  exact wpAnyL_one hr ho h
theorem wpAnyL_take' {i : Nat} {oi : Oper} {v : Value} {fuel : Nat} {listed l1 : Array Bool} {a : Act} {w : World} (hi : ops[i]? = some oi)
    (hs : Region.noSelect ops = true) (hf : Region.free md ops listed i = true) (hr : (Region.ready md ops listed).contains i = true) (hl : lateB md ops n i = true) (hl1 : listed.setIfInBounds i true = l1)
    (hQ : ∀ c a w, Q (.panic c) (a.put oi.dst v) w → Q (.panic c) a w) (hy : YieldsIf P ops S oi v a) (hS : S w)
    (h : wpAnyL P md ops Q S n fuel l1 (a.put oi.dst v) w) : wpAnyL P md ops Q S n (fuel + 1) listed a w := by
  subst hl1
  exact wpAnyL_take hi hs hf hr hl hQ hy hS h

end

/-- An append onto a row of one's own, of whatever slice: nil too. -/
theorem wp_append_any {P : Program} {w : World} {o : Oper} {a : Act} {K : Act → World → Prop} {Q : Exit → Act → World → Prop} (s x : Operand) (t : TypeId)
    (ho : o.op = .call { callee := .builtin .append, args := #[s, x], argTypes := #[t, t] })
    (base : Nat) (e : TypeId) (i : TypeInfo) (z : Value) (size bytes : Nat) (ht : P.underlying t = some (.slice e)) (hi : P.info? e = some i) (hz : i.zero = some z)
    (hsize : i.size = size) (hby : i.bytes = bytes) (hzs : z.cells.size = size) (hsz : 0 < size)
    (v : Value) (n : Nat) (xs : List Value) (hs : a.eval s = v) (hown : w.ownsRow base e size v n xs)
    (ao : Option Addr) (m c : Nat) (news : List Value) (hx : a.eval x = .slice ao m c) (hn : ao = none → m = 0 ∧ c = 0) (hl : news.length = m * size) (hnews : ∀ ad, ao = some ad → ∀ j u, news[j]? = some u → w.cell? (ad.add j) = some u) (h1 : ∀ u ∈ news, u.oneCell' = true)
    (h63 : n + m ≤ maxLen) (hbytes : (n + m) * bytes ≤ 140737488355328) (hbase : base ≤ w.heap.size)
    (h : ∀ v' w', w'.ownsRow base e size v' (n + m) (xs ++ news) → w.grownBy w' v.ownBlock → K (a.put o.dst v') w') : o.wp P a w K Q := by
  cases ao with
  | some ad => exact wp_append_own w s x t ho base e i z size bytes ht hi hz hsize hby hzs hsz v n xs hs hown ad m c news hx hl (hnews ad rfl) h1 h63 hbytes hbase (fun v' w' h2 h3 _ => h v' w' h2 h3)
  | none =>
    obtain ⟨rfl, rfl⟩ := hn rfl
    obtain rfl : news = [] := List.eq_nil_of_length_eq_zero (by simpa using hl)
    have hrun := run_append_owned_none (P := P) (w := w) base t o.type e i size ht hi v n xs hown
    unfold Oper.wp
    simp [execOp, ho, resolve, invoke, builtin, hs, hx, hrun, Result.andThen]
    exact h v w (by simpa using hown) ⟨rfl, rfl, rfl, Nat.le_refl _, fun _ _ _ => rfl⟩

/-- The cells of productions, one behind the other. -/
def PrC (es : List Pr) (cs : List Value) (W : World) : Prop := cs.length = es.length * 3 ∧ (∀ u ∈ cs, u.oneCell' = true) ∧
  ∀ (i : Nat) (p : Pr), es[i]? = some p → cs[i * 3]? = some (.int .i64 p.left) ∧ (∃ v, cs[i * 3 + 1]? = some v ∧ SlT p.right v W) ∧ cs[i * 3 + 2]? = some (.int .i64 p.prec) ∧ i64B p.left ∧ i64B p.prec
theorem PrC.next {es cs W W'} (h : PrC es cs W) (hb : Below W.heap.size W W') : PrC es cs W' :=
  ⟨h.1, h.2.1, fun i p hi => by obtain ⟨h1, ⟨v, h2, h3⟩, h4⟩ := h.2.2 i p hi; exact ⟨h1, ⟨v, h2, h3.next hb⟩, h4⟩⟩
theorem PrC.snoc {es cs W} (h : PrC es cs W) {p : Pr} {ra : Option Addr} {n rc : Nat} (hv : SlT p.right (.slice ra n rc) W) (hp : i64B p.left ∧ i64B p.prec) : PrC (es ++ [p]) (cs ++ [.int .i64 p.left, .slice ra n rc, .int .i64 p.prec]) W := by
  refine ⟨by simp [h.1]; omega, fun u hu => ?_, fun i q hi => ?_⟩
  · rcases List.mem_append.1 hu with hu | hu
    · exact h.2.1 u hu
    · simp at hu; rcases hu with rfl | rfl | rfl <;> rfl
  · by_cases hlt : i < es.length
    · rw [List.getElem?_append_left hlt] at hi
      obtain ⟨h1, ⟨v, h2, h3⟩, h4, h5⟩ := h.2.2 i q hi
      have hl := h.1
      exact ⟨by rw [List.getElem?_append_left (by omega)]; exact h1, ⟨v, by rw [List.getElem?_append_left (by omega)]; exact h2, h3⟩, by rw [List.getElem?_append_left (by omega)]; exact h4, h5⟩
    · rw [List.getElem?_append_right (by omega)] at hi
      have h0 : i - es.length = 0 := by
        have := (List.getElem?_eq_some_iff.1 hi).1
        simpa using this
      rw [h0] at hi
      simp at hi
      subst hi
      have hie : i = es.length := by omega
      subst hie
      have hl := h.1
      refine ⟨?_, ⟨_, ?_, hv⟩, ?_, hp⟩
      · rw [List.getElem?_append_right (by omega), show es.length * 3 - cs.length = 0 by omega]; rfl
      · rw [List.getElem?_append_right (by omega), show es.length * 3 + 1 - cs.length = 1 by omega]; rfl
      · rw [List.getElem?_append_right (by omega), show es.length * 3 + 2 - cs.length = 2 by omega]; rfl
theorem prc_nil (W : World) : PrC [] [] W := ⟨rfl, by simp, fun i p hi => by simp at hi⟩
/-- Productions that lie somewhere have such cells. -/
theorem prs_cells {W : World} {ao : Option Addr} : ∀ {es : List Pr}, PrsAt es ao W → ∃ cs, PrC es cs W ∧ ∀ ad, ao = some ad → ∀ j u, cs[j]? = some u → W.cell? (ad.add j) = some u := by
  intro es h
  have each : ∀ i, i < es.length → ∃ v : Value, ∀ (p : Pr), es[i]? = some p → ∃ b off n rc ra, ao = some ⟨b, off, none⟩ ∧ v = .slice ra n rc ∧ W.cell? ⟨b, off + i * 3, none⟩ = some (.int .i64 p.left) ∧ W.cell? ⟨b, off + i * 3 + 1, none⟩ = some v ∧ W.cell? ⟨b, off + i * 3 + 2, none⟩ = some (.int .i64 p.prec) ∧ SlT p.right v W ∧ i64B p.left ∧ i64B p.prec := by
    intro i hi
    obtain ⟨b, off, v, h0, _, h1, h2, h3, h4, h5⟩ := h i es[i] (by simp [hi])
    obtain ⟨ra, rc, hv, _⟩ := id h4
    refine ⟨v, fun p hp => ?_⟩
    rw [List.getElem?_eq_getElem hi] at hp
    cases hp
    exact ⟨b, off, _, rc, ra, h0, hv, h1, h2, h3, h4, h5⟩
  have build : ∀ k, k ≤ es.length → ∃ cs, PrC (es.take k) cs W ∧ ∀ ad, ao = some ad → ∀ j u, cs[j]? = some u → W.cell? (ad.add j) = some u := by
    intro k
    induction k with
    | zero => intro _; exact ⟨[], by simpa using prc_nil W, by simp⟩
    | succ k ih =>
      intro hk
      obtain ⟨cs, h1, h2⟩ := ih (by omega)
      obtain ⟨v, hv⟩ := each k (by omega)
      obtain ⟨b, off, n, rc, ra, h0, rfl, c0, c1, c2, h4, h5⟩ := hv es[k] (by simp)
      refine ⟨cs ++ [.int .i64 es[k].left, .slice ra n rc, .int .i64 es[k].prec], ?_, fun ad had j u hj => ?_⟩
      · rw [List.take_succ_eq_append_getElem (by omega)]
        exact h1.snoc h4 h5
      · have hl := h1.1
        rw [List.length_take, Nat.min_eq_left (by omega)] at hl
        by_cases hjl : j < cs.length
        · rw [List.getElem?_append_left hjl] at hj; exact h2 ad had j u hj
        · rw [List.getElem?_append_right (by omega)] at hj
          rw [h0] at had
          cases had
          rw [add_plain]
          have hj3 : j - cs.length < 3 := by
            have := (List.getElem?_eq_some_iff.1 hj).1
            simpa using this
          rcases (show j = cs.length ∨ j = cs.length + 1 ∨ j = cs.length + 2 by omega) with e | e | e
          · subst e; simp at hj; subst hj; rw [hl]; exact c0
          · subst e; simp at hj; subst hj; rw [hl, ← Nat.add_assoc]; exact c1
          · subst e; simp at hj; subst hj; rw [hl, ← Nat.add_assoc]; exact c2
  obtain ⟨cs, h1, h2⟩ := build es.length (Nat.le_refl _)
  rw [List.take_of_length_le (Nat.le_refl _)] at h1
  exact ⟨cs, h1, h2⟩
/-- A row of one's own of such cells is productions. -/
theorem prs_own {W : World} {B g c n : Nat} {e : TypeId} {es : List Pr} {cs : List Value} (h : PrC es cs W) (ho : W.ownsRow B e 3 (.slice (some ⟨g, 0, none⟩) n c) n cs) (hn : n = es.length) : PrsAt es (some ⟨g, 0, none⟩) W := by
  subst hn
  intro i p hi
  obtain ⟨h1, ⟨v, h2, h3⟩, h4, h5⟩ := h.2.2 i p hi
  have hil := (List.getElem?_eq_some_iff.1 hi).1
  have hg := (World.ownsRow.lt ho g rfl).2
  refine ⟨g, 0, v, rfl, hg, ?_, ?_, ?_, h3, h5⟩
  · rw [Nat.zero_add, World.ownsRow.cellAt ho _ (by omega)]; exact h1
  · rw [Nat.zero_add, World.ownsRow.cellAt ho _ (by omega)]; exact h2
  · rw [Nat.zero_add, World.ownsRow.cellAt ho _ (by omega)]; exact h4
end Go.Proofs.YtckbfiigbckmeaaDoor
