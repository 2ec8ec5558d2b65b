/- The document's Least: a state's arcs byte by byte; memory. -/
import Derived.Test.YtdalomibilicfaaLeClass
import Derived.Test.YtdalomibilicfaaJPMach0
namespace Go.Proofs.Ytdalomibilicfaa
open Go.RowKit Go.Shelf

/-- The numbers of the classes. -/
def NumT (n : Nat) (cl : Int → Int) (O nb : List Int) : Prop := nb.length = n ∧ (0 ≤ cl 0 → ∀ k : Nat, k < n → (nb[k]? = some (-1) ∧ ∀ b ∈ O, cl b ≠ (k : Int)) ∨ ∃ (j : Nat) (b : Int), nb[k]? = some (j : Int) ∧ O[j]? = some b ∧ cl b = (k : Int))
theorem NumT.start {n : Nat} {cl : Int → Int} {z : Nat} (hz : z < n) (h0 : 0 ≤ cl 0 → cl 0 = (z : Int)) {L : List Int} (hl : L.length = n) (hL : ∀ k : Nat, k < n → L[k]? = some (-1)) : NumT n cl [0] (L.set z 0) := by
  refine ⟨by rw [List.length_set]; exact hl, fun hp k hk => ?_⟩
  by_cases e : z = k
  · subst e
    exact .inr ⟨0, 0, by rw [List.getElem?_set_self (by omega)]; rfl, rfl, h0 hp⟩
  · refine .inl ⟨by rw [List.getElem?_set_ne e]; exact hL k hk, fun b hb => ?_⟩
    simp at hb
    subst hb
    have := h0 hp
    omega
theorem NumT.push {n : Nat} {cl : Int → Int} {O nb : List Int} (h : NumT n cl O nb) {x : Int} {k : Nat} (hk : cl x = (k : Int)) (hkn : k < n) (_ : ∀ b ∈ O, cl b ≠ (k : Int)) : NumT n cl (O ++ [x]) (nb.set k (O.length : Int)) := by
  refine ⟨by rw [List.length_set]; exact h.1, fun hp q hq => ?_⟩
  by_cases e : k = q
  · subst e
    exact .inr ⟨O.length, x, by rw [List.getElem?_set_self (by rw [h.1]; exact hkn)], by simp, hk⟩
  · rw [List.getElem?_set_ne e]
    rcases h.2 hp q hq with ⟨h1, h2⟩ | ⟨j, b, h1, h2, h3⟩
    · refine .inl ⟨h1, fun b hb => ?_⟩
      rcases List.mem_append.1 hb with hb | hb
      · exact h2 b hb
      · simp at hb; subst hb; omega
    · exact .inr ⟨j, b, h1, by rw [List.getElem?_append_left (List.getElem?_eq_some_iff.1 h2).1]; exact h2, h3⟩
/-- A state's arcs below a byte. -/
structure RI (l : List Ds) (cl : Int → Int) (b0 : Nat) (a m : Int) (O : List Int) (R : List Ar) : Prop where
  oi : OI l.length cl O
  ar : ArcsOk l cl O a R m
  gr : growB b0 (R.map Ar.tg)
  bh : behB b0 (R.map Ar.tg) = (O.length : Int)
theorem RI.skip {l : List Ds} {cl : Int → Int} {b0 : Nat} {a m : Int} {O : List Int} {R : List Ar} (h : RI l cl b0 a m O R) (hd : cl (ledD l a m) < 0) : RI l cl b0 a (m + 1) O R := ⟨h.oi, h.ar.skip hd, h.gr, h.bh⟩
theorem RI.ext {l : List Ds} {cl : Int → Int} {b0 : Nat} {a m : Int} {O : List Int} {R : List Ar} {x : Ar} (h : RI l cl b0 a m O (R ++ [x])) (m1 : m ≤ 255) {j : Nat} {b : Int} (hxh : x.hi + 1 = m) (hxt : x.tg = j) (hj : O[j]? = some b) (hb : cl b = cl (ledD l a m)) (h0 : 0 ≤ cl (ledD l a m)) : RI l cl b0 a (m + 1) O (R ++ [⟨x.lo, m, x.tg⟩]) := by
  refine ⟨h.oi, h.ar.ext m1 hxh hxt hj hb h0, ?_, ?_⟩
  · have := h.gr; simpa using this
  · have := h.bh; simpa using this
theorem RI.old {l : List Ds} {cl : Int → Int} {b0 : Nat} {a m : Int} {O : List Int} {R : List Ar} (h : RI l cl b0 a m O R) (m0 : 0 ≤ m) (m1 : m ≤ 255) {j : Nat} {b : Int} (hj : O[j]? = some b) (hb : cl b = cl (ledD l a m)) (h0 : 0 ≤ cl (ledD l a m)) (hr : ∀ x, R.getLast? = some x → x.hi + 1 = m → x.tg ≠ j) : RI l cl b0 a (m + 1) O (R ++ [⟨m, m, j⟩]) := by
  have hjl := (List.getElem?_eq_some_iff.1 hj).1
  obtain ⟨g1, g2⟩ := growB_snoc (j : Int) (R.map Ar.tg) b0 h.gr (by rw [h.bh]; omega)
  refine ⟨h.oi, h.ar.new m0 m1 hj hb h0 hr, by simpa using g1, ?_⟩
  rw [h.bh, if_neg (by omega)] at g2
  simpa using g2
theorem RI.add {l : List Ds} {cl : Int → Int} {b0 : Nat} {a m : Int} {O : List Int} {R : List Ar} (h : RI l cl b0 a m O R) (m0 : 0 ≤ m) (m1 : m ≤ 255) (hx0 : 0 ≤ ledD l a m) (hxn : ledD l a m < l.length) (h0 : 0 ≤ cl (ledD l a m)) (h00 : 0 ≤ cl 0) (hn : ∀ b ∈ O, cl b ≠ cl (ledD l a m)) : RI l cl b0 a (m + 1) (O ++ [ledD l a m]) (R ++ [⟨m, m, O.length⟩]) := by
  obtain ⟨g1, g2⟩ := growB_snoc (O.length : Int) (R.map Ar.tg) b0 h.gr (by rw [h.bh]; omega)
  refine ⟨h.oi.push hx0 hxn h0 h00 hn, (h.ar.mono [ledD l a m]).new m0 m1 (j := O.length) (b := ledD l a m) (by simp) rfl h0 (fun x hx _ e => ?_), by simpa using g1, ?_⟩
  · obtain ⟨j, b, e1, e2, _⟩ := h.ar.tgs (List.mem_of_getLast? hx)
    have := (List.getElem?_eq_some_iff.1 e2).1
    omega
  · rw [h.bh, if_pos rfl] at g2
    simpa using g2
/-- All that Least has laid behind the classes. -/
structure LM (n : Nat) (cl : Int → Int) (w2 : World) (ob : Nat) (O nb : List Int) (ov : Value) (Z : List (Ds × Value)) (dv : Value) (V : World) : Prop where
  num : RwL w2 nb V
  nt : NumT n cl O nb
  ord : V.ownsRow (w2.heap.size + 1) 3 1 ov O.length (O.map encI)
  obx : V.heap[ob]? = some (Obj.cells #[dv] 24)
  obl : w2.heap.size + 1 ≤ ob
  done : DoneD (w2.heap.size + 1) Z dv V
/-- A state under way. -/
structure SB (w2 : World) (sb : Nat) (R : List Ar) (rv : Value) (acc : Int) (V : World) : Prop where
  bx : V.heap[sb]? = some (Obj.cells #[rv, .int .i64 acc] 37)
  ar : OwnA (w2.heap.size + 1) R rv V
  lo : w2.heap.size + 1 ≤ sb
theorem LM.next {n : Nat} {cl : Int → Int} {w2 : World} {ob : Nat} {O nb : List Int} {ov : Value} {Z : List (Ds × Value)} {dv : Value} {V W : World} (h : LM n cl w2 ob O nb ov Z dv V) (hb : Below V.heap.size V W) : LM n cl w2 ob O nb ov Z dv W :=
  ⟨h.num.next hb, h.nt, own_below h.ord hb, (hb.block _ (blk_lt h.obx)).trans h.obx, h.obl, ⟨own_below h.done.row hb, fun p hp => own_below (h.done.arcs p hp) hb⟩⟩
theorem SB.next {w2 : World} {sb : Nat} {R : List Ar} {rv : Value} {acc : Int} {V W : World} (h : SB w2 sb R rv acc V) (hb : Below V.heap.size V W) : SB w2 sb R rv acc W := ⟨(hb.block _ (blk_lt h.bx)).trans h.bx, own_below h.ar hb, h.lo⟩
/-- What turns blocks of numbers alone. -/
def IntsD (V : World) (D : Nat → Prop) : Prop := ∀ k, D k → ∃ cs, V.heap[k]? = some (Obj.cells cs 3)
theorem SB.but {w2 : World} {sb : Nat} {R : List Ar} {rv : Value} {acc : Int} {V W : World} {D : Nat → Prop} (h : SB w2 sb R rv acc V) (hb : But D V W) (hd : IntsD V D) : SB w2 sb R rv acc W := by
  refine ⟨but_blk hb h.bx (fun e => ?_), ownsRow_keep h.ar hb (fun k hk e => ?_), h.lo⟩
  · obtain ⟨cs, hc⟩ := hd _ e
    rw [h.bx] at hc; simp at hc
  · obtain ⟨cs, hc⟩ := hd _ e
    exact own_nb h.ar hc (by decide) hk
theorem LM.ints {n : Nat} {cl : Int → Int} {w2 : World} {ob : Nat} {O nb : List Int} {ov : Value} {Z : List (Ds × Value)} {dv : Value} {V : World} (h : LM n cl w2 ob O nb ov Z dv V) : IntsD V (fun k => k = w2.heap.size ∨ ov.ownBlock = some k) := fun k hk => by
  rcases hk with rfl | hk
  · exact own_is_cells h.num.row (show (Value.slice (some ⟨w2.heap.size, 0, none⟩) nb.length nb.length).ownBlock = some w2.heap.size from rfl)
  · exact own_is_cells h.ord hk
/-- A class more: its number, its state. -/
theorem LM.push {n : Nat} {cl : Int → Int} {w2 : World} {ob : Nat} {O nb : List Int} {ov : Value} {Z : List (Ds × Value)} {dv : Value} {V W W8 : World} (h : LM n cl w2 ob O nb ov Z dv V) {x : Int} {k : Nat} (hk : cl x = (k : Int)) (hkn : k < n) (hn : ∀ b ∈ O, cl b ≠ (k : Int))
    (hW : W = V.setCell ⟨w2.heap.size, k, none⟩ (.int .i64 (O.length : Int))) (hb8 : But (fun k => ov.ownBlock = some k) W W8) {ov' : Value} (ho : W8.ownsRow (w2.heap.size + 1) 3 1 ov' (O.length + 1) (O.map encI ++ [.int .i64 x])) :
    LM n cl w2 ob (O ++ [x]) (nb.set k (O.length : Int)) ov' Z dv W8 ∧ But (fun k => k = w2.heap.size ∨ ov.ownBlock = some k) V W8 := by
  have b1 : But (fun k => k = w2.heap.size ∨ ov.ownBlock = some k) V W := by rw [hW]; exact (But.refl _ _).setCell _ _ (.inr (.inl rfl))
  have b2 : But (fun k => k = w2.heap.size ∨ ov.ownBlock = some k) V W8 := b1.trans (hb8.mono (fun k _ hk => .inr hk))
  have hp := h.num.put k (O.length : Int)
  rw [← hW] at hp
  have hol := fun k hk => (World.ownsRow.lt h.ord k hk).1
  refine ⟨⟨⟨below_but hp.bel hb8 (Nat.le_refl _) (fun k hk => by have := hol k hk; omega), ownsRow_keep hp.row hb8 (fun k hk e => ?_)⟩, h.nt.push hk hkn hn, ?_, but_blk b2 h.obx (fun e => ?_), h.obl, ⟨ownsRow_keep h.done.row b2 (fun k hk e => ?_), fun p hp => ownsRow_keep (h.done.arcs p hp) b2 (fun k hk e => ?_)⟩⟩, b2⟩
  · have h9 : w2.heap.size = k := by simpa [Value.ownBlock] using hk
    have := hol k e
    omega
  · rw [List.length_append, List.map_append]; exact ho
  · obtain ⟨cs, hc⟩ := h.ints _ e
    rw [h.obx] at hc; simp at hc
  · obtain ⟨cs, hc⟩ := h.ints _ e
    exact own_nb h.done.row hc (by decide) hk
  · obtain ⟨cs, hc⟩ := h.ints _ e
    exact own_nb (h.done.arcs p hp) hc (by decide) hk
end Go.Proofs.Ytdalomibilicfaa
