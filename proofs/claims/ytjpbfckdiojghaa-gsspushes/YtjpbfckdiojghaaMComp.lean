/- Numbers: slices.Sort and slices.Compact of a row of one's own, and what they leave alone. -/
import Derived.Test.YtjpbfckdiojghaaMLay
import Derived.Shelf.Lay
import Derived.Ground.NamesProg
import Derived.Ground.Names2Prog
import Derived.Shelf.Sort.Plain
import Derived.Shelf.Slices.CompactI
import Derived.Shelf.Slices.In.SortNone
import Derived.Sort.OwnSortedInts
import Derived.Lib.RowBridge
namespace Go.Proofs.Ytjpbfckdiojghaa
open Go.RowKit Go.Shelf Go.Proofs Go.Sort
shelf_lay Lays.n189 Nm 189 at Try as Try.sortI
shelf_lay Lays2.n20 Nm2 20 at Try as Try.compactI

theorem compact_upTo {d : Array Int} (hs : ∀ i j, i ≤ j → j < d.size → d[i]! ≤ d[j]!) : ∀ m, m ≤ d.size →
    (∀ t, t ∈ Lib.compactUpTo d m ↔ ∃ j, j < m ∧ d[j]! = t) ∧ UpL (Lib.compactUpTo d m)
  | 0, _ => by
    refine ⟨fun t => ?_, ?_⟩ <;> simp [Lib.compactUpTo, UpL]
  | m + 1, hm => by
    obtain ⟨h1, h2⟩ := compact_upTo hs m (by omega)
    rw [Lib.compactUpTo_succ]
    by_cases hk : Lib.keeps d m = true
    · rw [if_pos hk]
      refine ⟨fun t => ?_, ?_⟩
      · rw [List.mem_append, h1]
        constructor
        · rintro (⟨j, hj, e⟩ | h)
          · exact ⟨j, by omega, e⟩
          · exact ⟨m, by omega, (by simpa using h : t = d[m]!).symm⟩
        · rintro ⟨j, hj, e⟩
          by_cases hjm : j < m
          · exact .inl ⟨j, hjm, e⟩
          · obtain rfl : j = m := by omega
            exact .inr (by simp [e])
      · unfold UpL
        rw [List.pairwise_append]
        refine ⟨h2, by simp, fun x hx y hy => ?_⟩
        obtain rfl : y = d[m]! := by simpa using hy
        obtain ⟨j, hj, rfl⟩ := (h1 x).1 hx
        have hne : d[m]! ≠ d[m - 1]! := by
          unfold Lib.keeps at hk
          rcases of_decide_eq_true hk with h | h
          · omega
          · exact h
        have a1 := hs j (m - 1) (by omega) (by omega)
        have a2 := hs (m - 1) m (by omega) (by omega)
        omega
    · rw [if_neg hk, List.append_nil]
      refine ⟨fun t => ?_, h2⟩
      rw [h1]
      have hk' : ¬ (m = 0 ∨ d[m]! ≠ d[m - 1]!) := fun h => hk (by unfold Lib.keeps; exact decide_eq_true h)
      have hm0 : 0 < m := by rcases Nat.eq_zero_or_pos m with h | h; exact absurd (.inl h) hk'; exact h
      have he : d[m]! = d[m - 1]! := Classical.byContradiction fun h => hk' (.inr h)
      constructor
      · rintro ⟨j, hj, e⟩; exact ⟨j, by omega, e⟩
      · rintro ⟨j, hj, e⟩
        by_cases hjm : j < m
        · exact ⟨j, hjm, e⟩
        · obtain rfl : j = m := by omega
          exact ⟨j - 1, by omega, by rw [← he]; exact e⟩
theorem compact_sorted (zs : List Int) (hs : zs.Pairwise (· ≤ ·)) : UpL (Lib.compact zs) ∧ ∀ t, t ∈ Lib.compact zs ↔ t ∈ zs := by
  have get : ∀ {j}, (hj : j < zs.length) → zs.toArray[j]! = zs[j] := fun {j} hj => by simp [hj]
  have h := compact_upTo (d := zs.toArray) (fun i j hij hj => by
    have hj' : j < zs.length := by simpa using hj
    rw [get (by omega), get hj']
    by_cases e : i = j
    · subst e; exact Int.le_refl _
    · exact List.pairwise_iff_getElem.1 hs i j (by omega) hj' (by omega)) zs.length (by simp)
  refine ⟨h.2, fun t => ?_⟩
  unfold Lib.compact
  rw [h.1]
  constructor
  · rintro ⟨j, hj, e⟩
    rw [get hj] at e
    exact e ▸ List.getElem_mem hj
  · intro ht
    obtain ⟨j, hj, e⟩ := List.getElem_of_mem ht
    exact ⟨j, hj, by rw [get hj]; exact e⟩
def sortL (zs : List Int) : List Int := zs.mergeSort fun x y => decide (x ≤ y)
theorem sortL_len (zs : List Int) : (sortL zs).length = zs.length := List.length_mergeSort zs
theorem sortL_mem {zs : List Int} {t : Int} : t ∈ sortL zs ↔ t ∈ zs := List.mem_mergeSort
theorem sortL_sorted (zs : List Int) : (sortL zs).Pairwise (· ≤ ·) := by
  have := List.pairwise_mergeSort (le := fun x y : Int => decide (x ≤ y)) (fun a b c h1 h2 => by simp at *; omega) (fun a b => by simp; omega) zs
  exact this.imp (by intro a b h; simpa using h)


theorem sortO_any (zs : List Int) (v : Value) (B : Nat) (w : World) (ho : OwnI B zs v w) (hl : zs.length ≤ 1000000) :
    Calls Try.prog 51 #[v] w fun e w' => (∃ u, e = .returned u) ∧ OwnI B (sortL zs) v w' ∧ But (fun k => v.ownBlock = some k) w w' := by
  have h0 := ho
  obtain ⟨h1, ⟨rfl, hn⟩ | ⟨g, cap, cur, rfl, hBg, hg, hcap, hm, hsz, hx⟩⟩ := ho
  · obtain rfl : zs = [] := List.length_eq_zero_iff.1 hn
    refine (Any.slices_Sort_int_none Try.sortI none 0 w).mono ?_
    rintro e w' ⟨rfl, rfl⟩
    exact ⟨⟨_, rfl⟩, by simpa [sortL] using h0, But.refl _ _⟩
  · rw [Nat.mul_one] at hx
    refine (Any.slices_Sort_int Try.sortI g 0 cap zs w (holds_of_blockI hg hx) (Array.getElem?_eq_some_iff.1 hg).1 (by omega)).mono ?_
    rintro e w' ⟨rfl, n, os, rfl⟩
    refine ⟨⟨_, rfl⟩, ?_, but_grown (grownBy_sortedI _) (fun r e => by cases e; rfl)⟩
    have := ownsRow_sortedI (n := n) (os := os) (ts := sortL zs) (ss := zs) (sortL_len zs) hBg hg hcap hm hsz
    unfold OwnI
    rw [sortL_len]
    exact this
theorem compactO_any (zs : List Int) (v : Value) (B : Nat) (w : World) (ho : OwnI B zs v w) (hl : zs.length ≤ 1000000) :
    Calls Try.prog 52 #[v] w fun e w' => ∃ u, e = .returned u ∧ OwnI B (Lib.compact zs) u w' ∧ But (fun k => v.ownBlock = some k) w w' ∧ u.ownBlock = v.ownBlock := by
  have h0 := ho
  obtain ⟨h1, ⟨rfl, hn⟩ | ⟨g, cap, cur, rfl, hBg, hg, hcap, hm, hsz, hx⟩⟩ := ho
  · obtain rfl : zs = [] := List.length_eq_zero_iff.1 hn
    refine (Any.slices_Compact_int_empty Try.compactI none 0 w).mono ?_
    rintro e w' ⟨rfl, rfl⟩
    exact ⟨_, rfl, by simpa [Lib.compact, Lib.compactUpTo] using h0, But.refl _ _, rfl⟩
  · rw [Nat.mul_one] at hx hsz
    refine (Any.slices_Compact_int Try.compactI g 0 cap zs w (holds_of_blockI hg hx) (by omega) hcap).mono ?_
    rintro e w' ⟨rfl, q, rfl⟩
    have hle := Lib.compact_length_le zs
    generalize Lib.compact zs = cs at *
    have hlen : (cs ++ List.replicate (zs.length - cs.length) (0 : Int)).length = zs.length := by simp; omega
    have hgr : ∀ W : World, grow W #[] = W := fun W => by simp [grow]
    have hh := heap_sortedI (n := q) (os := #[]) (cs ++ List.replicate (zs.length - cs.length) (0 : Int)).toArray hg
    have hgb := grownBy_sortedI (w := w) (g := g) (n := q) (os := #[]) (cs ++ List.replicate (zs.length - cs.length) (0 : Int)).toArray
    rw [hgr] at hh hgb
    refine ⟨_, rfl, ⟨by simp, .inr ⟨g, cap, _, rfl, hBg, hh, by omega, hm, by simp [putCells, hsz], ?_⟩⟩, but_grown hgb (fun r e => by cases e; rfl), rfl⟩
    have ht := take_putCellsI cur (cs ++ List.replicate (zs.length - cs.length) (0 : Int)) (by rw [hlen]; omega)
    rw [hlen] at ht
    rw [Nat.mul_one]
    have := congrArg (List.take cs.length) ht
    rw [List.take_take, Nat.min_eq_left hle, List.map_append, List.take_append_of_le_length (by simp), List.take_of_length_le (l := cs.map (Value.int .i64)) (by simp)] at this
    exact this
end Go.Proofs.Ytjpbfckdiojghaa
