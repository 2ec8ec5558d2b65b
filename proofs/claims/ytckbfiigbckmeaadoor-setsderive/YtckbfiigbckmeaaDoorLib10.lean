/- slices.ContainsFunc over items and over productions. -/
import Derived.Test.YtckbfiigbckmeaaDoorSettle
import Derived.Shelf.SlicesQ.IndexFunc
import Derived.Shelf.Lay
import Derived.Ground.SlgfProg
namespace Go.Proofs.YtckbfiigbckmeaaDoor
open Go.RowKit Go.Shelf Go.Proofs
shelf_lay_g SlLaysH0.n8 Slgf 8 at Tryd 48 as Tryd.containsI
shelf_lay_g SlLaysH0.n8 Slgf 8 at Tryd 43 as Tryd.containsP

def encIt (x : It) : List Value := [.int .i64 x.sym, .string x.fld, .string x.als]

set_option maxHeartbeats 400000 in
theorem containsI_none (ao : Option Addr) (cap : Nat) (fv : Value) (w : World) :
    Calls Tryd.prog 48 #[.slice ao 0 cap, fv] w fun e w' => e = .returned (.bool false) ∧ Below w.heap.size w w' := by
  go_enter Tryd.func48, Tryd.ntmps48
  go_wp2
  refine wp_loop_once ?_
  go_wp2
  go_ret
  exact ⟨rfl, Below.refl _ _⟩
set_option maxHeartbeats 400000 in
theorem containsP_none (ao : Option Addr) (cap : Nat) (fv : Value) (w : World) :
    Calls Tryd.prog 43 #[.slice ao 0 cap, fv] w fun e w' => e = .returned (.bool false) ∧ Below w.heap.size w w' := by
  go_enter Tryd.func43, Tryd.ntmps43
  go_wp2
  refine wp_loop_once ?_
  go_wp2
  go_ret
  exact ⟨rfl, Below.refl _ _⟩
theorem range_any {α : Type} (l : List α) (l0 : α) (p : α → Bool) : ((List.range l.length).take l.length).any (fun i => p (l.getD i l0)) = l.any p := by
  rw [List.take_of_length_le (by simp)]
  rw [Bool.eq_iff_iff, List.any_eq_true, List.any_eq_true]
  constructor
  · rintro ⟨i, hi, h⟩
    have hi' : i < l.length := by simpa using hi
    refine ⟨l[i], List.getElem_mem hi', ?_⟩
    rwa [List.getD_eq_getElem?_getD, List.getElem?_eq_getElem hi'] at h
  · rintro ⟨x, hx, h⟩
    obtain ⟨i, hi, rfl⟩ := List.getElem_of_mem hx
    refine ⟨i, by simpa using hi, ?_⟩
    rw [List.getD_eq_getElem?_getD, List.getElem?_eq_getElem hi]
    exact h
theorem getD_mem {α : Type} {l : List α} {l0 : α} (h0 : l0 ∈ l) (i : Nat) : l.getD i l0 ∈ l := by
  rw [List.getD_eq_getElem?_getD]
  cases h : l[i]? with
  | none => exact h0
  | some x => exact List.mem_of_getElem? h

theorem anyItems (g : Nat) (lb : Array Value) (eg : ∀ args w, (callFunc g args).run Tryd.prog w = .ok (.enter g args) w) (p : It → Bool) (l : List It) (v : Value) (w : World) (hl : SlT l v w) (hlen : l.length ≤ 1000)
    (hp : ∀ (W : World) (x : It), x ∈ l → Below w.heap.size w W → Calls Tryd.prog g (#[.agg #[.int .i64 x.sym, .string x.fld, .string x.als]] ++ lb) W fun e w' => e = .returned (.bool (p x)) ∧ Below w.heap.size w w') :
    Calls Tryd.prog 48 #[v, .func (.func g) #[] lb] w fun e w' => e = .returned (.bool (l.any p)) ∧ Below w.heap.size w w' := by
  obtain ⟨ao, cap, rfl, hI, _⟩ := hl
  by_cases h0 : l = []
  · subst h0
    exact containsI_none ao cap _ w
  · obtain ⟨l0, hl0⟩ : ∃ l0, l0 ∈ l := List.exists_mem_of_ne_nil l h0
    have hpos : 0 < l.length := List.length_pos_of_mem hl0
    obtain ⟨b, off, rfl, hb, _⟩ := hI.at (Below.refl _ _) hpos
    have h := AnyQ.slices_ContainsFunc Tryd.containsI 3 Tryd.isAgg48 Tryd.sizeOf48 (fun i : Nat => encIt (l.getD i l0)) (fun _ => rfl) (fun i => p (l.getD i l0)) g lb eg b off l.length cap (List.range l.length) w
      (fun W x hW => hp W _ (getD_mem hl0 x) hW) (by simp) (by omega) hb (fun j hj i v hi => by
        have hj' : j < l.length := by simpa using hj
        rw [getElem!_pos (List.range l.length) j hj, List.getElem_range] at hi
        rw [List.getD_eq_getElem?_getD, List.getElem?_eq_getElem hj'] at hi
        obtain ⟨b', off', e1, _, k0, k1, k2, _⟩ := hI.at (Below.refl _ _) hj'
        cases e1
        match i, hi with
        | 0, hi => simp [encIt] at hi; rw [← hi]; exact k0
        | 1, hi => simp [encIt] at hi; rw [← hi]; exact k1
        | 2, hi => simp [encIt] at hi; rw [← hi]; exact k2
        | i + 3, hi => simp [encIt] at hi)
    rw [range_any] at h
    exact h

/-- No production is one of those that are looked for. -/
theorem noProds (g : Nat) (lb : Array Value) (eg : ∀ args w, (callFunc g args).run Tryd.prog w = .ok (.enter g args) w) (l : List Pr) (ao : Option Addr) (cap : Nat) (w : World) (hl : PrsAt l ao w) (hlen : l.length ≤ 1000)
    (hp : ∀ (W : World) (x : Pr) (v : Value), x ∈ l → SlT x.right v W → Below w.heap.size w W → Calls Tryd.prog g (#[.agg #[.int .i64 x.left, v, .int .i64 x.prec]] ++ lb) W fun e w' => e = .returned (.bool false) ∧ Below w.heap.size w w') :
    Calls Tryd.prog 43 #[.slice ao l.length cap, .func (.func g) #[] lb] w fun e w' => e = .returned (.bool false) ∧ Below w.heap.size w w' := by
  by_cases h0 : l = []
  · subst h0
    exact containsP_none ao cap _ w
  · obtain ⟨l0, hl0⟩ : ∃ l0, l0 ∈ l := List.exists_mem_of_ne_nil l h0
    have hpos : 0 < l.length := List.length_pos_of_mem hl0
    obtain ⟨b, off, _, hao, hb, _⟩ := hl.at (Below.refl _ _) hpos
    subst hao
    have hall : ∀ i : Nat, ∃ q : Pr × Value, q.1 ∈ l ∧ SlT q.1.right q.2 w ∧ (i < l.length → w.cell? ⟨b, off + i * 3, none⟩ = some (.int .i64 q.1.left) ∧ w.cell? ⟨b, off + i * 3 + 1, none⟩ = some q.2 ∧ w.cell? ⟨b, off + i * 3 + 2, none⟩ = some (.int .i64 q.1.prec)) := fun i => by
      by_cases hi : i < l.length
      · obtain ⟨b', off', v, e, _, k0, k1, k2, hv, _⟩ := hl.at (Below.refl _ _) hi
        cases e
        exact ⟨(l[i], v), List.getElem_mem hi, hv, fun _ => ⟨k0, k1, k2⟩⟩
      · obtain ⟨b', off', v, e, _, k0, k1, k2, hv, _⟩ := hl.at (Below.refl _ _) hpos
        exact ⟨(l[0], v), List.getElem_mem hpos, hv, fun h => absurd h hi⟩
    obtain ⟨q, hq⟩ := Classical.axiomOfChoice hall
    have h := AnyQ.slices_ContainsFunc Tryd.containsP 3 Tryd.isAgg45 Tryd.sizeOf45 (fun i : Nat => [.int .i64 (q i).1.left, (q i).2, .int .i64 (q i).1.prec]) (fun _ => rfl) (fun _ => false) g lb eg b off l.length cap (List.range l.length) w
      (fun W x hW => hp W (q x).1 (q x).2 (hq x).1 ((hq x).2.1.next hW) hW) (by simp) (by omega) hb (fun j hj i v hi => by
        have hj' : j < l.length := by simpa using hj
        rw [getElem!_pos (List.range l.length) j hj, List.getElem_range] at hi
        obtain ⟨k0, k1, k2⟩ := (hq j).2.2 hj'
        match i, hi with
        | 0, hi => simp at hi; rw [← hi]; exact k0
        | 1, hi => simp at hi; rw [← hi]; exact k1
        | 2, hi => simp at hi; rw [← hi]; exact k2
        | i + 3, hi => simp at hi)
    rw [show ((List.range l.length).take l.length).any (fun _ => false) = false by simp] at h
    exact h
end Go.Proofs.YtckbfiigbckmeaaDoor
