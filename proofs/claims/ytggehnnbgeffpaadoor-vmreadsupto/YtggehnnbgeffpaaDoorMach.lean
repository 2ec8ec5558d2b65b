/- The machine as it lies in a world, and what each kind of operation does to it. -/
import Derived.Test.YtggehnnbgeffpaaDoorFit
import Derived.Deep.RegionWith
import Derived.BigRegion
import Derived.Laws.AppendOwn
namespace Go.Proofs.YtggehnnbgeffpaaDoor
open Go.Shelf Go.RowKit Go.Lib Go.Proofs

structure M where
  next : Nat
  taken : Nat
  seen : Nat
  state : Nat
  found : Bool

structure MAt (B : Nat) (sl : Value) (t : ByteArray) (m : M) (W : World) : Prop where
  c0 : W.cell? ⟨B, 0, none⟩ = some sl
  c1 : W.cell? ⟨B, 1, none⟩ = some (.int .i64 m.next)
  c2 : W.cell? ⟨B, 2, none⟩ = some (.string t)
  c3 : W.cell? ⟨B, 3, none⟩ = some (.int .i64 m.taken)
  c4 : W.cell? ⟨B, 4, none⟩ = some (.int .i64 m.seen)
  c5 : W.cell? ⟨B, 5, none⟩ = some (.int .u8 m.state)
  c6 : W.cell? ⟨B, 6, none⟩ = some (.bool m.found)
  f1 : W.frozen? ⟨B, 1, none⟩ = false
  f3 : W.frozen? ⟨B, 3, none⟩ = false
  f4 : W.frozen? ⟨B, 4, none⟩ = false
  f5 : W.frozen? ⟨B, 5, none⟩ = false
  f6 : W.frozen? ⟨B, 6, none⟩ = false
  lt : B < W.heap.size

theorem grown_trans {A B C : World} {row : Option Nat} (h : A.grownBy B row) (k : B.grownBy C row) : A.grownBy C row :=
  ⟨k.os.trans h.os, k.tape.trans h.tape, k.output.trans h.output, Nat.le_trans h.size k.size, fun i hi hr => (k.block i (Nat.lt_of_lt_of_le hi h.size) hr).trans (h.block i hi hr)⟩
theorem grown_refl (A : World) (row : Option Nat) : A.grownBy A row := ⟨rfl, rfl, rfl, Nat.le_refl _, fun _ _ _ => rfl⟩
theorem grown_alloc (A : World) (o : Obj) (row : Option Nat) : A.grownBy (A.alloc o) row := World.grownBy_alloc A o row
theorem grown_alloc' {A W : World} {row : Option Nat} (h : A.grownBy W row) (o : Obj) : A.grownBy (W.alloc o) row := grown_trans h (grown_alloc _ _ _)
theorem grown_set {A W : World} {B : Nat} (h : A.grownBy W (some B)) (k : Nat) (v : Value) : A.grownBy (W.setCell ⟨B, k, none⟩ v) (some B) :=
  grown_trans h ⟨rfl, rfl, rfl, by simp [World.setCell], fun i _ hr => Below.heap_setCell _ _ _ _ (by intro e; exact hr (congrArg some e))⟩
theorem grown_drew {A B : World} {row : Option Nat} (h : A.grownBy B row) : A.grownBy B.drew row := ⟨h.os, h.tape, h.output, h.size, h.block⟩
theorem grown_drewN {A B : World} {row : Option Nat} (h : A.grownBy B row) (n : Nat) : A.grownBy (B.drewN n) row := ⟨h.os, h.tape, h.output, h.size, h.block⟩
theorem grown_below {A B : World} {n k : Nat} (h : A.grownBy B (some k)) (hn : n ≤ k) (hs : n ≤ A.heap.size) : Below n A B :=
  ⟨h.os, h.tape, h.output, h.size, fun i hi => h.block i (by omega) (by simp; omega)⟩

/-- What an operation does, the next one being ready. -/
def act (n : Nat) (t : List UInt8) (i : Ins) (m : M) : M :=
  if i.op = 1 then
    if m.taken < t.length ∧ i.x ≤ (t.getD m.taken 0).toNat ∧ ((t.getD m.taken 0).toNat : Int) ≤ i.y then { m with taken := m.taken + 1, seen := m.taken + 1 }
    else { m with next := i.z.toNat, seen := m.taken + 1 }
  else if i.op = 2 then if (m.state : Int) = i.x then m else { m with next := i.z.toNat }
  else if i.op = 3 then { m with state := i.x.toNat }
  else if i.op = 4 then { m with state := (m.state + i.x.toNat) % 256 }
  else if i.op = 5 then { m with next := i.z.toNat }
  else if i.op = 6 then { m with found := true }
  else { m with next := n }

/-- What a method says. -/
def Acts (B : Nat) (sl : Value) (t : ByteArray) (m' : M) (W : World) (e : Ending) (W' : World) : Prop :=
  e = .returned (.tuple #[]) ∧ W.grownBy W' (some B) ∧ MAt B sl t m' W'

set_option maxHeartbeats 1000000 in
theorem is_any (B : Nat) (sl : Value) (t : ByteArray) (m : M) (i : Ins) (n : Nat) (W : World) (h : MAt B sl t m W) (ho : i.op = 2) (hz : 0 ≤ i.z) (hs : m.state < 256) :
    Calls Tryd.prog 56 #[.pointer (some ⟨B, 0, none⟩), aggI i] W (Acts B sl t (act n t.data.toList i m) W) := by
  obtain ⟨o, x, y, z⟩ := i
  obtain ⟨nx, tk, sn, st, fd⟩ := m
  simp only at ho hz hs
  subst ho
  obtain ⟨c0, c1, c2, c3, c4, c5, c6, f1, f3, f4, f5, f6, lt⟩ := h
  simp only at c1 c3 c4 c5 c6
  have hne : B ≠ W.heap.size := by omega
  obtain ⟨zn, rfl⟩ : ∃ zn : Nat, z = zn := ⟨z.toNat, by omega⟩
  by_cases hx : (st : Int) = x
  · have e : act n t.data.toList ⟨2, x, y, zn⟩ ⟨nx, tk, sn, st, fd⟩ = ⟨nx, tk, sn, st, fd⟩ := by simp [act, hx]
    rw [e]
    subst hx
    go_enter Tryd.func56, Tryd.ntmps56
    go_wp2
    go_quiet (fail)
    go_wp2
    refine bodyPost_end (results_none rfl _ _ _) rfl ?_
    refine ⟨rfl, grown_drewN (grown_alloc _ _ _) _, ?_⟩
    constructor <;> (go_simp)
  · have e : act n t.data.toList ⟨2, x, y, zn⟩ ⟨nx, tk, sn, st, fd⟩ = ⟨zn, tk, sn, st, fd⟩ := by simp [act, hx]
    rw [e]
    go_enter Tryd.func56, Tryd.ntmps56
    go_wp2
    go_quiet (fail)
    go_wp2
    refine bodyPost_end (results_none rfl _ _ _) rfl ?_
    refine ⟨rfl, grown_set (grown_drewN (grown_alloc _ _ _) _) _ _, ?_⟩
    constructor <;> (go_simp)

set_option maxHeartbeats 1000000 in
theorem set_any (B : Nat) (sl : Value) (t : ByteArray) (m : M) (i : Ins) (n : Nat) (W : World) (h : MAt B sl t m W) (ho : i.op = 3) (hx : 0 ≤ i.x) (hx2 : i.x ≤ 255) :
    Calls Tryd.prog 57 #[.pointer (some ⟨B, 0, none⟩), aggI i] W (Acts B sl t (act n t.data.toList i m) W) := by
  obtain ⟨o, x, y, z⟩ := i
  obtain ⟨nx, tk, sn, st, fd⟩ := m
  simp only at ho hx hx2
  subst ho
  obtain ⟨c0, c1, c2, c3, c4, c5, c6, f1, f3, f4, f5, f6, lt⟩ := h
  simp only at c1 c3 c4 c5 c6
  have hne : B ≠ W.heap.size := by omega
  obtain ⟨xn, rfl⟩ : ∃ xn : Nat, x = xn := ⟨x.toNat, by omega⟩
  have e : act n t.data.toList ⟨3, xn, y, z⟩ ⟨nx, tk, sn, st, fd⟩ = ⟨nx, tk, sn, xn, fd⟩ := by simp [act]
  rw [e]
  go_enter Tryd.func57, Tryd.ntmps57
  go_wp2
  refine bodyPost_end (results_none rfl _ _ _) rfl ?_
  refine ⟨rfl, grown_alloc' (grown_set (grown_refl _ _) _ _) _, ?_⟩
  constructor <;> (go_simp)

set_option maxHeartbeats 1000000 in
theorem jump_any (B : Nat) (sl : Value) (t : ByteArray) (m : M) (i : Ins) (n : Nat) (W : World) (h : MAt B sl t m W) (ho : i.op = 5) (hz : 0 ≤ i.z) :
    Calls Tryd.prog 59 #[.pointer (some ⟨B, 0, none⟩), aggI i] W (Acts B sl t (act n t.data.toList i m) W) := by
  obtain ⟨o, x, y, z⟩ := i
  obtain ⟨nx, tk, sn, st, fd⟩ := m
  simp only at ho hz
  subst ho
  obtain ⟨c0, c1, c2, c3, c4, c5, c6, f1, f3, f4, f5, f6, lt⟩ := h
  simp only at c1 c3 c4 c5 c6
  have hne : B ≠ W.heap.size := by omega
  obtain ⟨zn, rfl⟩ : ∃ zn : Nat, z = zn := ⟨z.toNat, by omega⟩
  have e : act n t.data.toList ⟨5, x, y, zn⟩ ⟨nx, tk, sn, st, fd⟩ = ⟨zn, tk, sn, st, fd⟩ := by simp [act]
  rw [e]
  go_enter Tryd.func59, Tryd.ntmps59
  go_wp2
  refine bodyPost_end (results_none rfl _ _ _) rfl ?_
  refine ⟨rfl, grown_alloc' (grown_set (grown_refl _ _) _ _) _, ?_⟩
  constructor <;> (go_simp)

set_option maxHeartbeats 1000000 in
theorem yes_any (B : Nat) (sl : Value) (t : ByteArray) (m : M) (i : Ins) (n : Nat) (W : World) (h : MAt B sl t m W) (ho : i.op = 6) :
    Calls Tryd.prog 60 #[.pointer (some ⟨B, 0, none⟩), aggI i] W (Acts B sl t (act n t.data.toList i m) W) := by
  obtain ⟨o, x, y, z⟩ := i
  obtain ⟨nx, tk, sn, st, fd⟩ := m
  simp only at ho 
  subst ho
  obtain ⟨c0, c1, c2, c3, c4, c5, c6, f1, f3, f4, f5, f6, lt⟩ := h
  simp only at c1 c3 c4 c5 c6
  have hne : B ≠ W.heap.size := by omega
  have e : act n t.data.toList ⟨6, x, y, z⟩ ⟨nx, tk, sn, st, fd⟩ = ⟨nx, tk, sn, st, true⟩ := by simp [act]
  rw [e]
  go_enter Tryd.func60, Tryd.ntmps60
  go_wp2
  refine bodyPost_end (results_none rfl _ _ _) rfl ?_
  refine ⟨rfl, grown_alloc' (grown_set (grown_refl _ _) _ _) _, ?_⟩
  constructor <;> (go_simp)

set_option maxHeartbeats 1000000 in
theorem no_any (B : Nat) (sl : Value) (t : ByteArray) (m : M) (i : Ins) (n : Nat) (W : World) (h : MAt B sl t m W) (ho : i.op = 7) (ao : Option Addr) (cap : Nat) (hsl : sl = .slice ao n cap) :
    Calls Tryd.prog 61 #[.pointer (some ⟨B, 0, none⟩), aggI i] W (Acts B sl t (act n t.data.toList i m) W) := by
  obtain ⟨o, x, y, z⟩ := i
  obtain ⟨nx, tk, sn, st, fd⟩ := m
  simp only at ho 
  subst ho
  obtain ⟨c0, c1, c2, c3, c4, c5, c6, f1, f3, f4, f5, f6, lt⟩ := h
  simp only at c1 c3 c4 c5 c6
  have hne : B ≠ W.heap.size := by omega
  subst hsl
  have e : act n t.data.toList ⟨7, x, y, z⟩ ⟨nx, tk, sn, st, fd⟩ = ⟨n, tk, sn, st, fd⟩ := by simp [act]
  rw [e]
  go_enter Tryd.func61, Tryd.ntmps61
  go_wp2
  refine bodyPost_end (results_none rfl _ _ _) rfl ?_
  refine ⟨rfl, grown_alloc' (grown_set (grown_refl _ _) _ _) _, ?_⟩
  constructor <;> (go_simp)

set_option maxHeartbeats 1000000 in
theorem add_any (B : Nat) (sl : Value) (t : ByteArray) (m : M) (i : Ins) (n : Nat) (W : World) (h : MAt B sl t m W) (ho : i.op = 4) (hx : 0 ≤ i.x) (hx2 : i.x ≤ 255) (hs : m.state < 256) :
    Calls Tryd.prog 58 #[.pointer (some ⟨B, 0, none⟩), aggI i] W (Acts B sl t (act n t.data.toList i m) W) := by
  obtain ⟨o, x, y, z⟩ := i
  obtain ⟨nx, tk, sn, st, fd⟩ := m
  simp only at ho hx hx2 hs
  subst ho
  obtain ⟨c0, c1, c2, c3, c4, c5, c6, f1, f3, f4, f5, f6, lt⟩ := h
  simp only at c1 c3 c4 c5 c6
  have hne : B ≠ W.heap.size := by omega
  obtain ⟨xn, rfl⟩ : ∃ xn : Nat, x = xn := ⟨x.toNat, by omega⟩
  have e : act n t.data.toList ⟨4, xn, y, z⟩ ⟨nx, tk, sn, st, fd⟩ = ⟨nx, tk, sn, (st + xn) % 256, fd⟩ := by simp [act]
  rw [e]
  go_enter Tryd.func58, Tryd.ntmps58
  go_wp2
  go_big_region
  all_goals go_wp2
  refine bodyPost_end (results_none rfl _ _ _) rfl ?_
  refine ⟨rfl, grown_drew (grown_alloc' (grown_set (grown_refl _ _) _ _) _), ?_⟩
  constructor <;> (go_simp)


set_option maxHeartbeats 2000000 in
theorem char_any (B : Nat) (sl : Value) (t : ByteArray) (m : M) (i : Ins) (n : Nat) (W : World) (h : MAt B sl t m W) (ho : i.op = 1) (hz : 0 ≤ i.z) (ht : m.taken ≤ t.size) (hs : t.size ≤ 9223372036854775806) :
    Calls Tryd.prog 55 #[.pointer (some ⟨B, 0, none⟩), aggI i] W (Acts B sl t (act n t.data.toList i m) W) := by
  obtain ⟨o, x, y, z⟩ := i
  obtain ⟨nx, tk, sn, st, fd⟩ := m
  simp only at ho hz ht
  subst ho
  obtain ⟨zn, rfl⟩ : ∃ zn : Nat, z = zn := ⟨z.toNat, by omega⟩
  obtain ⟨c0, c1, c2, c3, c4, c5, c6, f1, f3, f4, f5, f6, lt⟩ := h
  simp only at c1 c3 c4 c5 c6
  have hne : B ≠ W.heap.size := by omega
  by_cases hk : tk = t.size
  · have e : act n t.data.toList ⟨1, x, y, zn⟩ ⟨nx, tk, sn, st, fd⟩ = ⟨zn, tk, tk + 1, st, fd⟩ := by simp [act, hk]
    rw [e]
    have hk2 : ((tk : Int) == (t.size : Int)) = true := by simp [hk]
    go_enter Tryd.func55, Tryd.ntmps55
    go_wp2
    go_quiet (fail)
    go_wp2
    refine bodyPost_ret (results_none rfl _ _ _) rfl ?_
    refine ⟨rfl, grown_set (grown_drewN (grown_alloc' (grown_set (grown_refl _ _) _ _) _) _) _ _, ?_⟩
    constructor <;> (go_simp)
    all_goals simp [hk]
  · have hlt : tk < t.size := by omega
    have hk2 : ((tk : Int) == (t.size : Int)) = false := beq_eq_false_iff_ne.2 (by omega)
    have hk3 : (tk : Int) < t.size := by omega
    have hw : wrap64 (t[tk].toNat : Int) = t[tk].toNat := IntWalk.wrap64_in _ (by have := t[tk].toNat_lt; omega)
    have hg : t.data.toList.getD tk 0 = t[tk] := by
      rw [List.getD_eq_getElem?_getD, List.getElem?_eq_getElem (by simpa using hlt)]
      rfl
    have e : act n t.data.toList ⟨1, x, y, zn⟩ ⟨nx, tk, sn, st, fd⟩ = if x ≤ t[tk].toNat ∧ (t[tk].toNat : Int) ≤ y then ⟨nx, tk + 1, tk + 1, st, fd⟩ else ⟨zn, tk, tk + 1, st, fd⟩ := by
      unfold act
      rw [hg]
      simp [hlt]
    rw [e]
    clear hg e
    by_cases hx : x ≤ t[tk].toNat ∧ (t[tk].toNat : Int) ≤ y
    · rw [if_pos hx]
      have h1 : ¬ (t[tk].toNat : Int) < x := by omega
      have h2 : ¬ y < (t[tk].toNat : Int) := by omega
      go_enter Tryd.func55, Tryd.ntmps55
      go_wp2
      go_quiet (fail)
      go_wp2
      go_quiet (fail)
      rw [hw]
      go_wp2
      all_goals
        refine bodyPost_end (results_none rfl _ _ _) rfl ?_
        refine ⟨rfl, ?_, ?_⟩
        · repeat (first | apply grown_set | apply grown_drewN | apply grown_alloc' | exact grown_refl _ _)
        · constructor <;> (go_simp)
    · rw [if_neg hx]
      have h1 : (t[tk].toNat : Int) < x ∨ (¬ (t[tk].toNat : Int) < x ∧ y < (t[tk].toNat : Int)) := by omega
      rcases h1 with h1 | ⟨h1, h2⟩
      all_goals
        go_enter Tryd.func55, Tryd.ntmps55
        go_wp2
        go_quiet (fail)
        go_wp2
        go_quiet (fail)
        rw [hw]
        go_wp2
      all_goals
        refine bodyPost_ret (results_none rfl _ _ _) rfl ?_
        refine ⟨rfl, ?_, ?_⟩
        · repeat (first | apply grown_set | apply grown_drewN | apply grown_alloc' | exact grown_refl _ _)
        · constructor <;> (go_simp)
end Go.Proofs.YtggehnnbgeffpaaDoor
