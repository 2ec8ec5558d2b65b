/- Rows of numbers, of truths and of rows, and a plain grammar, as they lie in a world; the document's comparisons of rows. -/
import Derived.Test.YtckbfiigbckmeaaDoorProg
import Derived.Test.YtckbfiigbckmeaaDoorSetsMath
import Derived.WalkKit
import Derived.WalkSpells
import Derived.WalkLawsBesides
import Derived.Deep.QuietTactic
import Derived.BigQuiet
namespace Go.Proofs.YtckbfiigbckmeaaDoor
open Go.RowKit

theorem ret_int {k : IntKind} {a b : Int} (h : a = b) : Ending.returned (.int k a) = .returned (.int k b) := by rw [h]
theorem ret_bool {a b : Bool} (h : a = b) : Ending.returned (.bool a) = .returned (.bool b) := by rw [h]
theorem below_then {n : Nat} {w W W' : World} (h : Below n w W) (hb : Below W.heap.size W W') (hn : n ≤ W.heap.size) : Below n w W' := h.trans (hb.mono hn)
theorem below_drewN {B : Nat} {a w : World} (h : Below B a w) (n : Nat) : Below B a (w.drewN n) := ⟨h.os, h.tape, h.output, h.size, h.block⟩
theorem drewN_two (w : World) (a b : Nat) : ∃ m, (w.drewN a).drewN b = w.drewN m := ⟨a + b, by rw [World.drewN_drewN]⟩
theorem add_plain (b o j : Nat) : (⟨b, o, none⟩ : Addr).add j = ⟨b, o + j, none⟩ := by unfold Addr.add; split <;> simp_all
def i64B (x : Int) : Prop := -9223372036854775808 ≤ x ∧ x ≤ 9223372036854775807

/-- The cells from the address on, each of one cell, hold what `enc` says. -/
def RowAt {α : Type} (enc : α → Value) (l : List α) (ao : Option Addr) (W : World) : Prop :=
  ∀ (i : Nat) (x : α), l[i]? = some x → ∃ b off, ao = some ⟨b, off, none⟩ ∧ b < W.heap.size ∧ W.cell? ⟨b, off + i, none⟩ = some (enc x)
theorem RowAt.next {α : Type} {enc : α → Value} {l : List α} {ao : Option Addr} {W W' : World} (h : RowAt enc l ao W) (hb : Below W.heap.size W W') : RowAt enc l ao W' := fun i r hr => by
  obtain ⟨b, off, h0, h1, h2⟩ := h i r hr
  exact ⟨b, off, h0, Nat.lt_of_lt_of_le h1 hb.size, (hb.cell (p := ⟨b, off + i, none⟩) h1).trans h2⟩
theorem RowAt.nil {α : Type} (enc : α → Value) (ao : Option Addr) (W : World) : RowAt enc [] ao W := fun i r hr => by simp at hr
theorem RowAt.at {α : Type} {enc : α → Value} {l : List α} {ao : Option Addr} {w W : World} (h : RowAt enc l ao w) (hb : Below w.heap.size w W) {j : Nat} (hj : j < l.length) :
    ∃ b off, ao = some ⟨b, off, none⟩ ∧ b < W.heap.size ∧ W.cell? ⟨b, off + j, none⟩ = some (enc l[j]) := h.next hb j l[j] (by simp [hj])
theorem RowAt.cons_none {α : Type} {enc : α → Value} {l : List α} {W : World} (h : RowAt enc l none W) : l = [] := by
  cases l with
  | nil => rfl
  | cons r t => obtain ⟨b, off, h0, _⟩ := h 0 r rfl; cases h0

def encI (x : Int) : Value := .int .i64 x
def encB (x : Bool) : Value := .bool x

/-- A slice of numbers. -/
def SlI (l : List Int) (v : Value) (W : World) : Prop :=
  ∃ ao cap, v = .slice ao l.length cap ∧ RowAt encI l ao W ∧ (ao = none → cap = 0) ∧ l.length ≤ cap ∧ (∀ x ∈ l, i64B x)
theorem SlI.next {l : List Int} {v : Value} {W W' : World} (h : SlI l v W) (hb : Below W.heap.size W W') : SlI l v W' := by
  obtain ⟨ao, cap, h0, h1, h2, h3, h4⟩ := h
  exact ⟨ao, cap, h0, h1.next hb, h2, h3, h4⟩
def SlB (l : List Bool) (v : Value) (W : World) : Prop :=
  ∃ ao cap, v = .slice ao l.length cap ∧ RowAt encB l ao W ∧ (ao = none → cap = 0) ∧ l.length ≤ cap
theorem SlB.next {l : List Bool} {v : Value} {W W' : World} (h : SlB l v W) (hb : Below W.heap.size W W') : SlB l v W' := by
  obtain ⟨ao, cap, h0, h1, h2, h3⟩ := h
  exact ⟨ao, cap, h0, h1.next hb, h2, h3⟩

/-- Rows of numbers: the cells hold slices, and each of these its row. -/
def RowsAt (R : List (List Int)) (ao : Option Addr) (W : World) : Prop :=
  ∀ (i : Nat) (l : List Int), R[i]? = some l → ∃ b off v, ao = some ⟨b, off, none⟩ ∧ b < W.heap.size ∧ W.cell? ⟨b, off + i, none⟩ = some v ∧ SlI l v W
theorem RowsAt.next {R : List (List Int)} {ao : Option Addr} {W W' : World} (h : RowsAt R ao W) (hb : Below W.heap.size W W') : RowsAt R ao W' := fun i r hr => by
  obtain ⟨b, off, v, h0, h1, h2, h3⟩ := h i r hr
  exact ⟨b, off, v, h0, Nat.lt_of_lt_of_le h1 hb.size, (hb.cell (p := ⟨b, off + i, none⟩) h1).trans h2, h3.next hb⟩
theorem RowsAt.at {R : List (List Int)} {ao : Option Addr} {w W : World} (h : RowsAt R ao w) (hb : Below w.heap.size w W) {j : Nat} (hj : j < R.length) :
    ∃ b off v, ao = some ⟨b, off, none⟩ ∧ b < W.heap.size ∧ W.cell? ⟨b, off + j, none⟩ = some v ∧ SlI R[j] v W := h.next hb j R[j] (by simp [hj])
def SlR (R : List (List Int)) (v : Value) (W : World) : Prop :=
  ∃ ao cap, v = .slice ao R.length cap ∧ RowsAt R ao W ∧ (ao = none → cap = 0) ∧ R.length ≤ cap
theorem SlR.next {R : List (List Int)} {v : Value} {W W' : World} (h : SlR R v W) (hb : Below W.heap.size W W') : SlR R v W' := by
  obtain ⟨ao, cap, h0, h1, h2, h3⟩ := h
  exact ⟨ao, cap, h0, h1.next hb, h2, h3⟩

/-- A slice that lies from block B on, if anywhere. -/
def Apart (B : Nat) (v : Value) : Prop := ∀ ad n c, v = .slice (some ad) n c → B ≤ ad.block
theorem Apart.mono {B B' : Nat} {v : Value} (h : Apart B v) (hb : B' ≤ B) : Apart B' v := fun ad n c e => Nat.le_trans hb (h ad n c e)
theorem Apart.none (B n c : Nat) : Apart B (.slice none n c) := fun ad n c e => by cases e

/-! A plain grammar. -/
structure It where
  sym : Int
  fld : ByteArray
  als : ByteArray
structure Pr where
  left : Int
  right : List It
  prec : Int
structure Fl where
  terms : List ByteArray
  nons : List ByteArray
  prods : List Pr

def ItsAt (l : List It) (ao : Option Addr) (W : World) : Prop :=
  ∀ (i : Nat) (x : It), l[i]? = some x → ∃ b off, ao = some ⟨b, off, none⟩ ∧ b < W.heap.size ∧ W.cell? ⟨b, off + i * 3, none⟩ = some (.int .i64 x.sym) ∧ W.cell? ⟨b, off + i * 3 + 1, none⟩ = some (.string x.fld) ∧ W.cell? ⟨b, off + i * 3 + 2, none⟩ = some (.string x.als) ∧ i64B x.sym ∧ x.fld.size ≤ 9223372036854775807 ∧ x.als.size ≤ 9223372036854775807
theorem ItsAt.next {l : List It} {ao : Option Addr} {W W' : World} (h : ItsAt l ao W) (hb : Below W.heap.size W W') : ItsAt l ao W' := fun i r hr => by
  obtain ⟨b, off, h0, h1, h2, h3, h4, h5⟩ := h i r hr
  exact ⟨b, off, h0, Nat.lt_of_lt_of_le h1 hb.size, (hb.cell (p := ⟨b, off + i * 3, none⟩) h1).trans h2, (hb.cell (p := ⟨b, off + i * 3 + 1, none⟩) h1).trans h3, (hb.cell (p := ⟨b, off + i * 3 + 2, none⟩) h1).trans h4, h5⟩
theorem ItsAt.at {l : List It} {ao : Option Addr} {w W : World} (h : ItsAt l ao w) (hb : Below w.heap.size w W) {j : Nat} (hj : j < l.length) :
    ∃ b off, ao = some ⟨b, off, none⟩ ∧ b < W.heap.size ∧ W.cell? ⟨b, off + j * 3, none⟩ = some (.int .i64 l[j].sym) ∧ W.cell? ⟨b, off + j * 3 + 1, none⟩ = some (.string l[j].fld) ∧ W.cell? ⟨b, off + j * 3 + 2, none⟩ = some (.string l[j].als) ∧ i64B l[j].sym ∧ l[j].fld.size ≤ 9223372036854775807 ∧ l[j].als.size ≤ 9223372036854775807 := h.next hb j l[j] (by simp [hj])
def SlT (l : List It) (v : Value) (W : World) : Prop :=
  ∃ ao cap, v = .slice ao l.length cap ∧ ItsAt l ao W ∧ (ao = none → cap = 0) ∧ l.length ≤ cap ∧ cap ≤ 140737488351232
theorem SlT.next {l : List It} {v : Value} {W W' : World} (h : SlT l v W) (hb : Below W.heap.size W W') : SlT l v W' := by
  obtain ⟨ao, cap, h0, h1, h2, h3⟩ := h
  exact ⟨ao, cap, h0, h1.next hb, h2, h3⟩
def PrsAt (l : List Pr) (ao : Option Addr) (W : World) : Prop :=
  ∀ (i : Nat) (p : Pr), l[i]? = some p → ∃ b off v, ao = some ⟨b, off, none⟩ ∧ b < W.heap.size ∧ W.cell? ⟨b, off + i * 3, none⟩ = some (.int .i64 p.left) ∧ W.cell? ⟨b, off + i * 3 + 1, none⟩ = some v ∧ W.cell? ⟨b, off + i * 3 + 2, none⟩ = some (.int .i64 p.prec) ∧ SlT p.right v W ∧ i64B p.left ∧ i64B p.prec
theorem PrsAt.next {l : List Pr} {ao : Option Addr} {W W' : World} (h : PrsAt l ao W) (hb : Below W.heap.size W W') : PrsAt l ao W' := fun i r hr => by
  obtain ⟨b, off, v, h0, h1, h2, h3, h4, h5, h6⟩ := h i r hr
  exact ⟨b, off, v, h0, Nat.lt_of_lt_of_le h1 hb.size, (hb.cell (p := ⟨b, off + i * 3, none⟩) h1).trans h2, (hb.cell (p := ⟨b, off + i * 3 + 1, none⟩) h1).trans h3, (hb.cell (p := ⟨b, off + i * 3 + 2, none⟩) h1).trans h4, h5.next hb, h6⟩
theorem PrsAt.at {l : List Pr} {ao : Option Addr} {w W : World} (h : PrsAt l ao w) (hb : Below w.heap.size w W) {j : Nat} (hj : j < l.length) :
    ∃ b off v, ao = some ⟨b, off, none⟩ ∧ b < W.heap.size ∧ W.cell? ⟨b, off + j * 3, none⟩ = some (.int .i64 l[j].left) ∧ W.cell? ⟨b, off + j * 3 + 1, none⟩ = some v ∧ W.cell? ⟨b, off + j * 3 + 2, none⟩ = some (.int .i64 l[j].prec) ∧ SlT l[j].right v W ∧ i64B l[j].left ∧ i64B l[j].prec := h.next hb j l[j] (by simp [hj])
/-- A plain grammar as it is handed over: the addresses and capacities of its three rows. -/
structure FlA where
  ta : Option Addr
  tc : Nat
  na : Option Addr
  nc : Nat
  pa : Option Addr
  pc : Nat
def FlA.val (a : FlA) (f : Fl) : Value := .agg #[.slice a.ta f.terms.length a.tc, .slice a.na f.nons.length a.nc, .slice a.pa f.prods.length a.pc]
def FlAt (f : Fl) (a : FlA) (W : World) : Prop :=
  RowAt Value.string f.terms a.ta W ∧ RowAt Value.string f.nons a.na W ∧ PrsAt f.prods a.pa W ∧ f.terms.length ≤ 140737488351232 ∧ f.nons.length ≤ 140737488351232 ∧ f.prods.length ≤ 140737488351232 ∧ f.prods.length ≤ a.pc ∧ (a.pa = none → a.pc = 0)
theorem FlAt.next {f : Fl} {a : FlA} {W W' : World} (h : FlAt f a W) (hb : Below W.heap.size W W') : FlAt f a W' := by
  obtain ⟨h0, h1, h2, h3⟩ := h
  exact ⟨h0.next hb, h1.next hb, h2.next hb, h3⟩


set_option maxHeartbeats 800000 in
theorem ints_any (es fs : List Int) (u v : Value) (w : World) (hc : SlI es u w) (hd : SlI fs v w) (hl : es.length ≤ 1000000) (_hm : fs.length ≤ 1000000) :
    Calls Tryd.prog 19 #[u, v] w fun e w' => e = .returned (.bool (decide (es = fs))) ∧ ∃ m, w' = w.drewN m := by
  obtain ⟨ao, cap, rfl, hc, _⟩ := hc
  obtain ⟨bo, dap, rfl, hd, _⟩ := hd
  by_cases hn : es.length = fs.length
  · have hn' : (es.length : Int) = fs.length := by omega
    rw [← hn]
    go_enter Tryd.func19, Tryd.ntmps19
    go_wp2
    go_loopw [5] (fun i wr => ∃ (j : Nat), i = .int .i64 j ∧ j ≤ es.length ∧ (es = fs ↔ es.drop j = fs.drop j) ∧ ∃ m, wr = w.drewN m) (fun i _ => es.length - (intOf i).toNat)
    case atStart => exact ⟨0, rfl, Nat.zero_le _, by simp, 0, rfl⟩
    case round =>
      obtain ⟨j, rfl, hj, hrel, m0, rfl⟩ := hrel
      by_cases hlt : j < es.length
      · have hlt2 : j < fs.length := by omega
        obtain ⟨b, off, rfl, _, c0⟩ := hc.at (Below.refl _ _) hlt
        obtain ⟨b2, off2, rfl, _, d0⟩ := hd.at (Below.refl _ _) hlt2
        rw [List.drop_eq_getElem_cons hlt, List.drop_eq_getElem_cons hlt2] at hrel
        generalize es[j] = r at *
        generalize fs[j] = q at *
        simp only [encI] at c0 d0
        simp only [List.cons.injEq] at hrel
        have HN : Hid (es.length = fs.length) := hn
        clear hc hd hn hn' hlt2
        by_cases h1 : r = q
        · have HR : Hid (es = fs ↔ es.drop (j + 1) = fs.drop (j + 1)) := by show _ ↔ _; rw [hrel]; exact ⟨fun h => h.2, fun h => ⟨h1, h⟩⟩
          clear hrel
          subst h1
          go_wp2
          go_quiet (fail)
          go_wp2
          exact ⟨⟨j + 1, by go_num, by omega, HR.out, (by first | exact drewN_two _ _ _ | exact ⟨_, rfl⟩)⟩, by simp [intOf]; omega⟩
        · have HR : Hid (¬ es = fs) := by show ¬ _; rw [hrel]; exact fun h => h1 h.1
          clear hrel
          have h3 : (r == q) = false := by simpa using h1
          go_wp2
          go_quiet (fail)
          go_wp2
          go_ret
          exact ⟨ret_bool (by simp [HR.out]), (by first | exact drewN_two _ _ _ | exact ⟨_, rfl⟩)⟩
      · have HS : Hid (es = fs) := by
          show _ = _
          rw [hrel, List.drop_of_length_le (by omega), List.drop_of_length_le (by omega)]
        clear hrel hc hd
        go_wp2
        go_ret
        exact ⟨ret_bool (by simp [HS.out]), m0, rfl⟩
  · have hn' : ¬ (es.length : Int) = fs.length := by omega
    have HS : Hid (¬ es = fs) := fun h => hn (by rw [h])
    have hn2 : ((es.length : Int) != fs.length) = true := by simpa using hn'
    clear hc hd hn
    go_enter Tryd.func19, Tryd.ntmps19
    go_wp2
    go_ret
    exact ⟨ret_bool (by simp [HS.out]), 0, rfl⟩

set_option maxHeartbeats 800000 in
theorem bools_any (es fs : List Bool) (u v : Value) (w : World) (hc : SlB es u w) (hd : SlB fs v w) (hl : es.length ≤ 1000000) (_hm : fs.length ≤ 1000000) :
    Calls Tryd.prog 9 #[u, v] w fun e w' => e = .returned (.bool (decide (es = fs))) ∧ ∃ m, w' = w.drewN m := by
  obtain ⟨ao, cap, rfl, hc, _⟩ := hc
  obtain ⟨bo, dap, rfl, hd, _⟩ := hd
  by_cases hn : es.length = fs.length
  · have hn' : (es.length : Int) = fs.length := by omega
    rw [← hn]
    go_enter Tryd.func9, Tryd.ntmps9
    go_wp2
    go_loopw [5] (fun i wr => ∃ (j : Nat), i = .int .i64 j ∧ j ≤ es.length ∧ (es = fs ↔ es.drop j = fs.drop j) ∧ ∃ m, wr = w.drewN m) (fun i _ => es.length - (intOf i).toNat)
    case atStart => exact ⟨0, rfl, Nat.zero_le _, by simp, 0, rfl⟩
    case round =>
      obtain ⟨j, rfl, hj, hrel, m0, rfl⟩ := hrel
      by_cases hlt : j < es.length
      · have hlt2 : j < fs.length := by omega
        obtain ⟨b, off, rfl, _, c0⟩ := hc.at (Below.refl _ _) hlt
        obtain ⟨b2, off2, rfl, _, d0⟩ := hd.at (Below.refl _ _) hlt2
        rw [List.drop_eq_getElem_cons hlt, List.drop_eq_getElem_cons hlt2] at hrel
        generalize es[j] = r at *
        generalize fs[j] = q at *
        simp only [encB] at c0 d0
        simp only [List.cons.injEq] at hrel
        have HN : Hid (es.length = fs.length) := hn
        clear hc hd hn hn' hlt2
        by_cases h1 : r = q
        · have HR : Hid (es = fs ↔ es.drop (j + 1) = fs.drop (j + 1)) := by show _ ↔ _; rw [hrel]; exact ⟨fun h => h.2, fun h => ⟨h1, h⟩⟩
          clear hrel
          subst h1
          go_wp2
          go_quiet (fail)
          go_wp2
          exact ⟨⟨j + 1, by go_num, by omega, HR.out, (by first | exact drewN_two _ _ _ | exact ⟨_, rfl⟩)⟩, by simp [intOf]; omega⟩
        · have HR : Hid (¬ es = fs) := by show ¬ _; rw [hrel]; exact fun h => h1 h.1
          clear hrel
          have h3 : (r == q) = false := by simpa using h1
          go_wp2
          go_quiet (fail)
          go_wp2
          go_ret
          exact ⟨ret_bool (by simp [HR.out]), (by first | exact drewN_two _ _ _ | exact ⟨_, rfl⟩)⟩
      · have HS : Hid (es = fs) := by
          show _ = _
          rw [hrel, List.drop_of_length_le (by omega), List.drop_of_length_le (by omega)]
        clear hrel hc hd
        go_wp2
        go_ret
        exact ⟨ret_bool (by simp [HS.out]), m0, rfl⟩
  · have hn' : ¬ (es.length : Int) = fs.length := by omega
    have HS : Hid (¬ es = fs) := fun h => hn (by rw [h])
    have hn2 : ((es.length : Int) != fs.length) = true := by simpa using hn'
    clear hc hd hn
    go_enter Tryd.func9, Tryd.ntmps9
    go_wp2
    go_ret
    exact ⟨ret_bool (by simp [HS.out]), 0, rfl⟩

set_option maxHeartbeats 1600000 in
theorem rows_any (es fs : List (List Int)) (u v : Value) (w : World) (hc : SlR es u w) (hd : SlR fs v w) (hl : es.length ≤ 1000000) (_hm : fs.length ≤ 1000000) (hl2 : ∀ l ∈ es, l.length ≤ 1000000) (hm2 : ∀ l ∈ fs, l.length ≤ 1000000) :
    Calls Tryd.prog 14 #[u, v] w fun e w' => e = .returned (.bool (decide (es = fs))) ∧ ∃ m, w' = w.drewN m := by
  obtain ⟨ao, cap, rfl, hc, _⟩ := hc
  obtain ⟨bo, dap, rfl, hd, _⟩ := hd
  by_cases hn : es.length = fs.length
  · have hn' : (es.length : Int) = fs.length := by omega
    rw [← hn]
    go_enter Tryd.func14, Tryd.ntmps14
    go_wp2
    go_loopw [5] (fun i wr => ∃ (j : Nat), i = .int .i64 j ∧ j ≤ es.length ∧ (es = fs ↔ es.drop j = fs.drop j) ∧ ∃ m, wr = w.drewN m) (fun i _ => es.length - (intOf i).toNat)
    case atStart => exact ⟨0, rfl, Nat.zero_le _, by simp, 0, rfl⟩
    case round =>
      obtain ⟨j, rfl, hj, hrel, m0, hm0⟩ := hrel
      have B1 : Below w.heap.size w wr := by rw [hm0]; exact below_drewN (Below.refl _ _) _
      have HM : Hid (wr = w.drewN m0) := hm0
      clear hm0
      by_cases hlt : j < es.length
      · have hlt2 : j < fs.length := by omega
        obtain ⟨b, off, x, rfl, _, c0, c1⟩ := hc.at B1 hlt
        obtain ⟨b2, off2, y, rfl, _, d0, d1⟩ := hd.at B1 hlt2
        have l1 := hl2 _ (List.getElem_mem hlt)
        have l2 := hm2 _ (List.getElem_mem hlt2)
        rw [List.drop_eq_getElem_cons hlt, List.drop_eq_getElem_cons hlt2] at hrel
        generalize es[j] = r at *
        generalize fs[j] = q at *
        simp only [List.cons.injEq] at hrel
        have HN : Hid (es.length = fs.length) := hn
        clear hc hd hn hn' hlt2 hl2 hm2
        by_cases h1 : r = q
        · have HR : Hid (es = fs ↔ es.drop (j + 1) = fs.drop (j + 1)) := by show _ ↔ _; rw [hrel]; exact ⟨fun h => h.2, fun h => ⟨h1, h⟩⟩
          clear hrel
          have hin : ∀ n, Calls Tryd.prog 19 #[x, y] (wr.drewN n) fun e w' => e = .returned (.bool true) ∧ ∃ m, w' = (wr.drewN n).drewN m := fun n => by
            have := ints_any r q x y (wr.drewN n) c1 d1 l1 l2
            rw [show decide (r = q) = true from by simp [h1]] at this
            exact this
          go_wp2_with fail
          go_quiet ((go_at_call 19; exact Calls.quiet_of (hin _)))
          go_wp2
          exact ⟨⟨j + 1, by go_num, by omega, HR.out, (by rw [HM.out]; exact drewN_two _ _ _)⟩, by simp [intOf]; omega⟩
        · have HR : Hid (¬ es = fs) := by show ¬ _; rw [hrel]; exact fun h => h1 h.1
          clear hrel
          have hin : ∀ n, Calls Tryd.prog 19 #[x, y] (wr.drewN n) fun e w' => e = .returned (.bool false) ∧ ∃ m, w' = (wr.drewN n).drewN m := fun n => by
            have := ints_any r q x y (wr.drewN n) c1 d1 l1 l2
            rw [show decide (r = q) = false from by simp [h1]] at this
            exact this
          go_wp2_with fail
          go_quiet ((go_at_call 19; exact Calls.quiet_of (hin _)))
          go_wp2
          go_ret
          exact ⟨ret_bool (by simp [HR.out]), (by rw [HM.out]; exact drewN_two _ _ _)⟩
      · have HS : Hid (es = fs) := by
          show _ = _
          rw [hrel, List.drop_of_length_le (by omega), List.drop_of_length_le (by omega)]
        clear hrel hc hd
        go_wp2
        go_ret
        exact ⟨ret_bool (by simp [HS.out]), m0, HM.out⟩
  · have hn' : ¬ (es.length : Int) = fs.length := by omega
    have HS : Hid (¬ es = fs) := fun h => hn (by rw [h])
    have hn2 : ((es.length : Int) != fs.length) = true := by simpa using hn'
    clear hc hd hn
    go_enter Tryd.func14, Tryd.ntmps14
    go_wp2
    go_ret
    exact ⟨ret_bool (by simp [HS.out]), 0, rfl⟩
end Go.Proofs.YtckbfiigbckmeaaDoor
