/- What lies where: rows, slices, what is one's own, what is turned: for every layer. -/
import Derived.Test.YtoocafcagelbgaaProg
import Derived.WalkKit
import Derived.WalkSpells
import Derived.WalkLawsBesides
import Derived.Deep.QuietTactic
import Derived.BigQuiet
import Derived.Laws.AppendOwnNone
import Derived.Laws.OwnMore
import Derived.Deep.RegionHeld3
import Derived.Deep.AppendLies
import Derived.Deep.DrawnRows
import Derived.Maps.AppendAt
import Derived.Lib.Builder
import Derived.Deep.Cut
import Derived.Deep.CutRange
namespace Go.Proofs.Ytoocafcagelbgaa
open Go.RowKit

theorem ret_int {k : IntKind} {a b : Int} (h : a = b) : Ending.returned (.int k a) = .returned (.int k b) := by rw [h]
theorem ret_bool {a b : Bool} (h : a = b) : Ending.returned (.bool a) = .returned (.bool b) := by rw [h]
theorem below_then {n : Nat} {w W W' : World} (h : Below n w W) (hb : Below W.heap.size W W') (hn : n ≤ W.heap.size) : Below n w W' := h.trans (hb.mono hn)
theorem below_drewN {B : Nat} {a w : World} (h : Below B a w) (n : Nat) : Below B a (w.drewN n) := ⟨h.os, h.tape, h.output, h.size, h.block⟩
theorem drewN_two (w : World) (a b : Nat) : ∃ m, (w.drewN a).drewN b = w.drewN m := ⟨a + b, by rw [World.drewN_drewN]⟩
theorem add_plain (b o j : Nat) : (⟨b, o, none⟩ : Addr).add j = ⟨b, o + j, none⟩ := by unfold Addr.add; split <;> simp_all
def i64B (x : Int) : Prop := -9223372036854775808 ≤ x ∧ x ≤ 9223372036854775807
/-- The cells from the address on, each of one cell, hold what `enc` says. -/
def RowAt {α : Type} (enc : α → Value) (l : List α) (ao : Option Addr) (W : World) : Prop :=
  ∀ (i : Nat) (x : α), l[i]? = some x → ∃ b off, ao = some ⟨b, off, none⟩ ∧ b < W.heap.size ∧ W.cell? ⟨b, off + i, none⟩ = some (enc x)
theorem RowAt.next {α : Type} {enc : α → Value} {l : List α} {ao : Option Addr} {W W' : World} (h : RowAt enc l ao W) (hb : Below W.heap.size W W') : RowAt enc l ao W' := fun i r hr => by
  obtain ⟨b, off, h0, h1, h2⟩ := h i r hr
  exact ⟨b, off, h0, Nat.lt_of_lt_of_le h1 hb.size, (hb.cell (p := ⟨b, off + i, none⟩) h1).trans h2⟩
theorem RowAt.nil {α : Type} (enc : α → Value) (ao : Option Addr) (W : World) : RowAt enc [] ao W := fun i r hr => by simp at hr
theorem RowAt.at {α : Type} {enc : α → Value} {l : List α} {ao : Option Addr} {w W : World} (h : RowAt enc l ao w) (hb : Below w.heap.size w W) {j : Nat} (hj : j < l.length) :
    ∃ b off, ao = some ⟨b, off, none⟩ ∧ b < W.heap.size ∧ W.cell? ⟨b, off + j, none⟩ = some (enc l[j]) := h.next hb j l[j] (by simp [hj])
theorem RowAt.cons_none {α : Type} {enc : α → Value} {l : List α} {W : World} (h : RowAt enc l none W) : l = [] := by
  cases l with
  | nil => rfl
  | cons r t => obtain ⟨b, off, h0, _⟩ := h 0 r rfl; cases h0
def encI (x : Int) : Value := .int .i64 x
def encB (x : Bool) : Value := .bool x
/-- A slice of numbers. -/
def SlI (l : List Int) (v : Value) (W : World) : Prop :=
  ∃ ao cap, v = .slice ao l.length cap ∧ RowAt encI l ao W ∧ (ao = none → cap = 0) ∧ l.length ≤ cap ∧ (∀ x ∈ l, i64B x)
theorem SlI.next {l : List Int} {v : Value} {W W' : World} (h : SlI l v W) (hb : Below W.heap.size W W') : SlI l v W' := by
  obtain ⟨ao, cap, h0, h1, h2, h3, h4⟩ := h
  exact ⟨ao, cap, h0, h1.next hb, h2, h3, h4⟩
def SlB (l : List Bool) (v : Value) (W : World) : Prop :=
  ∃ ao cap, v = .slice ao l.length cap ∧ RowAt encB l ao W ∧ (ao = none → cap = 0) ∧ l.length ≤ cap
theorem SlB.next {l : List Bool} {v : Value} {W W' : World} (h : SlB l v W) (hb : Below W.heap.size W W') : SlB l v W' := by
  obtain ⟨ao, cap, h0, h1, h2, h3⟩ := h
  exact ⟨ao, cap, h0, h1.next hb, h2, h3⟩
/-- Rows of numbers: the cells hold slices, and each of these its row. -/
def RowsAt (R : List (List Int)) (ao : Option Addr) (W : World) : Prop :=
  ∀ (i : Nat) (l : List Int), R[i]? = some l → ∃ b off v, ao = some ⟨b, off, none⟩ ∧ b < W.heap.size ∧ W.cell? ⟨b, off + i, none⟩ = some v ∧ SlI l v W
theorem RowsAt.next {R : List (List Int)} {ao : Option Addr} {W W' : World} (h : RowsAt R ao W) (hb : Below W.heap.size W W') : RowsAt R ao W' := fun i r hr => by
  obtain ⟨b, off, v, h0, h1, h2, h3⟩ := h i r hr
  exact ⟨b, off, v, h0, Nat.lt_of_lt_of_le h1 hb.size, (hb.cell (p := ⟨b, off + i, none⟩) h1).trans h2, h3.next hb⟩
theorem RowsAt.at {R : List (List Int)} {ao : Option Addr} {w W : World} (h : RowsAt R ao w) (hb : Below w.heap.size w W) {j : Nat} (hj : j < R.length) :
    ∃ b off v, ao = some ⟨b, off, none⟩ ∧ b < W.heap.size ∧ W.cell? ⟨b, off + j, none⟩ = some v ∧ SlI R[j] v W := h.next hb j R[j] (by simp [hj])
def SlR (R : List (List Int)) (v : Value) (W : World) : Prop :=
  ∃ ao cap, v = .slice ao R.length cap ∧ RowsAt R ao W ∧ (ao = none → cap = 0) ∧ R.length ≤ cap
theorem SlR.next {R : List (List Int)} {v : Value} {W W' : World} (h : SlR R v W) (hb : Below W.heap.size W W') : SlR R v W' := by
  obtain ⟨ao, cap, h0, h1, h2, h3⟩ := h
  exact ⟨ao, cap, h0, h1.next hb, h2, h3⟩
/-- A slice that lies from block B on, if anywhere. -/
def Apart (B : Nat) (v : Value) : Prop := ∀ ad n c, v = .slice (some ad) n c → B ≤ ad.block
theorem Apart.mono {B B' : Nat} {v : Value} (h : Apart B v) (hb : B' ≤ B) : Apart B' v := fun ad n c e => Nat.le_trans hb (h ad n c e)
theorem Apart.none (B n c : Nat) : Apart B (.slice none n c) := fun ad n c e => by cases e

/-! A plain grammar. -/
/-- A world turned in these blocks alone. -/
structure But (D : Nat → Prop) (w w' : World) : Prop where
  os : w'.os = w.os
  tape : w'.tape = w.tape
  output : w'.output = w.output
  size : w.heap.size ≤ w'.heap.size
  block : ∀ k, k < w.heap.size → ¬ D k → w'.heap[k]? = w.heap[k]?
theorem But.refl (D : Nat → Prop) (w : World) : But D w w := ⟨rfl, rfl, rfl, Nat.le_refl _, fun _ _ _ => rfl⟩
theorem But.trans {D : Nat → Prop} {a b c : World} (h : But D a b) (k : But D b c) : But D a c :=
  ⟨k.os.trans h.os, k.tape.trans h.tape, k.output.trans h.output, Nat.le_trans h.size k.size, fun i hi hd => (k.block i (Nat.lt_of_lt_of_le hi h.size) hd).trans (h.block i hi hd)⟩
theorem But.mono {D E : Nat → Prop} {a b : World} (h : But D a b) (hd : ∀ k, k < a.heap.size → D k → E k) : But E a b :=
  ⟨h.os, h.tape, h.output, h.size, fun k hk he => h.block k hk (fun hD => he (hd k hk hD))⟩
theorem But.of_below {n : Nat} {a b : World} (h : Below n a b) : But (fun k => n ≤ k) a b := ⟨h.os, h.tape, h.output, h.size, fun k _ hd => h.block k (by omega)⟩
theorem But.of_next {D : Nat → Prop} {a b : World} (h : Below a.heap.size a b) : But D a b := ⟨h.os, h.tape, h.output, h.size, fun k hk _ => h.block k hk⟩
theorem But.below {n : Nat} {D : Nat → Prop} {a b : World} (h : But D a b) (hn : n ≤ a.heap.size) (hd : ∀ k, D k → n ≤ k) : Below n a b :=
  ⟨h.os, h.tape, h.output, h.size, fun k hk => h.block k (by omega) (fun hD => by have := hd k hD; omega)⟩
theorem But.cell {D : Nat → Prop} {a b : World} (h : But D a b) {p : Addr} (hp : p.block < a.heap.size) (hd : ¬ D p.block) : b.cell? p = a.cell? p := World.cell?_of_block (h.block _ hp hd)
theorem But.frozen {D : Nat → Prop} {a b : World} (h : But D a b) {p : Addr} (hp : p.block < a.heap.size) (hd : ¬ D p.block) : b.frozen? p = a.frozen? p := World.frozen?_of_block (h.block _ hp hd)
theorem But.setCell {D : Nat → Prop} {a b : World} (h : But D a b) (p : Addr) (v : Value) (hp : a.heap.size ≤ p.block ∨ D p.block) : But D a (b.setCell p v) :=
  ⟨h.os, h.tape, h.output, by simpa using h.size, fun k hk hd => (Below.heap_setCell b p v k (fun e => by rcases hp with h1 | h1; omega; exact hd (e ▸ h1))).trans (h.block k hk hd)⟩
theorem But.grown {D : Nat → Prop} {a b c : World} (h : But D a b) {row : Option Nat} (hg : b.grownBy c row) (hr : ∀ r, row = some r → a.heap.size ≤ r) : But D a c :=
  ⟨hg.os.trans h.os, hg.tape.trans h.tape, hg.output.trans h.output, Nat.le_trans h.size hg.size, fun k hk hd => (hg.block k (Nat.lt_of_lt_of_le hk h.size) (fun e => by have := hr k e.symm; omega)).trans (h.block k hk hd)⟩
theorem But.drew {D : Nat → Prop} {a b : World} (h : But D a b) : But D a b.drew := ⟨h.os, h.tape, h.output, h.size, h.block⟩
theorem But.drewN {D : Nat → Prop} {a b : World} (h : But D a b) (n : Nat) : But D a (b.drewN n) := ⟨h.os, h.tape, h.output, h.size, h.block⟩
theorem ownsRow_keep {W W' : World} {B n k : Nat} {e : TypeId} {v : Value} {xs : List Value} {D : Nat → Prop} (h : W.ownsRow B e k v n xs) (hb : But D W W') (hd : ∀ j, v.ownBlock = some j → ¬ D j) : W'.ownsRow B e k v n xs := by
  obtain ⟨h1, h2⟩ := h
  refine ⟨h1, ?_⟩
  rcases h2 with ⟨rfl, hn⟩ | ⟨g, cap, cur, rfl, hB, hg, h3⟩
  · exact .inl ⟨rfl, hn⟩
  · exact .inr ⟨g, cap, cur, rfl, hB, (hb.block g (Array.getElem?_eq_some_iff.1 hg).1 (hd g rfl)).trans hg, h3⟩
theorem cell_set_ne (W : World) (g o o' : Nat) (v : Value) (h : o ≠ o') : (W.setCell ⟨g, o, none⟩ v).cell? ⟨g, o', none⟩ = W.cell? ⟨g, o', none⟩ := by
  simp only [World.cell?, World.setCell, Array.getElem?_modify, if_true]
  cases W.heap[g]? with
  | none => rfl
  | some ob => cases ob <;> simp [h]
theorem blk_set {W : World} {g o : Nat} {cs : Array Value} {T : TypeId} (h : W.heap[g]? = some (.cells cs T (0, 0))) (v : Value) : (W.setCell ⟨g, o, none⟩ v).heap[g]? = some (.cells (cs.setIfInBounds o v) T (0, 0)) := by
  simp [World.setCell, Array.getElem?_modify, h]
theorem cell_set_eq {W : World} {g o : Nat} {cs : Array Value} {T : TypeId} (h : W.heap[g]? = some (.cells cs T (0, 0))) (ho : o < cs.size) (v : Value) : (W.setCell ⟨g, o, none⟩ v).cell? ⟨g, o, none⟩ = some v := by
  rw [Lib.cell_of_heap (blk_set h v)]
  simp [ho]
theorem set_block (W : World) (g o k : Nat) (v : Value) (h : k ≠ g) : (W.setCell ⟨g, o, none⟩ v).heap[k]? = W.heap[k]? := by
  simp [World.setCell, Array.getElem?_modify, Ne.symm h]
theorem but_blk {D : Nat → Prop} {a b : World} {k : Nat} {o : Obj} (h : But D a b) (hk : a.heap[k]? = some o) (hd : ¬ D k) : b.heap[k]? = some o := (h.block k (Array.getElem?_eq_some_iff.1 hk).1 hd).trans hk
theorem blk_lt {W : World} {k : Nat} {o : Obj} (h : W.heap[k]? = some o) : k < W.heap.size := (Array.getElem?_eq_some_iff.1 h).1
theorem set_blk {W : World} {g j o : Nat} {ob : Obj} {v : Value} (h : W.heap[g]? = some ob) (hn : g ≠ j) : (W.setCell ⟨j, o, none⟩ v).heap[g]? = some ob := (set_block W j o g v hn).trans h
/-- A row of one-cell values that lies whole in a block of its own. -/
def Own1 {α : Type} (e : TypeId) (enc : α → Value) (B : Nat) (l : List α) (v : Value) (W : World) : Prop := W.ownsRow B e 1 v l.length (l.map enc)
theorem Own1.nil {α : Type} (e : TypeId) (enc : α → Value) (B : Nat) (W : World) : Own1 e enc B [] (.slice none 0 0) W := World.ownsRow_nil W B e 1
theorem Own1.at_ {α : Type} {e : TypeId} {enc : α → Value} {B : Nat} {l : List α} {v : Value} {W : World} (h : Own1 e enc B l v W) :
    ∃ ao cap, v = .slice ao l.length cap ∧ RowAt enc l ao W ∧ (ao = none → cap = 0) ∧ l.length ≤ cap ∧ (ao = none ∨ ∃ g, ao = some ⟨g, 0, none⟩ ∧ B ≤ g ∧ g < W.heap.size) := by
  have h0 := h
  obtain ⟨h1, h2⟩ := h
  rcases h2 with ⟨rfl, hn⟩ | ⟨g, cap, cur, rfl, hB, hg, hcap, hm, hsz, hx⟩
  · obtain rfl : l = [] := List.eq_nil_of_length_eq_zero hn
    exact ⟨none, 0, by simp, RowAt.nil _ _ _, fun _ => rfl, by simp, .inl rfl⟩
  · have hgl : g < W.heap.size := by
      rcases Nat.lt_or_ge g W.heap.size with h | h
      · exact h
      · rw [Array.getElem?_eq_none h] at hg; cases hg
    refine ⟨some ⟨g, 0, none⟩, cap, rfl, fun i x hi => ⟨g, 0, rfl, hgl, ?_⟩, (fun h => by cases h), hcap, .inr ⟨g, rfl, hB, hgl⟩⟩
    have := World.ownsRow.cells h0 (g := g) rfl i (enc x) (by simp [hi])
    rw [add_plain] at this
    exact this
theorem info3 : (Try.prog.info? 3).map (fun i => (i.zero, i.size, i.bytes)) = some (some (.int .i64 0), 1, 8) := by kernel_rfl
theorem info_parts {P : Program} {t : TypeId} {z : Option Value} {s b : Nat} (h : (P.info? t).map (fun i => (i.zero, i.size, i.bytes)) = some (z, s, b)) : ∃ i, P.info? t = some i ∧ i.zero = z ∧ i.size = s ∧ i.bytes = b := by
  cases hi : P.info? t with
  | none => rw [hi] at h; cases h
  | some i => rw [hi] at h; simp at h; exact ⟨i, rfl, h.1, h.2.1, h.2.2⟩
theorem news_row {l : List Int} {b off : Nat} {W : World} (h : RowAt encI l (some ⟨b, off, none⟩) W) (i n : Nat) : ∀ (j : Nat) (u : Value), (((l.drop i).take n).map encI)[j]? = some u → W.cell? ((⟨b, off + i, none⟩ : Addr).add j) = some u := by
  intro j u hj
  rw [List.getElem?_map] at hj
  obtain ⟨x, hx, rfl⟩ := Option.map_eq_some_iff.1 hj
  have hx2 : l[i + j]? = some x := by
    rw [List.getElem?_take] at hx
    split at hx
    · rw [List.getElem?_drop] at hx; exact hx
    · cases hx
  obtain ⟨b', o', e, _, h2⟩ := h (i + j) x hx2
  cases e
  rw [add_plain, Nat.add_assoc]
  exact h2
theorem one_row (l : List Int) : ∀ u ∈ l.map encI, u.oneCell' = true := by
  intro u hu
  obtain ⟨x, _, rfl⟩ := List.mem_map.1 hu
  rfl
theorem slice_of_own {W : World} {B n : Nat} {e : TypeId} {v : Value} {xs : List Value} (h : W.ownsRow B e 1 v n xs) : ∃ a c, v = .slice a n c := by
  rcases h.2 with ⟨rfl, h'⟩ | ⟨g, c, cur, rfl, _⟩
  · exact ⟨none, 0, by rw [h']⟩
  · exact ⟨_, _, rfl⟩
theorem apart_own {W : World} {B n : Nat} {e : TypeId} {v : Value} {xs : List Value} (h : W.ownsRow B e 1 v n xs) : Apart B v := by
  intro ad k c hv
  rcases h.2 with ⟨rfl, _⟩ | ⟨g, c, cur, rfl, hb, _⟩
  · cases hv
  · cases hv; exact hb
theorem new_cell (W : World) (x : Value) (t : TypeId) : ∀ (k : Nat) (u : Value), [x][k]? = some u → (W.alloc (Obj.cells #[x] t)).cell? ((⟨W.heap.size, 0, none⟩ : Addr).add k) = some u := by
  intro k u hk
  cases k with
  | zero => simp at hk; subst hk; rw [add_plain]; simp
  | succ k => simp at hk
theorem own1_news {W W' : World} {l : List Value} {b off : Nat} (h : ∀ (j : Nat) (u : Value), l[j]? = some u → W.cell? ((⟨b, off, none⟩ : Addr).add j) = some u) (hb : b < W.heap.size) (B : Below W.heap.size W W') : ∀ (j : Nat) (u : Value), l[j]? = some u → W'.cell? ((⟨b, off, none⟩ : Addr).add j) = some u := by
  intro j u hj
  have := h j u hj
  rw [add_plain] at this ⊢
  exact (B.cell (p := ⟨b, off + j, none⟩) hb).trans this
theorem sli_own {l : List Int} {B : Nat} {v : Value} {W : World} (h : Own1 3 encI B l v W) (hi : ∀ y ∈ l, i64B y) : SlI l v W := by
  obtain ⟨ao, cap, h0, h1, h2, h3, _⟩ := h.at_
  exact ⟨ao, cap, h0, h1, h2, h3, hi⟩
theorem slice_of_ownK {W : World} {B n k : Nat} {e : TypeId} {v : Value} {xs : List Value} (h : W.ownsRow B e k v n xs) : ∃ a c, v = .slice a n c := by
  rcases h.2 with ⟨rfl, h'⟩ | ⟨g, c, cur, rfl, _⟩
  · exact ⟨none, 0, by rw [h']⟩
  · exact ⟨_, _, rfl⟩
theorem apart_ownK {W : World} {B n k : Nat} {e : TypeId} {v : Value} {xs : List Value} (h : W.ownsRow B e k v n xs) : Apart B v := by
  intro ad m c hv
  rcases h.2 with ⟨rfl, _⟩ | ⟨g, c, cur, rfl, hb, _⟩
  · cases hv
  · cases hv; exact hb
theorem ownsRow_below4 {W W' : World} {B n k : Nat} {e : TypeId} {v : Value} {xs : List Value} (h : W.ownsRow B e k v n xs) (hb : Below W.heap.size W W') : W'.ownsRow B e k v n xs := by
  obtain ⟨h1, h2⟩ := h
  refine ⟨h1, ?_⟩
  rcases h2 with h2 | ⟨g, cap, cur, rfl, hB, hg, rest⟩
  · exact .inl h2
  · exact .inr ⟨g, cap, cur, rfl, hB, (hb.block g (Array.getElem?_eq_some_iff.1 hg).1).trans hg, rest⟩
def OwnI (B : Nat) (l : List Int) (v : Value) (W : World) : Prop := W.ownsRow B 3 1 v l.length (l.map encI)
theorem flatK_get {α : Type} {enc : α → List Value} {c : Nat} (hc : ∀ x, (enc x).length = c) : ∀ {l : List α} {i j : Nat} {x : α}, l[i]? = some x → j < c → (l.flatMap enc)[i * c + j]? = (enc x)[j]?
  | [], i, j, x, h, _ => by simp at h
  | y :: l, 0, j, x, h, hj => by
    simp at h; subst h
    rw [List.flatMap_cons, Nat.zero_mul, Nat.zero_add, List.getElem?_append_left (by rw [hc]; exact hj)]
  | y :: l, i + 1, j, x, h, hj => by
    rw [List.flatMap_cons, List.getElem?_append_right (by rw [hc, Nat.succ_mul]; omega), hc, show (i + 1) * c + j - c = i * c + j by rw [Nat.succ_mul]; omega]
    exact flatK_get hc (by simpa using h) hj
/-- A row of one's own of k cells an element, as cells. -/
theorem own_cells {α : Type} {enc : α → List Value} {c : Nat} (hc : ∀ x, (enc x).length = c) {B : Nat} {e : TypeId} {l : List α} {v : Value} {W : World} (h : W.ownsRow B e c v l.length (l.flatMap enc)) (hl : 0 < l.length) :
    ∃ g cap, v = .slice (some ⟨g, 0, none⟩) l.length cap ∧ g < W.heap.size ∧ l.length ≤ cap ∧ ∀ (i j : Nat) (x : α) (u : Value), l[i]? = some x → j < c → (enc x)[j]? = some u → W.cell? ⟨g, i * c + j, none⟩ = some u := by
  rcases h.2 with ⟨_, h0⟩ | ⟨g, cap, cur, hv, hB, hg, hle, hmx, hcs, htk⟩
  · omega
  refine ⟨g, cap, hv, (Array.getElem?_eq_some_iff.1 hg).1, hle, fun i j x u hx hj hu => ?_⟩
  rw [Lib.cell_of_heap hg]
  have hi : i < l.length := (List.getElem?_eq_some_iff.1 hx).1
  have h1 : (l.flatMap enc)[i * c + j]? = some u := (flatK_get hc hx hj).trans hu
  rw [← htk, List.getElem?_take, if_pos (by
    have : (i + 1) * c ≤ l.length * c := Nat.mul_le_mul_right _ hi
    rw [Nat.succ_mul] at this; omega)] at h1
  rw [← Array.getElem?_toList]; exact h1
theorem results_cell1 {fn : Func} {p : Tmp} {t : TypeId} (h : fn.results = #[.cell p t]) (tmps : Array Value) (P : Program) (w : World) {a : Addr} {x : Value} (ha : tmps.getD p undef = .pointer (some a)) (hx : (loadVar t a).run P w = .ok x w) :
    (results fn tmps).run P w = .ok x w := by
  have ha' : tmps[p]?.getD undef = .pointer (some a) := by simpa using ha
  simp [results, h, ha', asAddr, hx]
theorem results_cell_tmp {fn : Func} {p q : Tmp} {t : TypeId} (h : fn.results = #[.cell p t, .tmp q]) (tmps : Array Value) (P : Program) (w : World) {a : Addr} {x y : Value} (ha : tmps[p]?.getD undef = .pointer (some a)) (hb : tmps[q]?.getD undef = y) (hx : (loadVar t a).run P w = .ok x w) :
    (results fn tmps).run P w = .ok (.tuple #[x, y]) w := by
  simp only [results, h]
  simp [Result.andThen, ha, hb, hx, asAddr]
theorem results_cell2 {fn : Func} {p q : Tmp} {t u : TypeId} (h : fn.results = #[.cell p t, .cell q u]) (tmps : Array Value) (P : Program) (w : World) {a b : Addr} {x y : Value} (ha : tmps[p]?.getD undef = .pointer (some a)) (hb : tmps[q]?.getD undef = .pointer (some b)) (hx : (loadVar t a).run P w = .ok x w) (hy : (loadVar u b).run P w = .ok y w) :
    (results fn tmps).run P w = .ok (.tuple #[x, y]) w := by
  simp only [results, h]
  simp [Result.andThen, ha, hb, hx, hy, asAddr]
theorem SlI.lt {l : List Int} {ad : Addr} {n c : Nat} {W : World} (h : SlI l (.slice (some ad) n c) W) (hl : l ≠ []) : ad.block < W.heap.size := by
  obtain ⟨ao, cap, h0, h1, _⟩ := h
  cases h0
  obtain ⟨x, l', rfl⟩ := List.exists_cons_of_ne_nil hl
  obtain ⟨b, off, e, hb, _⟩ := h1 0 x rfl
  cases e; exact hb
theorem below_box (w : World) (v : Value) (t : TypeId) : Below w.heap.size w (w.alloc (Obj.cells #[v] t)) := (Below.refl _ _).alloc (Nat.le_refl _) _
end Go.Proofs.Ytoocafcagelbgaa
