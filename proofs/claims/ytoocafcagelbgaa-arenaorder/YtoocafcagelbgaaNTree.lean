/- Trees, and as they lie in a world (over Mine). -/
import Derived.Test.YtoocafcagelbgaaMine
import Derived.Deep.RegionWith
namespace Go.Proofs.Ytoocafcagelbgaa
open Go.RowKit

theorem below_next {w W W' : World} (h : Below w.heap.size w W) (hb : Below W.heap.size W W') : Below w.heap.size w W' := h.trans (hb.mono h.size)
theorem But.below5 {n : Nat} {D : Nat → Prop} {a b : World} (h : But D a b) (hn : n ≤ a.heap.size) (hd : ∀ k, k < a.heap.size → D k → n ≤ k) : Below n a b :=
  ⟨h.os, h.tape, h.output, h.size, fun k hk => h.block k (by omega) (fun hD => by have := hd k (by omega) hD; omega)⟩
/-- A node without its kids. -/
structure Hd where
  kind : ByteArray
  named : Bool
  field : ByteArray
  frm : Int
  til : Int
  bad : Int
inductive Nd where
  | mk (h : Hd) (kids : List Nd)
def Nd.h : Nd → Hd
  | .mk h _ => h
def Nd.kids : Nd → List Nd
  | .mk _ l => l
theorem Nd.eta (t : Nd) : Nd.mk t.h t.kids = t := by cases t; rfl
structure HdOk (h : Hd) : Prop where
  frm : i64B h.frm
  til : i64B h.til
  bad : i64B h.bad
  kind : h.kind.size ≤ 140737488351232
  field : h.field.size ≤ 140737488351232
def ndV (h : Hd) (kv : Value) : Value := .agg #[.string h.kind, .bool h.named, .string h.field, .int .i64 h.frm, .int .i64 h.til, .int .i64 h.bad, kv]
/-- The seven cells of a node. -/
def Row7 (b o : Nat) (h : Hd) (kv : Value) (W : World) : Prop :=
  W.cell? ⟨b, o, none⟩ = some (.string h.kind) ∧ W.cell? ⟨b, o + 1, none⟩ = some (.bool h.named) ∧ W.cell? ⟨b, o + 2, none⟩ = some (.string h.field) ∧ W.cell? ⟨b, o + 3, none⟩ = some (.int .i64 h.frm) ∧ W.cell? ⟨b, o + 4, none⟩ = some (.int .i64 h.til) ∧ W.cell? ⟨b, o + 5, none⟩ = some (.int .i64 h.bad) ∧ W.cell? ⟨b, o + 6, none⟩ = some kv
theorem Row7.but {b o : Nat} {h : Hd} {kv : Value} {W W' : World} {D : Nat → Prop} (k : Row7 b o h kv W) (hb : But D W W') (hl : b < W.heap.size) (hd : ¬ D b) : Row7 b o h kv W' := by
  obtain ⟨e0, e1, e2, e3, e4, e5, e6⟩ := k
  have c : ∀ x, W'.cell? ⟨b, x, none⟩ = W.cell? ⟨b, x, none⟩ := fun x => hb.cell (p := ⟨b, x, none⟩) hl hd
  exact ⟨(c _).trans e0, (c _).trans e1, (c _).trans e2, (c _).trans e3, (c _).trans e4, (c _).trans e5, (c _).trans e6⟩
/-- Kids as they lie behind an address, in blocks of A. -/
def KidsOf (A : Nat → Prop) (P : Nd → Value → World → Prop) (l : List Nd) (ba : Option Addr) (W : World) : Prop :=
  ∀ (i : Nat) (t : Nd), l[i]? = some t → ∃ b off ka kc, ba = some ⟨b, off, none⟩ ∧ A b ∧ b < W.heap.size ∧ Row7 b (off + i * 7) t.h (.slice ka t.kids.length kc) W ∧ P t (ndV t.h (.slice ka t.kids.length kc)) W
/-- A tree of at most so many levels as it lies, in blocks of A. -/
def TAt (A : Nat → Prop) : Nat → Nd → Value → World → Prop
  | 0, _, _, _ => False
  | n + 1, t, v, W => ∃ ba bc, v = ndV t.h (.slice ba t.kids.length bc) ∧ HdOk t.h ∧ (ba = none → bc = 0) ∧ t.kids.length ≤ bc ∧ t.kids.length ≤ 140737488351232 ∧ KidsOf A (TAt A n) t.kids ba W
abbrev KidsAt (A : Nat → Prop) (n : Nat) (l : List Nd) (ba : Option Addr) (W : World) : Prop := KidsOf A (TAt A n) l ba W
theorem TAt.but {A D : Nat → Prop} (hd : ∀ k, A k → ¬ D k) : ∀ {n : Nat} {t : Nd} {v : Value} {W W' : World}, TAt A n t v W → But D W W' → TAt A n t v W'
  | 0, _, _, _, _, h, _ => h.elim
  | n + 1, t, v, W, W', h, hb => by
    obtain ⟨ba, bc, h0, h1, h2, h3, h4, h5⟩ := h
    refine ⟨ba, bc, h0, h1, h2, h3, h4, fun i t' ht => ?_⟩
    obtain ⟨b, off, ka, kc, e0, e1, e2, e3, e4⟩ := h5 i t' ht
    exact ⟨b, off, ka, kc, e0, e1, Nat.lt_of_lt_of_le e2 hb.size, e3.but hb e2 (hd _ e1), e4.but hd hb⟩
theorem TAt.next {A : Nat → Prop} {n : Nat} {t : Nd} {v : Value} {W W' : World} (h : TAt A n t v W) (hb : Below W.heap.size W W') : TAt A n t v W' := h.but (D := fun _ => False) (fun _ _ h => h) (But.of_next hb)
theorem TAt.imp {A B : Nat → Prop} : ∀ {n : Nat} {t : Nd} {v : Value} {W : World}, TAt A n t v W → (∀ k, k < W.heap.size → A k → B k) → TAt B n t v W
  | 0, _, _, _, h, _ => h.elim
  | n + 1, t, v, W, h, hb => by
    obtain ⟨ba, bc, h0, h1, h2, h3, h4, h5⟩ := h
    refine ⟨ba, bc, h0, h1, h2, h3, h4, fun i t' ht => ?_⟩
    obtain ⟨b, off, ka, kc, e0, e1, e2, e3, e4⟩ := h5 i t' ht
    exact ⟨b, off, ka, kc, e0, hb _ e2 e1, e2, e3, e4.imp hb⟩
theorem TAt.more {A : Nat → Prop} : ∀ {n m : Nat} {t : Nd} {v : Value} {W : World}, TAt A n t v W → n ≤ m → TAt A m t v W
  | 0, _, _, _, _, h, _ => h.elim
  | n + 1, 0, _, _, _, _, hm => by omega
  | n + 1, m + 1, t, v, W, h, hm => by
    obtain ⟨ba, bc, h0, h1, h2, h3, h4, h5⟩ := h
    refine ⟨ba, bc, h0, h1, h2, h3, h4, fun i t' ht => ?_⟩
    obtain ⟨b, off, ka, kc, e0, e1, e2, e3, e4⟩ := h5 i t' ht
    exact ⟨b, off, ka, kc, e0, e1, e2, e3, e4.more (by omega)⟩
theorem KidsAt.but {A D : Nat → Prop} {n : Nat} {l : List Nd} {ba : Option Addr} {W W' : World} (h : KidsAt A n l ba W) (hd : ∀ k, A k → ¬ D k) (hb : But D W W') : KidsAt A n l ba W' := fun i t' ht => by
  obtain ⟨b, off, ka, kc, e0, e1, e2, e3, e4⟩ := h i t' ht
  exact ⟨b, off, ka, kc, e0, e1, Nat.lt_of_lt_of_le e2 hb.size, e3.but hb e2 (hd _ e1), e4.but hd hb⟩
theorem KidsAt.next {A : Nat → Prop} {n : Nat} {l : List Nd} {ba : Option Addr} {W W' : World} (h : KidsAt A n l ba W) (hb : Below W.heap.size W W') : KidsAt A n l ba W' := h.but (D := fun _ => False) (fun _ _ h => h) (But.of_next hb)
theorem KidsAt.at {A : Nat → Prop} {n : Nat} {l : List Nd} {ba : Option Addr} {w W : World} (h : KidsAt A n l ba w) (hb : Below w.heap.size w W) {j : Nat} (hj : j < l.length) :
    ∃ b off ka kc, ba = some ⟨b, off, none⟩ ∧ A b ∧ b < W.heap.size ∧ Row7 b (off + j * 7) l[j].h (.slice ka l[j].kids.length kc) W ∧ TAt A n l[j] (ndV l[j].h (.slice ka l[j].kids.length kc)) W := h.next hb j l[j] (by simp [hj])
theorem TAt.ok {A : Nat → Prop} {n : Nat} {t : Nd} {v : Value} {W : World} (h : TAt A n t v W) : HdOk t.h := by
  cases n with
  | zero => exact h.elim
  | succ n => obtain ⟨_, _, _, h1, _⟩ := h; exact h1
theorem TAt.val {A : Nat → Prop} {n : Nat} {t : Nd} {v : Value} {W : World} (h : TAt A n t v W) : ∃ ba bc, v = ndV t.h (.slice ba t.kids.length bc) ∧ t.kids.length ≤ 140737488351232 := by
  cases n with
  | zero => exact h.elim
  | succ n => obtain ⟨ba, bc, h0, _, _, _, h4, _⟩ := h; exact ⟨ba, bc, h0, h4⟩

/- How many nodes; how many within one another. -/
mutual
def cntN : Nd → Nat
  | .mk _ l => cntL l + 1
def cntL : List Nd → Nat
  | [] => 0
  | t :: l => cntN t + cntL l
 end
theorem cntN_mk (t : Nd) : cntN t = cntL t.kids + 1 := by cases t; simp [cntN, Nd.kids]
theorem cntL_app (a b : List Nd) : cntL (a ++ b) = cntL a + cntL b := by
  induction a with
  | nil => simp [cntL]
  | cons t l ih => simp only [List.cons_append, cntL, ih]; omega
theorem cntL_take {l : List Nd} {j : Nat} (h : j < l.length) : cntL (l.take (j + 1)) = cntL (l.take j) + cntN l[j] := by
  rw [List.take_succ_eq_append_getElem h, cntL_app]; simp [cntL]
theorem cntL_split (l : List Nd) (j : Nat) : cntL (l.take j) + cntL (l.drop j) = cntL l := by rw [← cntL_app, List.take_append_drop]
theorem cntL_le (l : List Nd) (j : Nat) : cntL (l.take j) ≤ cntL l := by have := cntL_split l j; omega
theorem cntL_at {l : List Nd} {j : Nat} (h : j < l.length) : cntN l[j] ≤ cntL l := by
  have := cntL_take h
  have := cntL_le l (j + 1)
  omega
theorem cntN_pos (t : Nd) : 1 ≤ cntN t := by rw [cntN_mk]; omega
theorem cntL_len (l : List Nd) : l.length ≤ cntL l := by
  induction l with
  | nil => simp
  | cons t l ih => simp only [List.length_cons, cntL]; have := cntN_pos t; omega
theorem cntN_kid {t : Nd} {j : Nat} (h : j < t.kids.length) : cntN t.kids[j] < cntN t := by have := cntL_at h; rw [cntN_mk t]; omega
/-- Induction on trees: by the number of nodes. -/
theorem nd_ind {P : Nd → Prop} (h : ∀ t, (∀ k ∈ t.kids, P k) → P t) (t : Nd) : P t := by
  suffices H : ∀ n t, cntN t ≤ n → P t from H _ t (Nat.le_refl _)
  intro n
  induction n with
  | zero => intro t ht; have := cntN_pos t; omega
  | succ n ih =>
    intro t ht
    refine h t fun k hk => ih k ?_
    obtain ⟨j, hj, rfl⟩ := List.getElem_of_mem hk
    have := cntN_kid hj
    omega
end Go.Proofs.Ytoocafcagelbgaa
