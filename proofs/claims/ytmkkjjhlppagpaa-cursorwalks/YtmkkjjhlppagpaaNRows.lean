/- Rows of nodes of one's own. -/
import Derived.Test.YtmkkjjhlppagpaaNQueue
namespace Go.Proofs.Ytmkkjjhlppagpaa
open Go.RowKit

def cells7 (h : Hd) (kv : Value) : List Value := [.string h.kind, .bool h.named, .string h.field, .int .i64 h.frm, .int .i64 h.to, .int .i64 h.bad, kv]
def rowC (l : List (Nd × Value)) : List Value := l.flatMap fun x => cells7 x.1.h x.2
theorem rowC_app (a b : List (Nd × Value)) : rowC (a ++ b) = rowC a ++ rowC b := by unfold rowC; simp
theorem rowC_one (x : Nd × Value) : rowC [x] = cells7 x.1.h x.2 := by unfold rowC; simp
theorem rowC_len (l : List (Nd × Value)) : (rowC l).length = l.length * 7 := by
  induction l with
  | nil => rfl
  | cons a l ih => rw [show a :: l = [a] ++ l from rfl, rowC_app, rowC_one, List.length_append, ih]; simp [cells7]; omega
theorem rowC_at {l : List (Nd × Value)} {i : Nat} {x : Nd × Value} (h : l[i]? = some x) {j : Nat} (hj : j < 7) : (rowC l)[i * 7 + j]? = (cells7 x.1.h x.2)[j]? := by
  induction l generalizing i with
  | nil => simp at h
  | cons a l ih =>
    rw [show a :: l = [a] ++ l from rfl, rowC_app, rowC_one]
    cases i with
    | zero =>
      simp at h
      subst h
      rw [List.getElem?_append_left (by simp [cells7]; omega)]
      simp
    | succ i =>
      simp at h
      rw [List.getElem?_append_right (by simp [cells7]; omega)]
      have := ih h
      rw [← this]
      congr 1
      simp [cells7]; omega
/-- A row of nodes of one's own: from block B on; the trees below lie beside it. -/
structure OwnN (B : Nat) (l : List (Nd × Value)) (v : Value) (W : World) : Prop where
  own : W.ownsRow B 24 7 v l.length (rowC l)
  kid : ∀ x ∈ l, ∃ n, TAt (fun k => B ≤ k ∧ v.ownBlock ≠ some k) n x.1 (ndV x.1.h x.2) W
theorem OwnN.nil (B : Nat) (W : World) : OwnN B [] (.slice none 0 0) W := ⟨World.ownsRow_nil _ _ _ _, by simp⟩
theorem ownsRow_next {W W' : World} {B n k : Nat} {e : TypeId} {v : Value} {xs : List Value} (h : W.ownsRow B e k v n xs) (hb : Below W.heap.size W W') : W'.ownsRow B e k v n xs := by
  obtain ⟨h1, h2⟩ := h
  refine ⟨h1, ?_⟩
  rcases h2 with ⟨rfl, hn⟩ | ⟨g, cap, cur, rfl, hB, hg, h3⟩
  · exact .inl ⟨rfl, hn⟩
  · exact .inr ⟨g, cap, cur, rfl, hB, (hb.block g (Array.getElem?_eq_some_iff.1 hg).1).trans hg, h3⟩
theorem ownsRow_but {W W' : World} {B n k : Nat} {e : TypeId} {v : Value} {xs : List Value} {D : Nat → Prop} (h : W.ownsRow B e k v n xs) (hb : But D W W') (hd : ∀ j, v.ownBlock = some j → ¬ D j) : W'.ownsRow B e k v n xs := by
  obtain ⟨h1, h2⟩ := h
  refine ⟨h1, ?_⟩
  rcases h2 with ⟨rfl, hn⟩ | ⟨g, cap, cur, rfl, hB, hg, h3⟩
  · exact .inl ⟨rfl, hn⟩
  · exact .inr ⟨g, cap, cur, rfl, hB, (hb.block g (Array.getElem?_eq_some_iff.1 hg).1 (hd g rfl)).trans hg, h3⟩
theorem OwnN.next {B : Nat} {l : List (Nd × Value)} {v : Value} {W W' : World} (h : OwnN B l v W) (hb : Below W.heap.size W W') : OwnN B l v W' :=
  ⟨ownsRow_next h.own hb, fun x hx => by obtain ⟨n, hn⟩ := h.kid x hx; exact ⟨n, hn.next hb⟩⟩
theorem OwnN.but {B : Nat} {l : List (Nd × Value)} {v : Value} {W W' : World} {D : Nat → Prop} (h : OwnN B l v W) (hb : But D W W') (hd : ∀ k, D k → k < B) : OwnN B l v W' :=
  ⟨ownsRow_but h.own hb (fun j hj hD => by have := (World.ownsRow.lt h.own j hj).1; have := hd j hD; omega), fun x hx => by obtain ⟨n, hn⟩ := h.kid x hx; exact ⟨n, hn.but (fun k hk hD => by have := hd k hD; omega) hb⟩⟩
theorem OwnN.shape {B : Nat} {l : List (Nd × Value)} {v : Value} {W : World} (h : OwnN B l v W) : ∃ ao cap, v = .slice ao l.length cap ∧ (ao = none → cap = 0) ∧ l.length ≤ cap := by
  rcases h.own.2 with ⟨rfl, hn⟩ | ⟨g, cap, cur, rfl, hB, hg, hle, _⟩
  · exact ⟨none, 0, by rw [hn], fun _ => rfl, by omega⟩
  · exact ⟨_, _, rfl, (fun h => by cases h), hle⟩
theorem bound_all {α : Type} {P : Nat → α → Prop} (hm : ∀ n m x, P n x → n ≤ m → P m x) (l : List α) (h : ∀ x ∈ l, ∃ n, P n x) : ∃ N, ∀ x ∈ l, P N x := by
  induction l with
  | nil => exact ⟨0, by simp⟩
  | cons a l ih =>
    obtain ⟨N, hN⟩ := ih (fun x hx => h x (by simp [hx]))
    obtain ⟨n, hn⟩ := h a (by simp)
    refine ⟨max N n, fun x hx => ?_⟩
    rcases List.mem_cons.1 hx with rfl | hx
    · exact hm _ _ _ hn (by omega)
    · exact hm _ _ _ (hN x hx) (by omega)
/-- As kids. -/
theorem OwnN.kids {B : Nat} {l : List (Nd × Value)} {v : Value} {W : World} (h : OwnN B l v W) : ∃ ba cap N, v = .slice ba l.length cap ∧ (ba = none → cap = 0) ∧ l.length ≤ cap ∧ KidsAt (fun k => B ≤ k) N (l.map (·.1)) ba W := by
  obtain ⟨N, hN⟩ := bound_all (P := fun n (x : Nd × Value) => TAt (fun k => B ≤ k ∧ v.ownBlock ≠ some k) n x.1 (ndV x.1.h x.2) W) (fun n m x hx hm => hx.more hm) l h.kid
  rcases h.own.2 with ⟨rfl, hn⟩ | ⟨g, cap, cur, rfl, hB, hg, hle, hmx, hcs, htk⟩
  · have : l = [] := List.eq_nil_of_length_eq_zero hn
    subst this
    exact ⟨none, 0, 0, rfl, fun _ => rfl, Nat.le_refl _, fun i t ht => by simp at ht⟩
  · refine ⟨some ⟨g, 0, none⟩, cap, N, rfl, (fun h => by cases h), hle, fun i t ht => ?_⟩
    obtain ⟨x, hx, rfl⟩ : ∃ x, l[i]? = some x ∧ x.1 = t := by
      rw [List.getElem?_map] at ht
      cases hq : l[i]? with
      | none => rw [hq] at ht; cases ht
      | some x => rw [hq] at ht; exact ⟨x, rfl, by simpa using ht⟩
    have hT := hN x (List.mem_of_getElem? hx)
    obtain ⟨ka, kc, hv, _⟩ := hT.val
    have hxe : x.2 = .slice ka x.1.kids.length kc := by
      unfold ndV at hv
      injection hv with hv
      have := congrArg (fun a : Array Value => a[6]?) hv
      simpa using this
    have hi : i < l.length := (List.getElem?_eq_some_iff.1 hx).1
    have cell : ∀ j, j < 7 → W.cell? ⟨g, 0 + i * 7 + j, none⟩ = (cells7 x.1.h x.2)[j]? := fun j hj => by
      have e1 := rowC_at hx hj
      rw [← htk, List.getElem?_take, if_pos (by omega)] at e1
      rw [Nat.zero_add, ← e1]
      simp [World.cell?, hg]
    refine ⟨g, 0, ka, kc, rfl, hB, (Array.getElem?_eq_some_iff.1 hg).1, ?_, ?_⟩
    · rw [← hxe]
      exact ⟨by simpa [cells7] using cell 0 (by omega), by simpa [cells7] using cell 1 (by omega), by simpa [cells7] using cell 2 (by omega), by simpa [cells7] using cell 3 (by omega), by simpa [cells7] using cell 4 (by omega), by simpa [cells7] using cell 5 (by omega), by simpa [cells7] using cell 6 (by omega)⟩
    · rw [← hxe]
      exact hT.imp (fun k _ hk => hk.1)
theorem wpList_append_ownq {P : Program} {w : World} {ops : Array Oper} {rest : List Oper} {o : Oper} {a : Act} {Q : Exit → Act → World → Prop} (hgd : o.guard = none) (s x : Operand) (t : TypeId)
    (ho : o.op = .call { callee := .builtin .append, args := #[s, x], argTypes := #[t, t] })
    (base : Nat) (e : TypeId) (i : TypeInfo) (z : Value) (size bytes : Nat) (ht : P.underlying t = some (.slice e)) (hi : P.info? e = some i) (hz : i.zero = some z)
    (hsize : i.size = size) (hby : i.bytes = bytes) (hzs : z.cells.size = size) (hsz : 0 < size)
    (v : Value) (n : Nat) (xs : List Value) (hs : a.eval s = v) (hown : w.ownsRow base e size v n xs)
    (ad : Addr) (c : Nat) (news : List Value) (hx : a.eval x = .slice (some ad) 1 c) (hl : news.length = size) (hnews : ∀ j u, news[j]? = some u → w.cell? (ad.add j) = some u) (h1 : ∀ u ∈ news, u.oneCell' = true)
    (h63 : n + 1 ≤ maxLen) (hbytes : (n + 1) * bytes ≤ 140737488355328) (hbase : base ≤ w.heap.size)
    (h : ∀ v' w', w'.ownsRow base e size v' (n + 1) (xs ++ news) → w.grownBy w' v.ownBlock → (∀ k, v'.ownBlock = some k → v.ownBlock = some k ∨ w.heap.size ≤ k) → wpList P ops Q rest (a.put o.dst v') w') : wpList P ops Q (o :: rest) a w :=
  wpList_plain hgd fun _ hK => wp_append_ownq s x t ho base e i z size bytes ht hi hz hsize hby hzs hsz v n xs hs hown ad c news hx hl hnews h1 h63 hbytes hbase fun v' w' h2 h3 h4 => hK _ _ (h v' w' h2 h3 h4)
theorem infoNd : (Try.prog.info? 24).map (fun i => (i.zero, i.size, i.bytes)) = some (some (.agg #[.string ⟨#[]⟩, .bool false, .string ⟨#[]⟩, .int .i64 0, .int .i64 0, .int .i64 0, .slice none 0 0]), 7, 88) := by kernel_rfl
theorem info_parts {P : Program} {e : TypeId} {z : Value} {s b : Nat} (h : (P.info? e).map (fun i => (i.zero, i.size, i.bytes)) = some (some z, s, b)) : ∃ i, P.info? e = some i ∧ i.zero = some z ∧ i.size = s ∧ i.bytes = b := by
  obtain ⟨i, hi, he⟩ := Option.map_eq_some_iff.1 h
  simp only [Prod.mk.injEq] at he
  exact ⟨i, hi, he.1, he.2.1, he.2.2⟩
theorem but_grown {w w' : World} {ob : Option Nat} (h : w.grownBy w' ob) : But (fun k => ob = some k) w w' := ⟨h.os, h.tape, h.output, h.size, fun k hk hd => h.block k hk (fun e => hd e.symm)⟩
/-- Behind an append of one. -/
theorem OwnN.snoc {B : Nat} {l : List (Nd × Value)} {v v' : Value} {W w' : World} {t : Nd} {kv : Value} {n : Nat} {E : Nat} (h : OwnN B l v W) (ho : w'.ownsRow B 24 7 v' (l.length + 1) (rowC l ++ cells7 t.h kv)) (hg : W.grownBy w' v.ownBlock) (hk : ∀ k, v'.ownBlock = some k → v.ownBlock = some k ∨ W.heap.size ≤ k)
    (hT : TAt (fun k => E ≤ k) n t (ndV t.h kv) W) (hE : B ≤ E) (hvE : ∀ k, v.ownBlock = some k → k < E) : OwnN B (l ++ [(t, kv)]) v' w' := by
  refine ⟨by rw [rowC_app, rowC_one]; simpa using ho, fun x hx => ?_⟩
  rcases List.mem_append.1 hx with hx | hx
  · obtain ⟨m, hm⟩ := h.kid x hx
    refine ⟨m, ((hm.imp (B := fun k => (B ≤ k ∧ v'.ownBlock ≠ some k) ∧ v.ownBlock ≠ some k) (fun k hkl hA => ⟨⟨hA.1, fun e => ?_⟩, hA.2⟩)).but (D := fun k => v.ownBlock = some k) (fun k hA hD => hA.2 hD) (but_grown hg)).imp (fun k _ hA => hA.1)⟩
    rcases hk k e with h' | h'
    · exact hA.2 h'
    · omega
  · simp only [List.mem_singleton] at hx
    subst hx
    refine ⟨n, ((hT.imp (B := fun k => (B ≤ k ∧ v'.ownBlock ≠ some k) ∧ v.ownBlock ≠ some k) (fun k hkl hA => ⟨⟨by omega, fun e => ?_⟩, fun e => by have := hvE k e; omega⟩)).but (D := fun k => v.ownBlock = some k) (fun k hA hD => hA.2 hD) (but_grown hg)).imp (fun k _ hA => hA.1)⟩
    rcases hk k e with h' | h'
    · have := hvE k h'; omega
    · omega
end Go.Proofs.Ytmkkjjhlppagpaa
