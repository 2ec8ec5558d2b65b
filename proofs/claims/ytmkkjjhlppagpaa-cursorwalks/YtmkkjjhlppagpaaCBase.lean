/- Trees, paths, numbers: what goes before (out of Node14, without what this seat has not). -/
import Derived.Test.YtmkkjjhlppagpaaPMeas
import Derived.Test.YtmkkjjhlppagpaaNRows
import Derived.Test.YtmkkjjhlppagpaaHeldTwo
namespace Go.Proofs.Ytmkkjjhlppagpaa
open Go.RowKit

theorem heap_set {W : World} {g o : Nat} {cs : Array Value} {T : TypeId} {z : Nat × Nat} (v : Value) (h : W.heap[g]? = some (.cells cs T z)) : (W.setCell ⟨g, o, none⟩ v).heap[g]? = some (.cells (cs.setIfInBounds o v) T z) := by
  simp [World.setCell, Array.getElem?_modify, h]
theorem heap_set_other {W : World} {g k o : Nat} {ob : Obj} (v : Value) (h : W.heap[k]? = some ob) (hk : g ≠ k) : (W.setCell ⟨g, o, none⟩ v).heap[k]? = some ob := by
  simp [World.setCell, Array.getElem?_modify, h, hk]
def encI (x : Int) : Value := .int .i64 x
abbrev OwnI (B : Nat) (l : List Int) (v : Value) (W : World) : Prop := W.ownsRow B 3 1 v l.length (l.map encI)
theorem infoI : (Try.prog.info? 3).map (fun i => (i.zero, i.size, i.bytes)) = some (some (.int .i64 0), 1, 8) := by kernel_rfl
theorem own_shape {W : World} {B n k : Nat} {e : TypeId} {v : Value} {xs : List Value} (h : W.ownsRow B e k v n xs) : ∃ ao cap, v = .slice ao n cap ∧ (ao = none → cap = 0) ∧ n ≤ cap := by
  rcases h.2 with ⟨rfl, hn⟩ | ⟨g, cap, cur, rfl, hB, hg, hle, _⟩
  · exact ⟨none, 0, by rw [hn], fun _ => rfl, by omega⟩
  · exact ⟨_, _, rfl, (fun h => by cases h), hle⟩
theorem own_base {W : World} {B C n k : Nat} {e : TypeId} {v : Value} {xs : List Value} (h : W.ownsRow B e k v n xs) (hC : C ≤ B) : W.ownsRow C e k v n xs := by
  obtain ⟨h1, h2⟩ := h
  refine ⟨h1, ?_⟩
  rcases h2 with h2 | ⟨g, cap, cur, hv, hB, h3⟩
  · exact .inl h2
  · exact .inr ⟨g, cap, cur, hv, Nat.le_trans hC hB, h3⟩
theorem TAt.succ {A : Nat → Prop} {n : Nat} {t : Nd} {ka : Option Addr} {kc : Nat} {W : World} (h : TAt A n t (ndV t.h (.slice ka t.kids.length kc)) W) : ∃ m, ∃ _ : HdOk t.h, ∃ _ : ka = none → kc = 0, ∃ _ : t.kids.length ≤ kc, ∃ _ : True, t.kids.length ≤ 140737488351232 ∧ KidsAt A m t.kids ka W := by
  cases n with
  | zero => exact h.elim
  | succ n =>
    obtain ⟨ba, bc, e, h1, h2, h3, h4, h5⟩ := h
    unfold ndV at e
    injection e with e
    have := congrArg (fun a : Array Value => a[6]?) e
    simp at this
    obtain ⟨rfl, rfl⟩ := this
    exact ⟨n, h1, h2, h3, trivial, h4, h5⟩
/-- A row of numbers, as it lies. -/
def RowI (l : List Int) (ao : Option Addr) (W : World) : Prop := ∀ (i : Nat) (x : Int), l[i]? = some x → ∃ b off, ao = some ⟨b, off, none⟩ ∧ b < W.heap.size ∧ W.cell? ⟨b, off + i, none⟩ = some (.int .i64 x)
theorem RowI.next {l : List Int} {ao : Option Addr} {W W' : World} (h : RowI l ao W) (hb : Below W.heap.size W W') : RowI l ao W' := fun i x hx => by
  obtain ⟨b, off, h0, h1, h2⟩ := h i x hx
  exact ⟨b, off, h0, Nat.lt_of_lt_of_le h1 hb.size, (hb.cell (p := ⟨b, off + i, none⟩) h1).trans h2⟩
theorem RowI.of_own {B : Nat} {l : List Int} {v : Value} {W : World} (h : OwnI B l v W) : ∃ ao cap, v = .slice ao l.length cap ∧ RowI l ao W := by
  rcases h.2 with ⟨rfl, hn⟩ | ⟨g, cap, cur, rfl, hB, hg, hle, hmx, hcs, htk⟩
  · have : l = [] := List.eq_nil_of_length_eq_zero hn
    subst this
    exact ⟨none, 0, rfl, fun i x hx => by simp at hx⟩
  · refine ⟨_, _, rfl, fun i x hx => ⟨g, 0, rfl, (Array.getElem?_eq_some_iff.1 hg).1, ?_⟩⟩
    have hi : i < l.length := (List.getElem?_eq_some_iff.1 hx).1
    have e1 : (cur.toList.take (l.length * 1))[i]? = some (.int .i64 x) := by rw [htk, List.getElem?_map, hx]; rfl
    rw [List.getElem?_take, if_pos (by omega)] at e1
    rw [Nat.zero_add]
    simp [World.cell?, hg]
    simpa using e1
def findN : Nd → List Int → Option Nd
  | t, [] => some t
  | t, i :: p => if h : 0 ≤ i ∧ i.toNat < t.kids.length then findN t.kids[i.toNat] p else none
theorem findN_yes {t : Nd} {i : Int} {p : List Int} (h : 0 ≤ i) (hi : i.toNat < t.kids.length) : findN t (i :: p) = findN t.kids[i.toNat] p := by rw [findN, dif_pos ⟨h, hi⟩]
theorem findN_no {t : Nd} {i : Int} {p : List Int} (h : ¬ (0 ≤ i ∧ i.toNat < t.kids.length)) : findN t (i :: p) = none := by rw [findN, dif_neg h]
def zeroH : Hd := ⟨⟨#[]⟩, false, ⟨#[]⟩, 0, 0, 0⟩
def zeroN : Nd := .mk zeroH []
theorem zero_at (A : Nat → Prop) (W : World) : TAt A 1 zeroN (ndV zeroH (.slice none 0 0)) W :=
  ⟨none, 0, rfl, ⟨by unfold i64B; decide, by unfold i64B; decide, by unfold i64B; decide, by decide, by decide⟩, fun _ => rfl, Nat.le_refl _, Nat.zero_le _, fun i t ht => by simp [zeroN, Nd.kids] at ht⟩
/-- The tree's box, as the walk along a path turns it. -/
structure FnV (w : World) (P : Nat) (x : Nd) (W : World) : Prop where
  bw : Below w.heap.size w W
  bx : ∃ n xa xc, W.heap[P]? = some (.cells #[.string x.h.kind, .bool x.h.named, .string x.h.field, .int .i64 x.h.frm, .int .i64 x.h.to, .int .i64 x.h.bad, .slice xa x.kids.length xc] 24 (0, 0)) ∧ TAt (fun k => k < w.heap.size) n x (ndV x.h (.slice xa x.kids.length xc)) w
  rs : W.heap[P + 1]? = some (.cells #[.string ⟨#[]⟩, .bool false, .string ⟨#[]⟩, .int .i64 0, .int .i64 0, .int .i64 0, .slice none 0 0] 24 (0, 0))
theorem results_cell_tmp {fn : Func} {p q : Tmp} {ty : TypeId} (h : fn.results = #[.cell p ty, .tmp q]) (tmps : Array Value) (P : Program) (w : World) {a : Addr} {x y : Value} (ha : tmps[p]?.getD undef = .pointer (some a)) (hb : tmps[q]?.getD undef = y) (hx : (loadVar ty a).run P w = .ok x w) :
    (results fn tmps).run P w = .ok (.tuple #[x, y]) w := by
  simp only [results, h]
  simp [ha, hb, hx, asAddr]
theorem load_node {W : World} {g : Nat} {cs : Array Value} {a0 a1 a2 a3 a4 a5 a6 : Value} (hcs : cs = #[a0, a1, a2, a3, a4, a5, a6]) (h : W.heap[g]? = some (.cells cs 24 (0, 0))) : (loadVar 24 ⟨g, 0, none⟩).run Try.prog W = .ok (.agg #[a0, a1, a2, a3, a4, a5, a6]) W := by
  subst hcs
  have c0 : W.cell? ⟨g, 0, none⟩ = some a0 := by simp [World.cell?, h]
  have c1 : W.cell? ⟨g, 1, none⟩ = some a1 := by simp [World.cell?, h]
  have c2 : W.cell? ⟨g, 2, none⟩ = some a2 := by simp [World.cell?, h]
  have c3 : W.cell? ⟨g, 3, none⟩ = some a3 := by simp [World.cell?, h]
  have c4 : W.cell? ⟨g, 4, none⟩ = some a4 := by simp [World.cell?, h]
  have c5 : W.cell? ⟨g, 5, none⟩ = some a5 := by simp [World.cell?, h]
  have c6 : W.cell? ⟨g, 6, none⟩ = some a6 := by simp [World.cell?, h]
  unfold loadVar
  go_simp
mutual
def deepR : Nd → Int
  | .mk _ l => deepRL l + 1
def deepRL : List Nd → Int
  | [] => 0
  | k :: l => max (deepR k) (deepRL l)
 end
theorem deepR_mk (t : Nd) : deepR t = deepRL t.kids + 1 := by cases t; simp [deepR, Nd.kids]
theorem deepRL_app (a b : List Nd) : deepRL (a ++ b) = max (deepRL a) (deepRL b) ∧ 0 ≤ deepRL a := by
  induction a with
  | nil =>
    refine ⟨?_, by simp [deepRL]⟩
    have h : ∀ l, 0 ≤ deepRL l := fun l => by
      induction l with
      | nil => simp [deepRL]
      | cons k l ih => rw [deepRL]; omega
    have := h b
    simp only [List.nil_append, deepRL]
    omega
  | cons k l ih => simp only [List.cons_append, deepRL]; omega
theorem deepRL_pos (l : List Nd) : 0 ≤ deepRL l := (deepRL_app l []).2
theorem deepRL_take {l : List Nd} {j : Nat} (h : j < l.length) : deepRL (l.take (j + 1)) = max (deepRL (l.take j)) (deepR l[j]) := by
  rw [List.take_succ_eq_append_getElem h, (deepRL_app _ _).1]
  have := deepRL_pos l[j].kids
  have := deepR_mk l[j]
  simp only [deepRL]
  omega
theorem deepR_cnt (t : Nd) : deepR t ≤ cntN t := by
  induction t using nd_ind with
  | h t ih =>
    rw [deepR_mk, cntN_mk]
    have : ∀ l, (∀ k ∈ l, deepR k ≤ cntN k) → deepRL l ≤ cntL l := fun l => by
      induction l with
      | nil => intro _; simp [deepRL, cntL]
      | cons k l ihl =>
        intro h
        have h1 := h k (by simp)
        have h2 := ihl (fun k hk => h k (by simp [hk]))
        simp only [deepRL, cntL]
        omega
    have := this t.kids ih
    omega
theorem fold_deep (t : Nd) : ∀ (d m : Int), (preN t d).foldl (fun m x => max m x.2) m = max m (d + deepRL t.kids) := by
  induction t using nd_ind with
  | h t ih =>
    intro d m
    rw [preN_mk, List.foldl_cons]
    have : ∀ l, (∀ k ∈ l, ∀ (d m : Int), (preN k d).foldl (fun m x => max m x.2) m = max m (d + deepRL k.kids)) → ∀ m : Int, d ≤ m → (preL l (d + 1)).foldl (fun m x => max m x.2) m = max m (d + deepRL l) := fun l => by
      induction l with
      | nil => intro _ m hm; simp only [preL, List.foldl_nil, deepRL]; omega
      | cons k l ihl =>
        intro h m hm
        rw [preL, List.foldl_append, h k (by simp), ihl (fun k hk => h k (by simp [hk])) _ (by omega)]
        have := deepR_mk k
        simp only [deepRL]
        omega
    rw [this t.kids ih _ (by simp only; omega)]
    have := deepRL_pos t.kids
    simp only
    omega
theorem maxD_deepR {xs : List Al} {t : Nd} (h : xs.map stripA = preN t 1) : maxD xs = deepR t := by
  have e := fold_deep t 1 0
  rw [← h, List.foldl_map] at e
  have := deepRL_pos t.kids
  have := deepR_mk t
  unfold maxD
  simp only [stripA] at e
  rw [e]
  omega
set_option maxRecDepth 100000 in
set_option maxHeartbeats 2000000 in
theorem ints_any (l m : List Int) (la ma : Option Addr) (lc mc : Nat) (w : World) (hl : RowI l la w) (hm : RowI m ma w) (hll : l.length ≤ 140737488351232) (hml : m.length ≤ 140737488351232) :
    Calls Try.prog 12 #[.slice la l.length lc, .slice ma m.length mc] w fun e w' => e = .returned (.bool (decide (l = m))) ∧ Below w.heap.size w w' := by
  by_cases e2 : l.length = m.length
  case neg =>
    have HE : Hid (decide (l = m) = false) := decide_eq_false (fun h => e2 (by rw [h]))
    have e2' : ((l.length : Int) != (m.length : Int)) = true := by simp; omega
    have e2'' : ¬ (l.length : Int) = (m.length : Int) := by omega
    go_enter Try.func12, Try.ntmps12
    go_wp2_with fail
    go_ret
    exact ⟨by rw [HE.out]; rfl, Below.refl _ _⟩
  have e2' : ((l.length : Int) != (m.length : Int)) = false := by simp; omega
  have HLE : Hid (l.length = m.length) := e2
  have HL : Hid (RowI l la w ∧ RowI m ma w) := ⟨hl, hm⟩
  clear hl hm e2
  go_enter Try.func12, Try.ntmps12
  go_wp2_with fail
  clear e2'
  go_loopw [13] (fun iv wr => ∃ (i : Nat), iv = .int .i64 i ∧ i ≤ l.length ∧ Hid (l.take i = m.take i) ∧ Below w.heap.size w wr) (fun i _ => l.length - (intOf i).toNat)
  case atStart => exact ⟨0, rfl, Nat.zero_le _, by show _ = _; simp, Below.refl _ _⟩
  case round =>
    obtain ⟨i, rfl, hi, HF, hB⟩ := hrel
    by_cases hlt : i < l.length
    · have hlt' : i < m.length := by have := HLE.out; omega
      have k1 : (i : Int) < l.length := by omega
      have k2 : (i : Int) < m.length := by omega
      obtain ⟨b, o, rfl, hb, c1⟩ := (HL.out.1.next hB) i l[i] (by simp [hlt])
      obtain ⟨b2, o2, rfl, hb2, c2⟩ := (HL.out.2.next hB) i m[i] (by simp [hlt'])
      by_cases he : l[i] = m[i]
      · have HF2 : Hid (l.take (i + 1) = m.take (i + 1)) := by
          show _ = _
          rw [List.take_succ_eq_append_getElem hlt, List.take_succ_eq_append_getElem hlt', HF.out, he]
        rw [he] at c1
        clear HF HL he
        generalize m[i] = q at *
        go_wp2_with fail
        go_quiet (fail)
        go_wp2_with fail
        exact ⟨⟨i + 1, by go_num, by omega, HF2, below_drewN hB _⟩, by simp [intOf]; omega⟩
      · have HE : Hid (decide (l = m) = false) := decide_eq_false (fun h => he (by subst h; rfl))
        have hne : (l[i] != m[i]) = true := bne_iff_ne.2 he
        clear HF HL he
        generalize m[i] = q at *
        generalize l[i] = r at *
        go_wp2_with fail
        go_quiet (fail)
        go_wp2_with fail
        go_ret
        exact ⟨by rw [HE.out]; rfl, below_drewN hB _⟩
    · have k1 : ¬ (i : Int) < l.length := by omega
      have HE : Hid (decide (l = m) = true) := by
        refine decide_eq_true ?_
        have e := HF.out
        rw [List.take_of_length_le (by omega), List.take_of_length_le (by have := HLE.out; omega)] at e
        exact e
      clear HF HL
      go_wp2_with fail
      go_ret
      exact ⟨by rw [HE.out]; rfl, hB⟩
theorem leaf_at (A : Nat → Prop) (h : Hd) (ho : HdOk h) (W : World) : TAt A 1 (.mk h []) (ndV h (.slice none 0 0)) W :=
  ⟨none, 0, rfl, ho, fun _ => rfl, Nat.le_refl _, Nat.zero_le _, fun i t ht => by simp [Nd.kids] at ht⟩
end Go.Proofs.Ytmkkjjhlppagpaa
