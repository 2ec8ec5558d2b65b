/- Rows of one's own, wherever they lie; an append of one onto such a row: where it lies behind it. -/
import Derived.Test.YtmkkjjhlppagpaaPMeas
import Derived.Test.YtmkkjjhlppagpaaHeldTwo
import Derived.Deep.Onto
import Derived.Deep.Upon
namespace Go.Proofs.Ytmkkjjhlppagpaa
open Go.RowKit

theorem But.frozen {D : Nat → Prop} {a b : World} (h : But D a b) {p : Addr} (hp : p.block < a.heap.size) (hd : ¬ D p.block) : b.frozen? p = a.frozen? p := World.frozen?_of_block (h.block _ hp hd)
/-- The slice v holds xs, n elements of so many cells; what is behind them up to its capacity may be written; if it has any, it lies in a block of D. -/
def QRow (D : Nat → Prop) (size : Nat) (v : Value) (n : Nat) (xs : List Value) (W : World) : Prop :=
  ∃ ao b off cap, v = .slice ao n cap ∧ Came W size ao b off n cap xs ∧ (0 < cap → D b)
theorem QRow.nil (D : Nat → Prop) (size : Nat) (W : World) : QRow D size (.slice none 0 0) 0 [] W :=
  ⟨none, 0, 0, 0, rfl, ⟨Nat.le_refl _, fun h => by omega, fun h => by omega, by simp, by simp, fun j h => by simp at h⟩, fun h => by omega⟩
theorem QRow.of_own {D : Nat → Prop} {W : World} {B n size : Nat} {e : TypeId} {v : Value} {xs : List Value} (h : W.ownsRow B e size v n xs) (hD : ∀ k, B ≤ k → D k) : QRow D size v n xs W := by
  have h0 := h
  obtain ⟨h1, h2⟩ := h
  rcases h2 with ⟨rfl, hn⟩ | ⟨g, cap, cur, rfl, hB, hg, hcap, hm, hsz, hx⟩
  · subst hn
    obtain rfl : xs = [] := List.eq_nil_of_length_eq_zero (by simpa using h1)
    exact QRow.nil _ _ _
  · refine ⟨_, g, 0, cap, rfl, ⟨hcap, fun _ => rfl, fun _ => (Array.getElem?_eq_some_iff.1 hg).1, h1, fun j u hj => ?_, fun j hj => ?_⟩, fun _ => hD g hB⟩
    · have := World.ownsRow.cells h0 (g := g) rfl j u hj
      rwa [add_plain] at this
    · have hlt : n * size + j < cur.size := by rw [hsz]; rw [Nat.sub_mul] at hj; omega
      refine ⟨?_, World.ownsRow.frozenAt h0 _⟩
      simp [World.cell?, hg, hlt]
theorem QRow.but {D E : Nat → Prop} {W W' : World} {n size : Nat} {v : Value} {xs : List Value} (h : QRow D size v n xs W) (hb : But E W W') (hE : ∀ k, D k → ¬ E k) : QRow D size v n xs W' := by
  obtain ⟨ao, b, off, cap, h0, h1, h2⟩ := h
  rcases Nat.eq_zero_or_pos cap with hz | hz
  · subst hz
    have hn : n = 0 := Nat.le_zero.1 h1.le
    subst hn
    obtain rfl : xs = [] := List.eq_nil_of_length_eq_zero (by simpa using h1.oldsLen)
    exact ⟨ao, b, off, 0, h0, ⟨Nat.le_refl _, fun h => by omega, fun h => by omega, by simp, by simp, fun j h => by simp at h⟩, fun h => by omega⟩
  · have hbl := h1.lt hz
    have hE' := hE b (h2 hz)
    refine ⟨ao, b, off, cap, h0, ⟨h1.le, h1.addr, fun _ => Nat.lt_of_lt_of_le hbl hb.size, h1.oldsLen, fun j u hj => ?_, fun j hj => ?_⟩, h2⟩
    · exact (hb.cell (p := ⟨b, off + j, none⟩) hbl hE').trans (h1.olds j u hj)
    · have := h1.spare j hj
      rw [hb.cell (p := ⟨b, off + n * size + j, none⟩) hbl hE', hb.frozen (p := ⟨b, off + n * size + j, none⟩) hbl hE']
      exact this
theorem QRow.next {D : Nat → Prop} {W W' : World} {n size : Nat} {v : Value} {xs : List Value} (h : QRow D size v n xs W) (hb : Below W.heap.size W W') : QRow D size v n xs W' :=
  h.but (E := fun _ => False) (But.of_next hb) (fun _ _ h => h)
theorem QRow.mono {D E : Nat → Prop} {W : World} {n size : Nat} {v : Value} {xs : List Value} (h : QRow D size v n xs W) (hd : ∀ k, k < W.heap.size → D k → E k) : QRow E size v n xs W := by
  obtain ⟨ao, b, off, cap, h0, h1, h2⟩ := h
  exact ⟨ao, b, off, cap, h0, h1, fun h => hd b (h1.lt h) (h2 h)⟩
/-- Cut at its beginning. -/
theorem QRow.cut {D : Nat → Prop} {W : World} {n size : Nat} {b off cap : Nat} {xs ys : List Value} (h : QRow D size (.slice (some ⟨b, off, none⟩) (n + 1) cap) (n + 1) (xs ++ ys) W) (hx : xs.length = size) :
    (1 < cap → QRow D size (.slice (some ⟨b, off + size, none⟩) n (cap - 1)) n ys W) ∧ (cap = 1 → n = 0 ∧ QRow D size (.slice (some ⟨b, off, none⟩) 0 0) n ys W) := by
  obtain ⟨ao, b', off', cap', h0, h1, h2⟩ := h
  cases h0
  have hle := h1.le
  have hb := h1.addr (by omega)
  cases hb
  have hl := h1.oldsLen
  rw [List.length_append, hx, Nat.add_mul, Nat.one_mul] at hl
  refine ⟨fun hc => ⟨_, b, off + size, cap - 1, rfl, ⟨by omega, fun _ => rfl, fun _ => h1.lt (by omega), by omega, fun j u hj => ?_, fun j hj => ?_⟩, fun _ => h2 (by omega)⟩, fun hc => ?_⟩
  · have := h1.olds (size + j) u (by rw [List.getElem?_append_right (by omega), hx, Nat.add_sub_cancel_left]; exact hj)
    rwa [← Nat.add_assoc] at this
  · have := h1.spare j (by rw [show cap - (n + 1) = cap - 1 - n by omega]; exact hj)
    rw [Nat.add_mul, Nat.one_mul, show off + (n * size + size) + j = off + size + n * size + j by omega] at this
    exact this
  · have hn : n = 0 := by omega
    subst hn
    obtain rfl : ys = [] := List.eq_nil_of_length_eq_zero (by omega)
    exact ⟨rfl, _, 0, 0, 0, rfl, ⟨Nat.le_refl _, fun h => by omega, fun h => by omega, by simp, by simp, fun j h => by simp at h⟩, fun h => by omega⟩
theorem tape_setCells (b : Nat) : ∀ (vs : List Value) (o : Nat) (w : World), (w.setCells b o vs).tape = w.tape
  | [], _, _ => rfl
  | v :: r, o, w => by rw [World.setCells, tape_setCells b r]; rfl
theorem But.setCells {D : Nat → Prop} (w : World) (b o : Nat) (vs : List Value) (hD : D b) : But D w (w.setCells b o vs) := by
  refine ⟨World.os_setCells w b o vs, tape_setCells b vs o w, World.output_setCells w b o vs, ?_, fun k hk hd => World.heap_setCells_other w b o vs hk (fun e => hd (e ▸ hD))⟩
  have := (World.keptBut_setCells b (may := fun _ => True) vs o w (fun _ _ => trivial)).size
  exact this
/-- One element more. -/
theorem run_append_q {P : Program} {w : World} {D : Nat → Prop} {n : Nat} {v : Value} {xs : List Value} (t ty e : TypeId) (i : TypeInfo) (z : Value) (size bytes : Nat) (ht : P.underlying t = some (.slice e)) (hi : P.info? e = some i) (hz : i.zero = some z) (hsize : i.size = size) (hby : i.bytes = bytes) (hzs : z.cells.size = size) (hsz : 0 < size)
    (h : QRow D size v n xs w) (hD : ∀ k, w.heap.size ≤ k → D k) (ad : Addr) (c : Nat) (news : List Value) (hl : news.length = size) (hnews : ∀ j u, news[j]? = some u → w.cell? (ad.add j) = some u) (h1 : ∀ u ∈ news, u.oneCell' = true)
    (h63 : n + 1 ≤ maxLen) (hbytes : (n + 1) * bytes ≤ 140737488355328) :
    ∃ v' w', (Builtin.append_ #[t, t] ty #[v, .slice (some ad) 1 c]).run P w = .ok v' w' ∧ QRow D size v' (n + 1) (xs ++ news) w' ∧ But D w w' := by
  obtain ⟨ao, b, off, cap, rfl, hc, hb⟩ := h
  have hgrow : ∀ {w' : World}, w.grownBy w' none → But D w w' := fun hg => ⟨hg.os, hg.tape, hg.output, hg.size, fun k hk _ => hg.block k hk (by simp)⟩
  by_cases hroom : n + 1 ≤ cap
  · have hcap : 0 < cap := by omega
    have hao := hc.addr hcap
    subst hao
    have hfit : size ≤ (cap - n) * size := Nat.le_mul_of_pos_left _ (by omega)
    have hrun := run_append_room_cells (P := P) w t ty e i ht hi b off n cap ad 1 c news (by rw [hl, hsize, Nat.one_mul]) hnews h1 hroom
      (fun j hj => by rw [hsize]; exact (hc.spare j (by omega)).1) (fun j hj => by rw [hsize]; exact (hc.spare j (by omega)).2)
    rw [hsize] at hrun
    have hsome : ∀ j, j < news.length → (w.cell? ⟨b, off + n * size + j, none⟩).isSome = true := fun j hj => (hc.spare j (by omega)).1
    have hB : But D w (w.setCells b (off + n * size) news) := But.setCells w b _ news (hb hcap)
    have hol := hc.oldsLen
    refine ⟨_, _, hrun, ⟨_, b, off, cap, rfl, ⟨hroom, fun _ => rfl, fun _ => Nat.lt_of_lt_of_le (hc.lt hcap) hB.size, by rw [List.length_append, hol, hl, Nat.add_mul, Nat.one_mul], fun j u hj => ?_, fun j hj => ?_⟩, fun _ => hb hcap⟩, hB⟩
    · by_cases hjl : j < xs.length
      · rw [List.getElem?_append_left hjl] at hj
        rw [World.cell?_setCells_out b _ _ _ _ (fun _ _ => Or.inl (by show off + j < _; omega))]
        exact hc.olds j u hj
      · rw [List.getElem?_append_right (by omega)] at hj
        have hlt := (List.getElem?_eq_some_iff.1 hj).1
        have := World.cell?_setCells_in b news (off + n * size) w hsome (j - xs.length) hlt
        rw [show off + n * size + (j - xs.length) = off + j by omega] at this
        rw [this, ← hj, List.getElem?_eq_getElem hlt]
    · rw [Nat.add_mul, Nat.one_mul, World.frozen?_setCells, World.cell?_setCells_out b _ _ _ _ (fun _ _ => Or.inr (by show _ ≤ off + (n * size + size) + j; omega))]
      have hj' : size + j < (cap - n) * size := by
        have : (cap - n) * size = (cap - (n + 1)) * size + size := by rw [show cap - n = cap - (n + 1) + 1 by omega, Nat.add_mul, Nat.one_mul]
        omega
      have := hc.spare (size + j) hj'
      rwa [show off + n * size + (size + j) = off + (n * size + size) + j by omega] at this
  · cases ao with
    | none =>
      have hcap : cap = 0 := by
        rcases Nat.eq_zero_or_pos cap with h0 | h0
        · exact h0
        · have := hc.addr h0; cases this
      subst hcap
      have hn : n = 0 := Nat.le_zero.1 hc.le
      subst hn
      obtain rfl : xs = [] := List.eq_nil_of_length_eq_zero (by simpa using hc.oldsLen)
      obtain ⟨v', w', hrun, r1, r2, _⟩ := run_append_own (P := P) w w.heap.size t ty e i z size bytes ht hi hz hsize hby hzs hsz (.slice none 0 0) 0 [] (World.ownsRow_nil w _ e size) ad 1 c news (by rw [hl, Nat.one_mul]) hnews h1 h63 hbytes (Nat.le_refl _)
      exact ⟨v', w', hrun, QRow.of_own r1 hD, hgrow r2⟩
    | some a' =>
      have holds : ∀ j u, xs[j]? = some u → w.cell? (a'.add j) = some u := fun j u hj => by
        rcases Nat.eq_zero_or_pos cap with h0 | h0
        · subst h0
          have hn : n = 0 := Nat.le_zero.1 hc.le
          subst hn
          obtain rfl : xs = [] := List.eq_nil_of_length_eq_zero (by simpa using hc.oldsLen)
          simp at hj
        · have := hc.addr h0
          cases this
          rw [add_plain]
          exact hc.olds j u hj
      obtain ⟨v', w', hrun, r1, r2⟩ := run_append_arg_grows (P := P) w t ty e i z size bytes ht hi hz hsize hby hzs hsz a' n cap xs hc.oldsLen holds ad 1 c news (by rw [hl, Nat.one_mul]) hnews (by omega) h63 hbytes
      exact ⟨v', w', hrun, QRow.of_own r1 hD, hgrow r2⟩
theorem wp_append_q {P : Program} {w : World} {o : Oper} {a : Act} {K : Act → World → Prop} {Q : Exit → Act → World → Prop} (s x : Operand) (t : TypeId)
    (ho : o.op = .call { callee := .builtin .append, args := #[s, x], argTypes := #[t, t] }) {D : Nat → Prop} {n : Nat} {v : Value} {xs : List Value} (e : TypeId) (i : TypeInfo) (z : Value) (size bytes : Nat) (ht : P.underlying t = some (.slice e)) (hi : P.info? e = some i) (hz : i.zero = some z) (hsize : i.size = size) (hby : i.bytes = bytes) (hzs : z.cells.size = size) (hsz : 0 < size)
    (hs : a.eval s = v) (h : QRow D size v n xs w) (hD : ∀ k, w.heap.size ≤ k → D k) (ad : Addr) (c : Nat) (news : List Value) (hx : a.eval x = .slice (some ad) 1 c) (hl : news.length = size) (hnews : ∀ j u, news[j]? = some u → w.cell? (ad.add j) = some u) (h1 : ∀ u ∈ news, u.oneCell' = true)
    (h63 : n + 1 ≤ maxLen) (hbytes : (n + 1) * bytes ≤ 140737488355328)
    (hK : ∀ v' w', QRow D size v' (n + 1) (xs ++ news) w' → But D w w' → K (a.put o.dst v') w') : o.wp P a w K Q := by
  obtain ⟨v', w', hrun, k1, k2⟩ := run_append_q (P := P) (w := w) t o.type e i z size bytes ht hi hz hsize hby hzs hsz h hD ad c news hl hnews h1 h63 hbytes
  unfold Oper.wp
  simp [execOp, ho, resolve, invoke, builtin, hs, hx, hrun, Result.andThen]
  exact hK v' w' k1 k2
theorem wpList_append_q {P : Program} {w : World} {ops : Array Oper} {rest : List Oper} {o : Oper} {a : Act} {Q : Exit → Act → World → Prop} (hgd : o.guard = none) (s x : Operand) (t : TypeId)
    (ho : o.op = .call { callee := .builtin .append, args := #[s, x], argTypes := #[t, t] }) {D : Nat → Prop} {n : Nat} {v : Value} {xs : List Value} (e : TypeId) (i : TypeInfo) (z : Value) (size bytes : Nat) (ht : P.underlying t = some (.slice e)) (hi : P.info? e = some i) (hz : i.zero = some z) (hsize : i.size = size) (hby : i.bytes = bytes) (hzs : z.cells.size = size) (hsz : 0 < size)
    (hs : a.eval s = v) (h : QRow D size v n xs w) (hD : ∀ k, w.heap.size ≤ k → D k) (ad : Addr) (c : Nat) (news : List Value) (hx : a.eval x = .slice (some ad) 1 c) (hl : news.length = size) (hnews : ∀ j u, news[j]? = some u → w.cell? (ad.add j) = some u) (h1 : ∀ u ∈ news, u.oneCell' = true)
    (h63 : n + 1 ≤ maxLen) (hbytes : (n + 1) * bytes ≤ 140737488355328)
    (hK : ∀ v' w', QRow D size v' (n + 1) (xs ++ news) w' → But D w w' → wpList P ops Q rest (a.put o.dst v') w') : wpList P ops Q (o :: rest) a w := by
  obtain ⟨v', w', hrun, k1, k2⟩ := run_append_q (P := P) (w := w) t o.type e i z size bytes ht hi hz hsize hby hzs hsz h hD ad c news hl hnews h1 h63 hbytes
  refine wpList_plain hgd fun _ hK' => ?_
  unfold Oper.wp
  simp [execOp, ho, resolve, invoke, builtin, hs, hx, hrun, Result.andThen]
  exact hK' _ _ (hK v' w' k1 k2)
theorem QRow.shape {D : Nat → Prop} {W : World} {n size : Nat} {v : Value} {xs : List Value} (h : QRow D size v n xs W) : ∃ ao cap, v = .slice ao n cap := by
  obtain ⟨ao, b, off, cap, h0, _⟩ := h; exact ⟨ao, cap, h0⟩
/-- Its items, as they lie. -/
def inB (v : Value) (k : Nat) : Prop := ∃ off n c, v = .slice (some ⟨k, off, none⟩) n c ∧ 0 < c
theorem inB.of {ad : Addr} {n c : Nat} {k : Nat} (h : inB (.slice (some ad) n c) k) : ad.block = k := by
  obtain ⟨_, _, _, e, _⟩ := h
  cases e; rfl
theorem QRow.exact {D : Nat → Prop} {W : World} {n size : Nat} {v : Value} {xs : List Value} (h : QRow D size v n xs W) : QRow (fun k => D k ∧ inB v k ∧ k < W.heap.size) size v n xs W := by
  obtain ⟨ao, b, off, cap, h0, h1, h2⟩ := h
  exact ⟨ao, b, off, cap, h0, h1, fun hc => ⟨h2 hc, ⟨off, n, cap, by rw [h0, h1.addr hc], hc⟩, h1.lt hc⟩⟩

theorem inB_own {v : Value} {k : Nat} (h : inB v k) : v.ownBlock = some k := by
  obtain ⟨off, n, c, rfl, _⟩ := h
  rfl
theorem run_append_ownq {P : Program} {w : World} (base : Nat) (t ty e : TypeId) (i : TypeInfo) (z : Value) (size bytes : Nat) (ht : P.underlying t = some (.slice e)) (hi : P.info? e = some i) (hz : i.zero = some z)
    (hsize : i.size = size) (hby : i.bytes = bytes) (hzs : z.cells.size = size) (hsz : 0 < size)
    (v : Value) (n : Nat) (xs : List Value) (hown : w.ownsRow base e size v n xs)
    (a : Addr) (c : Nat) (news : List Value) (hl : news.length = size) (hnews : ∀ j u, news[j]? = some u → w.cell? (a.add j) = some u) (h1 : ∀ u ∈ news, u.oneCell' = true)
    (h63 : n + 1 ≤ maxLen) (hbytes : (n + 1) * bytes ≤ 140737488355328) (hbase : base ≤ w.heap.size) :
    ∃ v' w', (Builtin.append_ #[t, t] ty #[v, .slice (some a) 1 c]).run P w = .ok v' w' ∧ w'.ownsRow base e size v' (n + 1) (xs ++ news) ∧ w.grownBy w' v.ownBlock ∧
      ∀ k, v'.ownBlock = some k → v.ownBlock = some k ∨ w.heap.size ≤ k := by
  obtain ⟨v', w', r1, o1, g1, _⟩ := run_append_own (P := P) w base t ty e i z size bytes ht hi hz hsize hby hzs hsz v n xs hown a 1 c news (by omega) hnews h1 h63 hbytes hbase
  have hq : QRow (fun k => v.ownBlock = some k ∨ w.heap.size ≤ k) size v n xs w := ((QRow.of_own (D := fun k => base ≤ k) hown (fun _ h => h)).exact).mono (fun k _ h => .inl (inB_own h.2.1))
  obtain ⟨v2, w2, r2, q2, _⟩ := run_append_q (P := P) (w := w) t ty e i z size bytes ht hi hz hsize hby hzs hsz hq (fun k hk => .inr hk) a c news hl hnews h1 h63 hbytes
  rw [r1] at r2
  cases r2
  refine ⟨v', w', r1, o1, g1, fun k hk => ?_⟩
  obtain ⟨ao, b, off, cap, rfl, hc, hD⟩ := q2
  have hcp : 0 < cap := by have := hc.le; omega
  obtain rfl := hc.addr hcp
  cases hk
  exact hD hcp
theorem wp_append_ownq {P : Program} {w : World} {o : Oper} {a : Act} {K : Act → World → Prop} {Q : Exit → Act → World → Prop} (s x : Operand) (t : TypeId)
    (ho : o.op = .call { callee := .builtin .append, args := #[s, x], argTypes := #[t, t] })
    (base : Nat) (e : TypeId) (i : TypeInfo) (z : Value) (size bytes : Nat) (ht : P.underlying t = some (.slice e)) (hi : P.info? e = some i) (hz : i.zero = some z)
    (hsize : i.size = size) (hby : i.bytes = bytes) (hzs : z.cells.size = size) (hsz : 0 < size)
    (v : Value) (n : Nat) (xs : List Value) (hs : a.eval s = v) (hown : w.ownsRow base e size v n xs)
    (ad : Addr) (c : Nat) (news : List Value) (hx : a.eval x = .slice (some ad) 1 c) (hl : news.length = size) (hnews : ∀ j u, news[j]? = some u → w.cell? (ad.add j) = some u) (h1 : ∀ u ∈ news, u.oneCell' = true)
    (h63 : n + 1 ≤ maxLen) (hbytes : (n + 1) * bytes ≤ 140737488355328) (hbase : base ≤ w.heap.size)
    (h : ∀ v' w', w'.ownsRow base e size v' (n + 1) (xs ++ news) → w.grownBy w' v.ownBlock → (∀ k, v'.ownBlock = some k → v.ownBlock = some k ∨ w.heap.size ≤ k) → K (a.put o.dst v') w') : o.wp P a w K Q := by
  obtain ⟨v', w', hr, h2, h3, h4⟩ := run_append_ownq (P := P) (w := w) base t o.type e i z size bytes ht hi hz hsize hby hzs hsz v n xs hown ad c news hl hnews h1 h63 hbytes hbase
  unfold Oper.wp execOp
  simp only [ho, resolve, invoke, builtin, Sem.run_bind, Sem.run_pure, Result.andThen_ok, List.map_toArray, List.map_cons, List.map_nil, hs, hx, hr]
  exact h v' w' h2 h3 h4
end Go.Proofs.Ytmkkjjhlppagpaa
