/- Arenas in memory of one's own. -/
import Derived.Test.YtoocafcagelbgaaMHeld
import Derived.Test.YtoocafcagelbgaaPRefs
import Derived.Laws.AppendOwnNone
namespace Go.Proofs.Ytoocafcagelbgaa
open Go.RowKit

def cells7 (h : Hd) (kv : Value) : List Value := [.string h.kind, .bool h.named, .string h.field, .int .i64 h.frm, .int .i64 h.til, .int .i64 h.bad, kv]
abbrev Sm := Sl × Value × Value
/-- The cells of a slot. -/
def encM (m : Sm) : List Value := [.string m.1.nd.h.kind, .bool m.1.nd.h.named, .string m.1.nd.h.field, .int .i64 m.1.nd.h.frm, .int .i64 m.1.nd.h.til, .int .i64 m.1.nd.h.bad, m.2.1, m.2.2, .int .i64 m.1.refs, .int .i64 m.1.next]
theorem encM_len (m : Sm) : (encM m).length = 10 := rfl
abbrev Sv := Sl × Value
def nilV : Value := .slice none 0 0
def asM (p : Sv) : Sm := (p.1, nilV, p.2)
def encS (p : Sv) : List Value := [.string p.1.nd.h.kind, .bool p.1.nd.h.named, .string p.1.nd.h.field, .int .i64 p.1.nd.h.frm, .int .i64 p.1.nd.h.til, .int .i64 p.1.nd.h.bad, .slice none 0 0, p.2, .int .i64 p.1.refs, .int .i64 p.1.next]
theorem encS_asM (p : Sv) : encM (asM p) = encS p := rfl
theorem encS_len (p : Sv) : (encS p).length = 10 := rfl
theorem flat_set {α : Type} {enc : α → List Value} {c : Nat} (hc : ∀ x, (enc x).length = c) {k : Nat} {u : Value} (hk : k < c) {y : α} : ∀ {l : List α} {i : Nat} {x : α}, l[i]? = some x → enc y = (enc x).set k u → (l.flatMap enc).set (i * c + k) u = (l.set i y).flatMap enc
  | [], i, x, h, _ => by simp at h
  | z :: l, 0, x, h, he => by
    simp at h; subst h
    rw [List.flatMap_cons, Nat.zero_mul, Nat.zero_add, List.set_append_left _ _ (by rw [hc]; exact hk), List.set_cons_zero, List.flatMap_cons, he]
  | z :: l, i + 1, x, h, he => by
    rw [List.flatMap_cons, List.set_append_right _ _ (by rw [hc, Nat.succ_mul]; omega), hc, show (i + 1) * c + k - c = i * c + k by rw [Nat.succ_mul]; omega, List.set_cons_succ, List.flatMap_cons]
    rw [flat_set hc hk (l := l) (i := i) (by simpa using h) he]
structure okS (s : Sl) : Prop where
  leaf : s.nd.kids = []
  ok : SlOk s
  kl : s.kids.length ≤ 1000000
  ki : ∀ y ∈ s.kids, i64B y
/-- Slots of one's own. -/
structure OwnS (B : Nat) (L : List Sv) (v : Value) (W : World) : Prop where
  row : W.ownsRow B 60 10 v L.length (L.flatMap encS)
  kids : ∀ p ∈ L, OwnI B p.1.kids p.2 W
  ok : ∀ p ∈ L, okS p.1
theorem OwnS.keep {B : Nat} {L : List Sv} {v : Value} {W W' : World} {D : Nat → Prop} (h : OwnS B L v W) (hb : But D W W') (hd : ∀ k, D k → k < B) : OwnS B L v W' :=
  ⟨ownsRow_keep h.row hb (fun j hj hD => by have := (World.ownsRow.lt h.row j hj).1; have := hd j hD; omega), fun p hp => ownsRow_keep (h.kids p hp) hb (fun j hj hD => by have := (World.ownsRow.lt (h.kids p hp) j hj).1; have := hd j hD; omega), h.ok⟩
theorem OwnS.next {B : Nat} {L : List Sv} {v : Value} {W W' : World} (h : OwnS B L v W) (hb : Below W.heap.size W W') : OwnS B L v W' := h.keep (D := fun _ => False) (But.of_next hb) (fun _ h => h.elim)
theorem own_mono {W : World} {B B' n k : Nat} {e : TypeId} {v : Value} {xs : List Value} (h : W.ownsRow B e k v n xs) (hb : B' ≤ B) : W.ownsRow B' e k v n xs := by
  refine ⟨h.1, ?_⟩
  rcases h.2 with h2 | ⟨g, cap, cur, hv, hB, rest⟩
  · exact .inl h2
  · exact .inr ⟨g, cap, cur, hv, Nat.le_trans hb hB, rest⟩
theorem OwnS.mono {B B' : Nat} {L : List Sv} {v : Value} {W : World} (h : OwnS B L v W) (hb : B' ≤ B) : OwnS B' L v W := ⟨own_mono h.row hb, fun p hp => own_mono (h.kids p hp) hb, h.ok⟩
theorem leaf_eta {W : World} {t : Nd} (h : t.kids = []) : TAt AnyB 1 t (ndV t.h (.slice none 0 0)) W ↔ HdOk t.h := by
  constructor
  · rintro ⟨ba, bc, _, h1, _⟩; exact h1
  · intro h1
    refine ⟨none, 0, by rw [h]; rfl, h1, fun _ => rfl, by rw [h]; simp, by rw [h]; simp, fun i t' ht => by rw [h] at ht; simp at ht⟩
/-- As slots that are read. -/
theorem OwnS.sl {B : Nat} {L : List Sv} {v : Value} {W : World} (h : OwnS B L v W) (hlen : L.length ≤ 1000000) : SlS (L.map Prod.fst) v W := by
  rcases Nat.eq_zero_or_pos L.length with h0 | h0
  · have hL : L = [] := List.eq_nil_of_length_eq_zero h0
    subst hL
    rcases h.row.2 with ⟨rfl, _⟩ | ⟨g, cap, cur, rfl, hB, hg, hle, _⟩
    · exact SlS.nil W
    · exact ⟨_, cap, rfl, fun i x hx => by simp at hx, fun e => (by cases e), by simp, by simp⟩
  · obtain ⟨g, cap, rfl, hg, hle, hc⟩ := own_cells encS_len h.row h0
    refine ⟨some ⟨g, 0, none⟩, cap, by simp, fun i x hx => ?_, fun e => (by cases e), by simpa using hle, by simp; omega⟩
    rw [List.getElem?_map] at hx
    obtain ⟨p, hp, rfl⟩ := Option.map_eq_some_iff.1 hx
    have hm := List.mem_of_getElem? hp
    have hok := h.ok p hm
    have c := fun j hj u hu => hc i j p u hp hj hu
    refine ⟨g, 0, none, 0, p.2, rfl, hg, ⟨⟨?_, ?_, ?_, ?_, ?_, ?_, ?_⟩, ?_, ?_, ?_⟩, ⟨1, ?_⟩, sli_own (h.kids p hm) hok.ki, hok.ok⟩
    · simpa using c 0 (by omega) _ rfl
    · simpa using c 1 (by omega) _ rfl
    · simpa using c 2 (by omega) _ rfl
    · simpa using c 3 (by omega) _ rfl
    · simpa using c 4 (by omega) _ rfl
    · simpa using c 5 (by omega) _ rfl
    · rw [hok.leaf]; simpa using c 6 (by omega) _ rfl
    · simpa using c 7 (by omega) _ rfl
    · simpa using c 8 (by omega) _ rfl
    · simpa using c 9 (by omega) _ rfl
    · rw [hok.leaf]; exact (leaf_eta hok.leaf).2 hok.ok.hd
theorem infoSl : (Try.prog.info? 60).map (fun i => (i.zero, i.size, i.bytes)) = some (some (.agg #[.string ⟨#[]⟩, .bool false, .string ⟨#[]⟩, .int .i64 0, .int .i64 0, .int .i64 0, .slice none 0 0, .slice none 0 0, .int .i64 0, .int .i64 0]), 10, 128) := by kernel_rfl
/-- Slots as they lie, as cells. -/
theorem slots_cells (b : Nat) (W : World) : ∀ (l : List Sl) (off : Nat), (∀ (i : Nat) (s : Sl), l[i]? = some s → ∃ kv gv, (∃ ka kc, kv = .slice ka s.nd.kids.length kc) ∧ Row10 b (off + i * 10) s kv gv W ∧ SlI s.kids gv W) → ∃ M : List Sm, M.map (·.1) = l ∧ (∀ (j : Nat) (u : Value), (M.flatMap encM)[j]? = some u → W.cell? ⟨b, off + j, none⟩ = some u) ∧ ∀ m ∈ M, (∃ ka kc, m.2.1 = .slice ka m.1.nd.kids.length kc) ∧ SlI m.1.kids m.2.2 W
  | [], off, _ => ⟨[], rfl, fun j u h => by simp at h, fun p h => (by cases h)⟩
  | x :: l, off, h => by
    obtain ⟨kv, gv, hk0, ⟨⟨h0, h1, h2, h3, h4, h5, h6⟩, h7, h8, h9⟩, hs0⟩ := h 0 x rfl
    obtain ⟨M, e, hc, hs⟩ := slots_cells b W l (off + 10) (fun i y hy => by
      obtain ⟨kv, gv, hk, hr, hg⟩ := h (i + 1) y (by simpa using hy)
      refine ⟨kv, gv, hk, ?_, hg⟩
      rw [show off + 10 + i * 10 = off + (i + 1) * 10 by omega]; exact hr)
    refine ⟨(x, kv, gv) :: M, by simp [e], fun j u hu => ?_, fun m hm => ?_⟩
    · rw [List.flatMap_cons] at hu
      rcases Nat.lt_or_ge j 10 with hj | hj
      · rw [List.getElem?_append_left (by rw [encM_len]; exact hj)] at hu
        match j, hj with
        | 0, _ => simp [encM] at hu; subst hu; simpa using h0
        | 1, _ => simp [encM] at hu; subst hu; simpa using h1
        | 2, _ => simp [encM] at hu; subst hu; simpa using h2
        | 3, _ => simp [encM] at hu; subst hu; simpa using h3
        | 4, _ => simp [encM] at hu; subst hu; simpa using h4
        | 5, _ => simp [encM] at hu; subst hu; simpa using h5
        | 6, _ => simp [encM] at hu; subst hu; simpa using h6
        | 7, _ => simp [encM] at hu; subst hu; simpa using h7
        | 8, _ => simp [encM] at hu; subst hu; simpa using h8
        | 9, _ => simp [encM] at hu; subst hu; simpa using h9
      · rw [List.getElem?_append_right (by rw [encM_len]; exact hj), encM_len] at hu
        have := hc (j - 10) u hu
        rw [show off + 10 + (j - 10) = off + j by omega] at this
        exact this
    · rcases List.mem_cons.1 hm with rfl | hm
      · exact ⟨hk0, hs0⟩
      · exact hs m hm
theorem one_encM (M : List Sm) (h : ∀ m ∈ M, (∃ a n c, m.2.1 = .slice a n c) ∧ (∃ a n c, m.2.2 = .slice a n c)) : ∀ u ∈ M.flatMap encM, u.oneCell' = true := by
  intro u hu
  obtain ⟨m, hm, hu⟩ := List.mem_flatMap.1 hu
  obtain ⟨⟨a, n, c, h1⟩, ⟨a', n', c', h2⟩⟩ := h m hm
  simp only [encM, List.mem_cons, List.not_mem_nil, or_false] at hu
  rw [h1, h2] at hu
  rcases hu with rfl | rfl | rfl | rfl | rfl | rfl | rfl | rfl | rfl | rfl <;> rfl
end Go.Proofs.Ytoocafcagelbgaa
