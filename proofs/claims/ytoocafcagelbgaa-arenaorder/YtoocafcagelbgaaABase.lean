/- Arenas as they are read: slots, arenas; Live. -/
import Derived.Test.YtoocafcagelbgaaNTree
namespace Go.Proofs.Ytoocafcagelbgaa
open Go.RowKit

/-- A slot, as any arena has it. -/
structure Sl where
  nd : Nd
  kids : List Int
  refs : Int
  next : Int
structure Ar where
  slots : List Sl
  free : Int
  roots : List Int
def slV (s : Sl) (kv gv : Value) : Value := .agg #[.string s.nd.h.kind, .bool s.nd.h.named, .string s.nd.h.field, .int .i64 s.nd.h.frm, .int .i64 s.nd.h.til, .int .i64 s.nd.h.bad, kv, gv, .int .i64 s.refs, .int .i64 s.next]
/-- The ten cells of a slot. -/
def Row10 (b o : Nat) (s : Sl) (kv gv : Value) (W : World) : Prop :=
  Row7 b o s.nd.h kv W ∧ W.cell? ⟨b, o + 7, none⟩ = some gv ∧ W.cell? ⟨b, o + 8, none⟩ = some (.int .i64 s.refs) ∧ W.cell? ⟨b, o + 9, none⟩ = some (.int .i64 s.next)
theorem Row7.next {b o : Nat} {h : Hd} {kv : Value} {W W' : World} (k : Row7 b o h kv W) (hb : Below W.heap.size W W') (hl : b < W.heap.size) : Row7 b o h kv W' := k.but (D := fun _ => False) (But.of_next hb) hl (fun h => h)
theorem Row10.next {b o : Nat} {s : Sl} {kv gv : Value} {W W' : World} (k : Row10 b o s kv gv W) (hb : Below W.heap.size W W') (hl : b < W.heap.size) : Row10 b o s kv gv W' :=
  ⟨k.1.next hb hl, (hb.cell (p := ⟨b, o + 7, none⟩) hl).trans k.2.1, (hb.cell (p := ⟨b, o + 8, none⟩) hl).trans k.2.2.1, (hb.cell (p := ⟨b, o + 9, none⟩) hl).trans k.2.2.2⟩
def AnyB : Nat → Prop := fun _ => True
structure SlOk (s : Sl) : Prop where
  hd : HdOk s.nd.h
  refs : i64B s.refs
  next : i64B s.next
  kids : s.kids.length ≤ 140737488351232
def SlotsAt (l : List Sl) (ao : Option Addr) (W : World) : Prop :=
  ∀ (i : Nat) (s : Sl), l[i]? = some s → ∃ b off ka kc gv, ao = some ⟨b, off, none⟩ ∧ b < W.heap.size ∧ Row10 b (off + i * 10) s (.slice ka s.nd.kids.length kc) gv W ∧ (∃ n, TAt AnyB n s.nd (ndV s.nd.h (.slice ka s.nd.kids.length kc)) W) ∧ SlI s.kids gv W ∧ SlOk s
theorem SlotsAt.next {l : List Sl} {ao : Option Addr} {W W' : World} (h : SlotsAt l ao W) (hb : Below W.heap.size W W') : SlotsAt l ao W' := fun i s hs => by
  obtain ⟨b, off, ka, kc, gv, h0, h1, h2, ⟨n, h3⟩, h4, h5⟩ := h i s hs
  exact ⟨b, off, ka, kc, gv, h0, Nat.lt_of_lt_of_le h1 hb.size, h2.next hb h1, ⟨n, h3.next hb⟩, h4.next hb, h5⟩
theorem SlotsAt.at {l : List Sl} {ao : Option Addr} {w W : World} (h : SlotsAt l ao w) (hb : Below w.heap.size w W) {j : Nat} (hj : j < l.length) :
    ∃ b off ka kc gv, ao = some ⟨b, off, none⟩ ∧ b < W.heap.size ∧ Row10 b (off + j * 10) l[j] (.slice ka l[j].nd.kids.length kc) gv W ∧ (∃ n, TAt AnyB n l[j].nd (ndV l[j].nd.h (.slice ka l[j].nd.kids.length kc)) W) ∧ SlI l[j].kids gv W ∧ SlOk l[j] := h.next hb j l[j] (by simp [hj])
def SlS (l : List Sl) (v : Value) (W : World) : Prop :=
  ∃ ao cap, v = .slice ao l.length cap ∧ SlotsAt l ao W ∧ (ao = none → cap = 0) ∧ l.length ≤ cap ∧ l.length ≤ 140737488351232
theorem SlS.next {l : List Sl} {v : Value} {W W' : World} (h : SlS l v W) (hb : Below W.heap.size W W') : SlS l v W' := by
  obtain ⟨ao, cap, h0, h1, h2⟩ := h
  exact ⟨ao, cap, h0, h1.next hb, h2⟩
theorem SlS.nil (W : World) : SlS [] (.slice none 0 0) W := ⟨none, 0, rfl, fun i r hr => by simp at hr, fun _ => rfl, Nat.le_refl _, Nat.zero_le _⟩
/-- An arena as it is read. -/
def ArV (a : Ar) (v : Value) (W : World) : Prop :=
  ∃ sv rv, v = .agg #[sv, .int .i64 a.free, rv] ∧ SlS a.slots sv W ∧ SlI a.roots rv W ∧ i64B a.free ∧ a.roots.length ≤ 140737488351232
theorem ArV.next {a : Ar} {v : Value} {W W' : World} (h : ArV a v W) (hb : Below W.heap.size W W') : ArV a v W' := by
  obtain ⟨sv, rv, h0, h1, h2, h3⟩ := h
  exact ⟨sv, rv, h0, h1.next hb, h2.next hb, h3⟩
def box10 (W : World) (s : Sl) (kv gv : Value) : World :=
  W.alloc (Obj.cells #[.string s.nd.h.kind, .bool s.nd.h.named, .string s.nd.h.field, .int .i64 s.nd.h.frm, .int .i64 s.nd.h.til, .int .i64 s.nd.h.bad, kv, gv, .int .i64 s.refs, .int .i64 s.next] 60)
theorem below_box10 {w W : World} (h : Below w.heap.size w W) (s : Sl) (kv gv : Value) : Below w.heap.size w (box10 W s kv gv) := h.alloc h.size _
def liveN (l : List Sl) : Nat := l.countP (fun s => decide (0 < s.refs))
theorem liveN_take {l : List Sl} {j : Nat} (h : j < l.length) : liveN (l.take (j + 1)) = liveN (l.take j) + if 0 < l[j].refs then 1 else 0 := by
  unfold liveN
  rw [List.take_succ_eq_append_getElem h, List.countP_append]
  simp
theorem liveN_le (l : List Sl) (j : Nat) : liveN (l.take j) ≤ l.length := by
  unfold liveN
  exact Nat.le_trans List.countP_le_length (by simp; omega)

set_option maxRecDepth 100000 in
set_option maxHeartbeats 1600000 in
theorem live_any (a : Ar) (v : Value) (w : World) (h : ArV a v w) :
    Calls Try.prog 19 #[v] w fun e w' => e = .returned (.int .i64 (liveN a.slots)) ∧ Below w.heap.size w w' := by
  obtain ⟨sv, rv, rfl, ⟨ao, cap, rfl, hs, _, _, hlb⟩, _, _⟩ := h
  generalize a.slots = l at *
  generalize a.free = fr at *
  go_enter Try.func19, Try.ntmps19
  go_wp2_with fail
  have B0 : Below w.heap.size w (w.alloc (Obj.cells #[.slice ao l.length cap, .int .i64 fr, rv] 25)) := (Below.refl _ _).alloc (Nat.le_refl _) _
  generalize w.alloc (Obj.cells #[.slice ao l.length cap, .int .i64 fr, rv] 25) = w0 at *
  have hs0 := hs.next B0
  clear hs
  go_loopw [3, 9] (fun c iv wr => ∃ (j : Nat), iv = .int .i64 j ∧ c = .int .i64 (liveN (l.take j)) ∧ j ≤ l.length ∧ Below w0.heap.size w0 wr) (fun _ i _ => l.length - (intOf i).toNat)
  case atStart => exact ⟨0, rfl, rfl, Nat.zero_le _, Below.refl _ _⟩
  case round =>
  obtain ⟨j, rfl, rfl, hj, hB⟩ := hrel
  by_cases hlt : j < l.length
  case neg =>
    obtain rfl : j = l.length := by omega
    have HV : Hid (l.take l.length = l) := by show _ = _; simp
    clear hs0
    go_wp2_with fail
    go_ret
    exact ⟨by rw [HV.out]; rfl, below_next B0 hB⟩
  obtain ⟨b, off, ka, kc, gv, rfl, hb, ⟨⟨e0, e1, e2, e3, e4, e5, e6⟩, e7, e8, e9⟩, _, ⟨ga, gc, rfl, _⟩, _⟩ := hs0.at hB hlt
  have HN := liveN_take hlt
  have hle := liveN_le l j
  obtain ⟨k1, HK⟩ : ∃ k1, Hid (liveN (l.take (j + 1)) = k1) := ⟨_, rfl⟩
  rw [HK.out] at HN
  generalize liveN (l.take j) = k0 at *
  generalize l[j] = s at *
  obtain ⟨⟨⟨nk, nn, nf, nr, nt, nb⟩, nks⟩, ks, rf, nx⟩ := s
  simp only [Nd.h, Nd.kids] at *
  clear hs0
  by_cases hr : 0 < rf
  · have d1 : decide (rf > 0) = true := decide_eq_true hr
    rw [if_pos hr] at HN
    have HN : Hid (k1 = k0 + 1) := HN
    go_wp2_with fail
    exact ⟨⟨j + 1, by go_num, by rw [HK.out, HN.out]; go_num, by omega, hB.alloc hB.size _⟩, by simp [intOf]; omega⟩
  · have d1 : decide (rf > 0) = false := decide_eq_false hr
    rw [if_neg hr] at HN
    have HN : Hid (k1 = k0) := HN
    go_wp2_with fail
    exact ⟨⟨j + 1, by go_num, by rw [HK.out, HN.out], by omega, hB.alloc hB.size _⟩, by simp [intOf]; omega⟩
end Go.Proofs.Ytoocafcagelbgaa
