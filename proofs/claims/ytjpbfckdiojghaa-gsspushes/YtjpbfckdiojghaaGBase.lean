/- Stacks: what lies where; small functions of the document. -/
import Derived.Test.YtjpbfckdiojghaaMine
namespace Go.Proofs.Ytjpbfckdiojghaa
open Go.RowKit

structure Gn where
  st : Int
  pl : Int
  links : List Int
deriving DecidableEq
def GnsAt (l : List Gn) (ao : Option Addr) (W : World) : Prop :=
  ∀ (i : Nat) (x : Gn), l[i]? = some x → ∃ b off v, ao = some ⟨b, off, none⟩ ∧ b < W.heap.size ∧ W.cell? ⟨b, off + i * 3, none⟩ = some (.int .i64 x.st) ∧ W.cell? ⟨b, off + i * 3 + 1, none⟩ = some (.int .i64 x.pl) ∧ W.cell? ⟨b, off + i * 3 + 2, none⟩ = some v ∧ SlI x.links v W ∧ i64B x.st ∧ i64B x.pl ∧ x.links.length ≤ 140737488351232
theorem GnsAt.next {l : List Gn} {ao : Option Addr} {W W' : World} (h : GnsAt l ao W) (hb : Below W.heap.size W W') : GnsAt l ao W' := fun i r hr => by
  obtain ⟨b, off, v, h0, h1, h2, h3, h4, h5, h6⟩ := h i r hr
  exact ⟨b, off, v, h0, Nat.lt_of_lt_of_le h1 hb.size, (hb.cell (p := ⟨b, off + i * 3, none⟩) h1).trans h2, (hb.cell (p := ⟨b, off + i * 3 + 1, none⟩) h1).trans h3, (hb.cell (p := ⟨b, off + i * 3 + 2, none⟩) h1).trans h4, h5.next hb, h6⟩
theorem GnsAt.at {l : List Gn} {ao : Option Addr} {w W : World} (h : GnsAt l ao w) (hb : Below w.heap.size w W) {j : Nat} (hj : j < l.length) :
    ∃ b off v, ao = some ⟨b, off, none⟩ ∧ b < W.heap.size ∧ W.cell? ⟨b, off + j * 3, none⟩ = some (.int .i64 l[j].st) ∧ W.cell? ⟨b, off + j * 3 + 1, none⟩ = some (.int .i64 l[j].pl) ∧ W.cell? ⟨b, off + j * 3 + 2, none⟩ = some v ∧ SlI l[j].links v W ∧ i64B l[j].st ∧ i64B l[j].pl ∧ l[j].links.length ≤ 140737488351232 := h.next hb j l[j] (by simp [hj])
def SlN (l : List Gn) (v : Value) (W : World) : Prop :=
  ∃ ao cap, v = .slice ao l.length cap ∧ GnsAt l ao W ∧ (ao = none → cap = 0) ∧ l.length ≤ cap ∧ l.length ≤ 140737488351232
theorem SlN.next {l : List Gn} {v : Value} {W W' : World} (h : SlN l v W) (hb : Below W.heap.size W W') : SlN l v W' := by
  obtain ⟨ao, cap, h0, h1, h2⟩ := h
  exact ⟨ao, cap, h0, h1.next hb, h2⟩
theorem SlN.nil (W : World) : SlN [] (.slice none 0 0) W := ⟨none, 0, rfl, fun i r hr => by simp at hr, fun _ => rfl, Nat.le_refl _, Nat.zero_le _⟩

def numB (n : Int) : Bool := decide (0 ≤ n ∧ n ≤ 65535)
def befB (a b : Gn) : Bool := decide (a.pl < b.pl ∨ a.pl = b.pl ∧ a.st < b.st)
def findN (s t : Int) : List Gn → Nat → Int
  | [], _ => -1
  | x :: l, k => if x.st = s ∧ x.pl = t then k else findN s t l (k + 1)
def topN (t : Int) : List Gn → Nat → List Int
  | [], _ => []
  | x :: l, k => (if x.pl = t then [(k : Int)] else []) ++ topN t l (k + 1)

set_option maxRecDepth 100000 in
set_option maxHeartbeats 800000 in
theorem gnum_any (n : Int) (w : World) : Calls Try.prog 13 #[.int .i64 n] w fun e w' => e = .returned (.bool (numB n)) ∧ w' = w := by
  by_cases h1 : n ≥ 0
  · have d1 : decide (n ≥ 0) = true := decide_eq_true h1
    have HV : Hid (numB n = decide (n ≤ 65535)) := by show _ = _; unfold numB; simp; omega
    go_enter Try.func13, Try.ntmps13
    go_wp2_with fail
    go_ret
    exact ⟨by rw [HV.out]; rfl, rfl⟩
  · have d1 : decide (n ≥ 0) = false := decide_eq_false h1
    have HV : Hid (numB n = false) := by show _ = _; unfold numB; simp; omega
    go_enter Try.func13, Try.ntmps13
    go_wp2_with fail
    go_ret
    exact ⟨by rw [HV.out]; rfl, rfl⟩

set_option maxRecDepth 100000 in
set_option maxHeartbeats 800000 in
theorem gbefore_any (a b : Gn) (u v : Value) (w : World) : Calls Try.prog 14 #[.agg #[.int .i64 a.st, .int .i64 a.pl, u], .agg #[.int .i64 b.st, .int .i64 b.pl, v]] w fun e w' => e = .returned (.bool (befB a b)) ∧ Below w.heap.size w w' := by
  obtain ⟨as_, ap, al⟩ := a
  obtain ⟨bs, bp, bl⟩ := b
  simp only at *
  have B0 : Below w.heap.size w ((w.alloc (Obj.cells #[.int .i64 as_, .int .i64 ap, u] 35)).alloc (Obj.cells #[.int .i64 bs, .int .i64 bp, v] 35)) := ((Below.refl _ _).alloc (Nat.le_refl _) _).alloc (by simp) _
  by_cases h1 : ap < bp
  · have d1 : decide (ap < bp) = true := decide_eq_true h1
    have HV : Hid (befB ⟨as_, ap, al⟩ ⟨bs, bp, bl⟩ = true) := by show _ = _; unfold befB; simp; omega
    go_enter Try.func14, Try.ntmps14
    go_wp2_with fail
    go_ret
    exact ⟨by rw [HV.out]; rfl, B0⟩
  · have d1 : decide (ap < bp) = false := decide_eq_false h1
    by_cases h2 : ap = bp
    · subst h2
      have d2 : (ap == ap) = true := by simp
      have HV : Hid (befB ⟨as_, ap, al⟩ ⟨bs, ap, bl⟩ = decide (as_ < bs)) := by show _ = _; unfold befB; simp
      go_enter Try.func14, Try.ntmps14
      go_wp2_with fail
      go_ret
      exact ⟨by rw [HV.out]; rfl, B0⟩
    · have d2 : (ap == bp) = false := by simpa using h2
      have HV : Hid (befB ⟨as_, ap, al⟩ ⟨bs, bp, bl⟩ = false) := by show _ = _; unfold befB; simp; omega
      go_enter Try.func14, Try.ntmps14
      go_wp2_with fail
      go_ret
      exact ⟨by rw [HV.out]; rfl, B0⟩

set_option maxRecDepth 100000 in
set_option maxHeartbeats 800000 in
theorem gfind_any (l : List Gn) (v : Value) (s t : Int) (w : World) (hl : SlN l v w) :
    Calls Try.prog 27 #[.agg #[v], .int .i64 s, .int .i64 t] w fun e w' => e = .returned (.int .i64 (findN s t l 0)) ∧ Below w.heap.size w w' := by
  have HL : Hid (∀ W, Below w.heap.size w W → SlN l v W) := fun W hb => hl.next hb
  obtain ⟨la, lc, rfl, _, _, _, hlb⟩ := hl
  have B0 := below_box w (.slice la l.length lc) 24
  have c0 : (w.alloc (Obj.cells #[.slice la l.length lc] 24)).cell? ⟨w.heap.size, 0, none⟩ = some (.slice la l.length lc) := by simp
  go_enter Try.func27, Try.ntmps27
  go_wp2_with fail
  generalize w.alloc (Obj.cells #[.slice la l.length lc] 24) = w0 at *
  go_loopw [7] (fun iv wr => ∃ (j : Nat), iv = .int .i64 j ∧ j ≤ l.length ∧ findN s t l 0 = findN s t (l.drop j) j ∧ wr = w0) (fun i _ => l.length - (intOf i).toNat)
  case atStart => exact ⟨0, rfl, Nat.zero_le _, by simp, rfl⟩
  case round =>
  obtain ⟨j, rfl, hj, hF, rfl⟩ := hrel
  by_cases hlt : j < l.length
  case neg =>
    obtain rfl : j = l.length := by omega
    have HV : Hid (findN s t l 0 = -1) := by show _ = _; rw [hF, List.drop_of_length_le (Nat.le_refl _)]; rfl
    clear HL hF
    go_wp2_with fail
    go_ret
    exact ⟨by rw [HV.out]; rfl, B0⟩
  obtain ⟨_, _, e0, hal, _⟩ := HL.out _ B0
  cases e0
  obtain ⟨b2, o2, u, rfl, hb2, q0, q1, q2, _⟩ := hal.at (Below.refl _ _) hlt
  rw [List.drop_eq_getElem_cons hlt] at hF
  generalize l[j] = x at *
  have HF : Hid (findN s t l 0 = if x.st = s ∧ x.pl = t then (j : Int) else findN s t (l.drop (j + 1)) (j + 1)) := hF
  clear hF hal HL
  by_cases h1 : x.st = s
  · have d1 : (x.st == s) = true := by simpa using h1
    by_cases h2 : x.pl = t
    · have d2 : (x.pl == t) = true := by simpa using h2
      have HV : Hid (findN s t l 0 = (j : Int)) := by show _ = _; rw [HF.out, if_pos ⟨h1, h2⟩]
      clear HF h1 h2
      go_wp2_with fail
      go_ret
      exact ⟨by rw [HV.out]; rfl, B0⟩
    · have d2 : (x.pl == t) = false := by simpa using h2
      have HV : Hid (findN s t l 0 = findN s t (l.drop (j + 1)) (j + 1)) := by show _ = _; rw [HF.out, if_neg (fun h => h2 h.2)]
      clear HF h1 h2
      go_wp2_with fail
      exact ⟨⟨j + 1, by go_num, by omega, HV.out, trivial⟩, by simp [intOf]; omega⟩
  · have d1 : (x.st == s) = false := by simpa using h1
    have HV : Hid (findN s t l 0 = findN s t (l.drop (j + 1)) (j + 1)) := by show _ = _; rw [HF.out, if_neg (fun h => h1 h.1)]
    clear HF h1
    go_wp2_with fail
    exact ⟨⟨j + 1, by go_num, by omega, HV.out, trivial⟩, by simp [intOf]; omega⟩
end Go.Proofs.Ytjpbfckdiojghaa
