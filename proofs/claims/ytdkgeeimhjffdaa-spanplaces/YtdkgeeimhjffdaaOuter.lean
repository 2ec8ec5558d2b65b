/- Outer of the program: the place in the whole of a byte within ranges of the normal form. -/
import Derived.Test.YtdkgeeimhjffdaaParts
import Derived.WalkMore
namespace Go.Proofs.Ytdkgeeimhjffdaa
open Go.RowKit Go.Shelf
attribute [local go_sem] Oper.semAt_some

def outF : Int → List Rg → Int × Bool
  | _, [] => (0, false)
  | a, r :: t => if a < r.2 - r.1 then (r.1 + a, true) else outF (a - (r.2 - r.1)) t
def outN (a : Int) (es : List Rg) : Int × Bool := if a < 0 then (0, false) else outF a es

theorem ret_ib {a b : Int} {p q : Bool} (h : (a, p) = (b, q)) : Ending.returned (.tuple #[.int .i64 a, .bool p]) = .returned (.tuple #[.int .i64 b, .bool q]) := by cases h; rfl

/-- Outer's own variables, from block N on: at; the two results. -/
structure OuC (N : Nat) (x : Int) (v : Int) (b : Bool) (W : World) : Prop where
  a : W.heap[N]? = some (.cells #[.int .i64 x] 3 (0, 0))
  r : W.heap[N + 1]? = some (.cells #[.int .i64 v] 3 (0, 0))
  o : W.heap[N + 1 + 1]? = some (.cells #[.bool b] 4 (0, 0))
theorem OuC.kept {N : Nat} {x v : Int} {b : Bool} {W W' : World} {row : Option Nat} (h : OuC N x v b W) (hg : W.grownBy W' row) (hr : ∀ r, row = some r → ∃ o : Obj, W.heap[r]? = some o ∧ o.isCells = false) : OuC N x v b W' :=
  ⟨(grownBy_keeps_cells hg hr h.a rfl).trans h.a, (grownBy_keeps_cells hg hr h.r rfl).trans h.r, (grownBy_keeps_cells hg hr h.o rfl).trans h.o⟩
theorem OuC.alloc {N : Nat} {x v : Int} {b : Bool} {W : World} (h : OuC N x v b W) (o : Obj) : OuC N x v b (W.alloc o) := h.kept (World.grownBy_alloc W o none) (fun _ e => by cases e)
theorem OuC.cells {N : Nat} {x v : Int} {b : Bool} {W : World} (h : OuC N x v b W) : W.cell? ⟨N, 0, none⟩ = some (.int .i64 x) ∧ W.cell? ⟨N + 1, 0, none⟩ = some (.int .i64 v) ∧ W.cell? ⟨N + 1 + 1, 0, none⟩ = some (.bool b) ∧ W.frozen? ⟨N + 1, 0, none⟩ = false ∧ W.frozen? ⟨N + 1 + 1, 0, none⟩ = false :=
  ⟨by rw [cell_of_row W _ 0 _ _ _ h.a]; rfl, by rw [cell_of_row W _ 0 _ _ _ h.r]; rfl, by rw [cell_of_row W _ 0 _ _ _ h.o]; rfl, frozen_of_row W _ 0 _ _ h.r, frozen_of_row W _ 0 _ _ h.o⟩
theorem OuC.set {N : Nat} {x v : Int} {b : Bool} {W : World} (h : OuC N x v b W) (v' : Int) (b' : Bool) : OuC N x v' b' ((W.setCell ⟨N + 1, 0, none⟩ (.int .i64 v')).setCell ⟨N + 1 + 1, 0, none⟩ (.bool b')) := by
  refine ⟨?_, ?_, ?_⟩
  · exact ((Below.heap_setCell _ _ _ _ (by show N ≠ N + 1 + 1; omega)).trans (Below.heap_setCell _ _ _ _ (by show N ≠ N + 1; omega))).trans h.a
  · refine (Below.heap_setCell _ _ _ _ (by show N + 1 ≠ N + 1 + 1; omega)).trans ?_
    rw [heap_setCell_same _ _ 0 _ _ _ h.r]; rfl
  · rw [heap_setCell_same _ _ 0 _ _ _ ((Below.heap_setCell W ⟨N + 1, 0, none⟩ _ (N + 1 + 1) (by show N + 1 + 1 ≠ N + 1; omega)).trans h.o)]; rfl
theorem OuC.lt {N : Nat} {x v : Int} {b : Bool} {W : World} (h : OuC N x v b W) : N + 2 < W.heap.size := (Array.getElem?_eq_some_iff.1 h.o).1

theorem ou_start (w : World) (x : Int) (v : Value) {W0 : World} (hW0 : (((w.alloc (Obj.cells #[Value.int IntKind.i64 x] 3)).alloc (Obj.cells #[Value.int IntKind.i64 0] 3)).alloc (Obj.cells #[Value.bool false] 4)).alloc (Obj.cells #[v] 22) = W0) :
    Below w.heap.size w W0 ∧ W0.heap.size = w.heap.size + 4 ∧ W0.cell? ⟨w.heap.size + 1 + 1 + 1, 0, none⟩ = some v ∧ OuC w.heap.size x 0 false W0 := by
  subst hW0
  have hh : ((((w.alloc (Obj.cells #[Value.int IntKind.i64 x] 3)).alloc (Obj.cells #[Value.int IntKind.i64 0] 3)).alloc (Obj.cells #[Value.bool false] 4)).alloc (Obj.cells #[v] 22)).heap =
    (((w.heap.push (Obj.cells #[Value.int IntKind.i64 x] 3)).push (Obj.cells #[Value.int IntKind.i64 0] 3)).push (Obj.cells #[Value.bool false] 4)).push (Obj.cells #[v] 22) := rfl
  refine ⟨((((Below.refl _ _).alloc (Nat.le_refl _) _).alloc (by simp) _).alloc (by simp <;> omega) _).alloc (by simp <;> omega) _, by simp, ?_, ⟨?_, ?_, ?_⟩⟩
  · rw [cell_of_row _ _ 0 #[v] 22 (0, 0) (by rw [hh]; simp [Array.getElem_push])]; rfl
  all_goals
    rw [hh]
    simp [Array.getElem_push, Nat.add_assoc]

theorem partsL_ok {M : Int} : ∀ {es : List Rg} {T : Int}, Fit es → 0 ≤ T → T + sizeN es ≤ M → ∀ y ∈ partsL T es, 0 ≤ y.1 ∧ y.1 + (y.2.2 - y.2.1) ≤ M ∧ y.2 ∈ es
  | [], T, _, _, _, y, hy => by simp [partsL] at hy
  | r :: t, T, hf, hT, hM, y, hy => by
    have h0 := hf.1 r (by simp)
    have h1 := sizeN_nonneg hf.tail
    simp only [sizeN] at hM
    simp only [partsL] at hy
    rcases List.mem_cons.1 hy with rfl | hy
    · exact ⟨hT, by simp only; omega, by simp⟩
    · obtain ⟨k1, k2, k3⟩ := partsL_ok (M := M) (es := t) (T := T + (r.2 - r.1)) hf.tail (by omega) (by omega) y hy
      exact ⟨k1, k2, by simp [k3]⟩

theorem find_out (a : Int) : ∀ (es : List Rg) (T : Int), outF (a - T) es = match (partsL T es).find? (fun y => decide (a - y.1 < y.2.2 - y.2.1)) with
    | some y => (y.2.1 + (a - y.1), true)
    | none => (0, false)
  | [], T => rfl
  | r :: t, T => by
    simp only [outF, partsL]
    by_cases h : a - T < r.2 - r.1
    · rw [if_pos h, List.find?_cons_of_pos (by simpa using h)]
    · rw [if_neg h, List.find?_cons_of_neg (by simpa using h), ← find_out a t (T + (r.2 - r.1))]
      congr 1
      omega

theorem find_pre {α : Type} {l pre : List α} {y : α} {p : α → Bool} (h : pre ++ [y] <+: l) (hne : ∀ z ∈ pre, p z = false) (hy : p y = true) : l.find? p = some y := by
  obtain ⟨rest, rfl⟩ := h
  rw [List.append_assoc, List.find?_append, List.find?_eq_none.2 (fun z hz => by simp [hne z hz])]
  simp [hy]
theorem find_none {α : Type} {l : List α} {p : α → Bool} (hne : ∀ z ∈ l, p z = false) : l.find? p = none := List.find?_eq_none.2 (fun z hz => by simp [hne z hz])

def NoOut (x : Int) (pre : List Pt) : Prop := ∀ y ∈ pre, ¬ wrap64 (x - y.1) < wrap64 (y.2.2 - y.2.1)
def HitOut (x : Int) (pre : List Pt) (v : Int) : Prop := ∃ pre' y, pre = pre' ++ [y] ∧ NoOut x pre' ∧ wrap64 (x - y.1) < wrap64 (y.2.2 - y.2.1) ∧ v = wrap64 (y.2.1 + wrap64 (x - y.1))
theorem NoOut.snoc {x : Int} {pre : List Pt} {y : Pt} (h : NoOut x pre) (hy : ¬ wrap64 (x - y.1) < wrap64 (y.2.2 - y.2.1)) : NoOut x (pre ++ [y]) := fun z hz => by
  rcases List.mem_append.1 hz with k | k
  · exact h z k
  · simp at k; subst k; exact hy

theorem out_cond {es : List Rg} (hf : Fit es) (ho : ∀ r ∈ es, RgOk r) {x : Int} (hx0 : 0 ≤ x) (hx1 : x ≤ 9223372036854775807) {y : Pt} (hy : y ∈ partsL 0 es) :
    wrap64 (x - y.1) = x - y.1 ∧ wrap64 (y.2.2 - y.2.1) = y.2.2 - y.2.1 ∧ (x - y.1 < y.2.2 - y.2.1 → wrap64 (y.2.1 + (x - y.1)) = y.2.1 + (x - y.1)) := by
  obtain ⟨k1, k2, k3⟩ := partsL_ok (M := 9223372036854775807) hf (Int.le_refl _) (by have := sizeN_max hf ho; omega) y hy
  have h0 := hf.1 _ k3
  have h1 := ho _ k3
  unfold RgOk at h1
  exact ⟨IntWalk.wrap64_in _ (by omega), IntWalk.wrap64_in _ (by omega), fun h => IntWalk.wrap64_in _ (by omega)⟩

theorem out_none {es : List Rg} (hf : Fit es) (ho : ∀ r ∈ es, RgOk r) {x : Int} (hx0 : 0 ≤ x) (hx1 : x ≤ 9223372036854775807) (h : NoOut x (partsL 0 es)) : outF x es = (0, false) := by
  have := find_out x es 0
  rw [Int.sub_zero] at this
  rw [this, find_none]
  intro z hz
  have h1 := h z hz
  obtain ⟨e1, e2, _⟩ := out_cond hf ho hx0 hx1 hz
  rw [e1, e2] at h1
  simpa using h1
theorem out_some {es : List Rg} (hf : Fit es) (ho : ∀ r ∈ es, RgOk r) {x : Int} (hx0 : 0 ≤ x) (hx1 : x ≤ 9223372036854775807) {pre : List Pt} {v : Int} (hp : pre <+: partsL 0 es) (h : HitOut x pre v) : outF x es = (v, true) := by
  obtain ⟨pre', y, rfl, hn, hy, rfl⟩ := h
  have hsub : ∀ z ∈ pre' ++ [y], z ∈ partsL 0 es := fun z hz => hp.subset hz
  have hy2 := hsub y (by simp)
  obtain ⟨e1, e2, e3⟩ := out_cond hf ho hx0 hx1 hy2
  rw [e1, e2] at hy
  have := find_out x es 0
  rw [Int.sub_zero] at this
  rw [this, find_pre hp (fun z hz => ?_) (by simpa using hy)]
  · simp only [e1, e3 hy]
  · obtain ⟨f1, f2, _⟩ := out_cond hf ho hx0 hx1 (hsub z (by simp [hz]))
    have := hn z hz
    rw [f1, f2] at this
    simpa using this

set_option maxHeartbeats 400000 in
theorem outer_neg (ao : Option Addr) (n cap : Nat) (x : Int) (w : World) (hx : x < 0) :
    Calls Try.prog 21 #[.slice ao n cap, .int .i64 x] w fun e w' => e = .returned (.tuple #[.int .i64 0, .bool false]) ∧ Below w.heap.size w w' := by
  go_enter Try.func21, Try.ntmps21
  go_wp2
  refine bodyPost_ret (v := .tuple #[.int .i64 0, .bool false]) (by simp [results, Try.results21, go_sem]) rfl ⟨rfl, ?_⟩
  exact (((((Below.refl _ _).alloc (Nat.le_refl _) _).alloc (by simp) _).alloc (by simp <;> omega) _))

set_option maxRecDepth 100000 in
set_option maxHeartbeats 2000000 in
theorem outer_in (n : Nat) (hn : 3 ≤ n) (es : List Rg) (ao : Option Addr) (cap : Nat) (x : Int) (w : World) (hc : RgAt es ao w) (hf : Fit es) (ho : ∀ r ∈ es, RgOk r) (hl : es.length ≤ 1000000) (hx0 : 0 ≤ x) (hx1 : x ≤ 9223372036854775807) :
    CallsIn Fence.wide n Try.prog 21 #[.slice ao es.length cap, .int .i64 x] w fun e w' => e = .returned (.tuple #[.int .i64 (outF x es).1, .bool (outF x es).2]) ∧ Below w.heap.size w w' := by
  have h1 : 1 ≤ n := by omega
  have hd0 : decide (x < 0) = false := by simpa using hx0
  refine callsIn_of_wp_marks Try.func21 rfl trivial ?_ rfl
  simp only [Try.ntmps21, List.size_toArray, List.length_cons, List.length_nil, Nat.reduceAdd, Nat.reduceSub, Array.replicate_succ, Array.replicate_zero, List.push_toArray, List.append_toArray, List.nil_append, List.cons_append]
  gi_wp2_with fail
  refine ⟨trivial, ?_⟩
  refine (callsIn_wide.2 (parts_any _ _ _ _)).mono ?_
  rintro e w1 ⟨rfl, rfl⟩
  gi_wp2
  obtain ⟨W0, hW0⟩ : ∃ W0, (((w.alloc (Obj.cells #[Value.int IntKind.i64 x] 3)).alloc (Obj.cells #[Value.int IntKind.i64 0] 3)).alloc (Obj.cells #[Value.bool false] 4)).alloc (Obj.cells #[.slice ao es.length cap] 22) = W0 := ⟨_, rfl⟩
  obtain ⟨hB0, hsz, hcl, hC0⟩ := ou_start w x _ hW0
  rw [hW0]
  clear hW0
  refine wpIn_rangeFunc_ownH rfl h1 (gf := 41) (lb := #[.pointer (some ⟨w.heap.size + 1 + 1 + 1, 0, none⟩)]) rfl trivial (enters_of Try.func41 (by kernel_rfl) rfl)
    (parts_stops (n - 1) (by omega) w.heap.size (w.heap.size + 1 + 1 + 1) es ao cap hf ho hl W0 (fun i r hi => by obtain ⟨b, off, h, hlt, _⟩ := hc i r hi; exact ⟨b, off, h, hlt⟩) hcl (hc.next hB0))
    Kp29.trans (fun W l o o' hl h hc _ => Kp29.putObj (by omega) h hc o') (Below.refl _ _) (fun _ => rfl)
    (fun pre W => (NoOut x pre ∧ OuC w.heap.size x 0 false W) ∧ Below w.heap.size w W)
    (fun c pre W => (c = .ret ∧ ∃ v, HitOut x pre v ∧ OuC w.heap.size x v true W) ∧ Below w.heap.size w W)
    (OwnFrom.and (Own.from (fun s A B row hs hg hr => ⟨hs.1, hs.2.kept hg hr⟩) _) (ownFrom_below (Nat.le_refl _) (by omega)))
    (fun c => OwnFrom.and (Own.from (fun s A B row hs hg hr => by obtain ⟨h1, v, h2, h3⟩ := hs; exact ⟨h1, v, h2, h3.kept hg hr⟩) _) (ownFrom_below (Nat.le_refl _) (by omega)))
    ⟨⟨fun _ h => by simp at h, hC0⟩, hB0⟩
    (fun y a' W => ∃ Bx, (W.cell? ⟨Bx, 0, none⟩ = some (.int .i64 y.2.1) ∧ W.cell? ⟨Bx, 1, none⟩ = some (.int .i64 y.2.2)) ∧ a' = { tmps := #[.slice ao es.length cap, .int .i64 x, undef, .pointer (some ⟨w.heap.size, 0, none⟩), .pointer (some ⟨w.heap.size + 1, 0, none⟩), .pointer (some ⟨w.heap.size + 1 + 1, 0, none⟩), .int .i64 y.1, .pointer (some ⟨Bx, 0, none⟩), .int .i64 x, .bool false, .slice ao es.length cap, .func (.func 41) #[] #[.pointer (some ⟨w.heap.size + 1 + 1 + 1, 0, none⟩)], .int .i64 y.1, .agg #[.int .i64 y.2.1, .int .i64 y.2.2], undef, undef, undef, undef, undef, undef, undef, undef, undef, undef, undef, undef, undef, undef, undef], defers := [] })
    (fun y a' _ X Y row hs hg hr => by obtain ⟨Bx, ⟨h1, h2⟩, h4⟩ := hs; exact ⟨Bx, ⟨cell_kept h1 hg (fun r e => (hr r e).2), cell_kept h2 hg (fun r e => (hr r e).2)⟩, h4⟩)
    ?assign ?body ?done ?stop
  case assign =>
    rintro l pre y W K ⟨⟨hne, hP⟩, hB⟩ hK
    gi_wp2
    exact hK _ _ ((KeepsOthers.alloc _ _).from _) (Kp29.alloc hB.size _) ⟨⟨hne, hP.alloc _⟩, hB.alloc hB.size _⟩ ⟨W.heap.size, ⟨by go_simp, by go_simp⟩, rfl⟩
  case body =>
    rintro l pre y a' W hl' hr ⟨⟨hne, hP⟩, hB⟩ ⟨Bx, ⟨hb0, hb1⟩, rfl⟩ hlt
    have HP : Hid (OuC w.heap.size x 0 false W) := hP
    obtain ⟨c1, c2, c3, f1, f2⟩ := hP.cells
    have HN : Hid (NoOut x pre) := hne
    obtain ⟨d, hd'⟩ : ∃ d, wrap64 (x - y.1) = d := ⟨_, rfl⟩
    obtain ⟨e, he'⟩ : ∃ e, wrap64 (y.2.2 - y.2.1) = e := ⟨_, rfl⟩
    have HD : Hid (wrap64 (x - y.1) = d ∧ wrap64 (y.2.2 - y.2.1) = e) := ⟨hd', he'⟩
    have HB : Hid (Below w.heap.size w W) := hB
    clear hne hr hP hB
    by_cases hxy : d < e
    · gi_wp2
      refine ⟨((KeepsOthers.setCell _ _ _).trans (KeepsOthers.setCell _ _ _)).from _, ⟨rfl, _, ⟨pre, y, rfl, HN.out, by rw [HD.out.1, HD.out.2]; exact hxy, rfl⟩, ?_⟩, (HB.out.setCell (by simp) _).setCell (by simp; omega) _⟩
      rw [HD.out.1]
      exact HP.out.set _ _
    · gi_wp2
      exact ⟨KeepsFrom.refl _ _, Kp29.refl _ _, ⟨HN.out.snoc (by rw [HD.out.1, HD.out.2]; omega), HP.out⟩, HB.out⟩
  case done =>
    rintro D ys W hD rfl ⟨⟨hne, hP⟩, hB⟩ hK
    have HE : Hid (outF x es = (0, false)) := out_none hf ho hx0 hx1 hne
    obtain ⟨c1, c2, c3, f1, f2⟩ := hP.cells
    have hK2 : ((W.setCell ⟨w.heap.size + 1, 0, none⟩ (.int .i64 0)).setCell ⟨w.heap.size + 1 + 1, 0, none⟩ (.bool false)).heap[D]? = some (.deferred (some [])) := ((KeepsOthers.setCell _ _ _).trans (KeepsOthers.setCell _ _ _)).same D _ hK rfl
    have hP2 := hP.set 0 false
    have hB2 : Below w.heap.size w ((W.setCell ⟨w.heap.size + 1, 0, none⟩ (.int .i64 0)).setCell ⟨w.heap.size + 1 + 1, 0, none⟩ (.bool false)) := (hB.setCell (by simp) _).setCell (by simp; omega) _
    have HB : Hid (Below w.heap.size w W) := hB
    clear hne hP hB hc hf ho
    gi_wp2
    generalize (W.setCell ⟨w.heap.size + 1, 0, none⟩ (.int .i64 0)).setCell ⟨w.heap.size + 1 + 1, 0, none⟩ (.bool false) = W3 at *
    refine ⟨by simp, .inl ⟨_, _, rfl, run_takeDeferred hK2, ?_⟩⟩
    have g := hP2.kept (grownBy_putObj' W3 D (.deferred none)) (fun r e => by cases e; exact ⟨_, hK2, rfl⟩)
    obtain ⟨_, g0, g1, _, _⟩ := g.cells
    refine ⟨.tuple #[.int .i64 0, .bool false], ?_, by rw [HE.out], hB2.trans (belowK_b (w := w) (Nat.le_refl _) W3 D _ _ (by omega) hK2 rfl rfl)⟩
    simp [results, Try.f21, go_sem, g0, g1]
  case stop =>
    rintro D c pre W hD hpre ⟨⟨rfl, v, hv, hP⟩, hB⟩ hK
    have HE : Hid (outF x es = (v, true)) := out_some hf ho hx0 hx1 hpre hv
    gi_wp2
    refine ⟨by simp, .inl ⟨_, _, rfl, run_takeDeferred hK, ?_⟩⟩
    have g := hP.kept (grownBy_putObj' W D (.deferred none)) (fun r e => by cases e; exact ⟨_, hK, rfl⟩)
    obtain ⟨_, g0, g1, _, _⟩ := g.cells
    refine ⟨.tuple #[.int .i64 v, .bool true], ?_, by rw [HE.out], hB.trans (belowK_b (w := w) (Nat.le_refl _) W D _ _ (by omega) hK rfl rfl)⟩
    simp [results, Try.f21, go_sem, g0, g1]

/-- Outer, for every number. -/
theorem outer_any (es : List Rg) (ao : Option Addr) (cap : Nat) (x : Int) (w : World) (hc : RgAt es ao w) (hf : Fit es) (ho : ∀ r ∈ es, RgOk r) (hl : es.length ≤ 1000000) (hx1 : x ≤ 9223372036854775807) :
    Calls Try.prog 21 #[.slice ao es.length cap, .int .i64 x] w fun e w' => e = .returned (.tuple #[.int .i64 (outN x es).1, .bool (outN x es).2]) ∧ Below w.heap.size w w' := by
  by_cases hx : x < 0
  · rw [outN, if_pos hx]
    exact outer_neg ao es.length cap x w hx
  · rw [outN, if_neg hx]
    exact callsIn_wide.1 (outer_in 3 (Nat.le_refl _) es ao cap x w hc hf ho hl (by omega) hx1)
end Go.Proofs.Ytdkgeeimhjffdaa
