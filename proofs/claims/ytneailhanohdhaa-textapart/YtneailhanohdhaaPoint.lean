/- PointAt of the program: the point of a byte, for every text of at most 140737488351232 bytes and every number. -/
import Derived.Test.YtneailhanohdhaaIter
import Derived.WalkMore
namespace Go.Proofs.Ytneailhanohdhaa
open Go.RowKit Go.Shelf
attribute [local go_sem] Oper.semAt_some

set_option maxHeartbeats 400000 in
theorem point_out (s : ByteArray) (x : Int) (w : World) (hx : x < 0 ∨ (s.size : Int) < x) :
    Calls Try.prog 9 #[.string s, .int .i64 x] w fun e w' => e = .returned (.tuple #[.agg #[.int .i64 0, .int .i64 0], .int .i64 13]) ∧ Below w.heap.size w w' := by
  have hc : (x < 0 ∧ decide (x < 0) = true) ∨ (¬ x < 0 ∧ (s.size : Int) < x ∧ decide (x < 0) = false) := by
    by_cases h : x < 0
    · exact .inl ⟨h, by simpa using h⟩
    · exact .inr ⟨h, by omega, by simpa using h⟩
  clear hx
  rcases hc with ⟨h1, hd⟩ | ⟨h1, h2, hd⟩
  all_goals
    go_enter Try.func9, Try.ntmps9
    go_wp2
    refine wp_scope_straight ?_
    go_wp2
    go_region
    go_wp2
    rw [Exit.noGoto_ret]
    refine bodyPost_ret (v := .tuple #[.agg #[.int .i64 0, .int .i64 0], .int .i64 13]) (by simp [results, Try.results9, go_sem]) rfl ⟨rfl, ?_⟩
    exact (((((Below.refl _ _).alloc (Nat.le_refl _) _).alloc (by simp) _).alloc (by simp <;> omega) _).alloc (by simp <;> omega) _).drew

/-- The cells of PointAt's own variables, from block N on: at; the result's place; p; err. -/
structure PtCells (N : Nat) (x p0 p1 er : Value) (W : World) : Prop where
  a : W.cell? ⟨N, 0, none⟩ = some x
  r0 : W.cell? ⟨N + 1, 0, none⟩ = some (.int .i64 0)
  r1 : W.cell? ⟨N + 1, 1, none⟩ = some (.int .i64 0)
  fr0 : W.frozen? ⟨N + 1, 0, none⟩ = false
  fr1 : W.frozen? ⟨N + 1, 1, none⟩ = false
  q0 : W.cell? ⟨N + 1 + 1, 0, none⟩ = some p0
  q1 : W.cell? ⟨N + 1 + 1, 1, none⟩ = some p1
  fq0 : W.frozen? ⟨N + 1 + 1, 0, none⟩ = false
  fq1 : W.frozen? ⟨N + 1 + 1, 1, none⟩ = false
  e : W.cell? ⟨N + 1 + 1 + 1, 0, none⟩ = some er
  fe : W.frozen? ⟨N + 1 + 1 + 1, 0, none⟩ = false

theorem PtCells.kept {N : Nat} {x p0 p1 er : Value} {W W' : World} {row : Option Nat} (h : PtCells N x p0 p1 er W) (hg : W.grownBy W' row) (hr : ∀ r, row = some r → ∃ o : Obj, W.heap[r]? = some o ∧ o.isCells = false) : PtCells N x p0 p1 er W' :=
  ⟨cell_kept h.a hg hr, cell_kept h.r0 hg hr, cell_kept h.r1 hg hr, (frozen_kept h.r0 hg hr).trans h.fr0, (frozen_kept h.r1 hg hr).trans h.fr1, cell_kept h.q0 hg hr, cell_kept h.q1 hg hr, (frozen_kept h.q0 hg hr).trans h.fq0, (frozen_kept h.q1 hg hr).trans h.fq1, cell_kept h.e hg hr, (frozen_kept h.e hg hr).trans h.fe⟩
theorem PtCells.alloc {N : Nat} {x p0 p1 er : Value} {W : World} (h : PtCells N x p0 p1 er W) (o : Obj) : PtCells N x p0 p1 er (W.alloc o) := h.kept (World.grownBy_alloc W o none) (fun _ e => by cases e)
theorem KpS.alloc (Bs : Nat) (W : World) (o : Obj) : KpS Bs W (W.alloc o) := fun _ hv => cell_kept hv (World.grownBy_alloc W o none) (fun _ e => by cases e)
theorem KpS.refl (Bs : Nat) (W : World) : KpS Bs W W := fun _ hv => hv

set_option maxRecDepth 100000 in
set_option maxHeartbeats 2000000 in
theorem point_in (n : Nat) (hn : 3 ≤ n) (s : ByteArray) (x : Nat) (w : World) (hs : s.size ≤ 140737488351232) (hx : x ≤ s.size) :
    CallsIn Fence.wide n Try.prog 9 #[.string s, .int .i64 x] w fun e w' => e = .returned (.tuple #[.agg #[.int .i64 (ptFrom (s.data.toList.take x) 0 0).1, .int .i64 (ptFrom (s.data.toList.take x) 0 0).2], .int .i64 0]) ∧ Below w.heap.size w w' := by
  have h1 : 1 ≤ n := by omega
  have hd : decide ((x : Int) < 0) = false := by rw [decide_eq_false_iff_not]; omega
  refine callsIn_of_wp_marks Try.func9 rfl trivial ?_ rfl
  simp only [Try.ntmps9, List.size_toArray, List.length_cons, List.length_nil, Nat.reduceAdd, Nat.reduceSub, Array.replicate_succ, Array.replicate_zero, List.push_toArray, List.append_toArray, List.nil_append, List.cons_append]
  gi_wp2
  refine wpIn_scope_wide ?_
  gi_wp2
  refine wpIn_label ?_
  gi_wp2_with fail
  refine ⟨trivial, ?_⟩
  refine (callsIn_wide.2 (rows_any _ _)).mono ?_
  rintro e w1 ⟨rfl, rfl⟩
  gi_wp2
  have hP0 : PtCells w.heap.size (.int .i64 x) (.int .i64 0) (.int .i64 0) (.int .i64 13) (((((w.alloc (Obj.cells #[Value.int IntKind.i64 ↑x] 3)).alloc (Obj.cells #[Value.int IntKind.i64 0, Value.int IntKind.i64 0] 23)).alloc (Obj.cells #[Value.int IntKind.i64 0, Value.int IntKind.i64 0] 23)).alloc (Obj.cells #[Value.int IntKind.i64 13] 24)).alloc (Obj.cells #[Value.string s] 9)) := by
    constructor <;> go_simp
  have hS0 : (((((w.alloc (Obj.cells #[Value.int IntKind.i64 ↑x] 3)).alloc (Obj.cells #[Value.int IntKind.i64 0, Value.int IntKind.i64 0] 23)).alloc (Obj.cells #[Value.int IntKind.i64 0, Value.int IntKind.i64 0] 23)).alloc (Obj.cells #[Value.int IntKind.i64 13] 24)).alloc (Obj.cells #[Value.string s] 9)).cell? ⟨w.heap.size + 1 + 1 + 1 + 1, 0, none⟩ = some (.string s) := by go_simp
  have hB0 : Below w.heap.size w (((((w.alloc (Obj.cells #[Value.int IntKind.i64 ↑x] 3)).alloc (Obj.cells #[Value.int IntKind.i64 0, Value.int IntKind.i64 0] 23)).alloc (Obj.cells #[Value.int IntKind.i64 0, Value.int IntKind.i64 0] 23)).alloc (Obj.cells #[Value.int IntKind.i64 13] 24)).alloc (Obj.cells #[Value.string s] 9)) := (((((Below.refl _ _).alloc (Nat.le_refl _) _).alloc (by simp) _).alloc (by simp <;> omega) _).alloc (by simp <;> omega) _).alloc (by simp <;> omega) _
  have hsz : (((((w.alloc (Obj.cells #[Value.int IntKind.i64 ↑x] 3)).alloc (Obj.cells #[Value.int IntKind.i64 0, Value.int IntKind.i64 0] 23)).alloc (Obj.cells #[Value.int IntKind.i64 0, Value.int IntKind.i64 0] 23)).alloc (Obj.cells #[Value.int IntKind.i64 13] 24)).alloc (Obj.cells #[Value.string s] 9)).heap.size = w.heap.size + 5 := by simp
  obtain ⟨W0, hW0⟩ : ∃ W0, (((((w.alloc (Obj.cells #[Value.int IntKind.i64 ↑x] 3)).alloc (Obj.cells #[Value.int IntKind.i64 0, Value.int IntKind.i64 0] 23)).alloc (Obj.cells #[Value.int IntKind.i64 0, Value.int IntKind.i64 0] 23)).alloc (Obj.cells #[Value.int IntKind.i64 13] 24)).alloc (Obj.cells #[Value.string s] 9)) = W0 := ⟨_, rfl⟩
  rw [hW0] at hP0 hS0 hB0 hsz ⊢
  clear hW0
  refine wpIn_rangeFunc_ownH rfl h1 (gf := 29) (lb := #[.pointer (some ⟨w.heap.size + 1 + 1 + 1 + 1, 0, none⟩)]) rfl trivial (enters_of Try.func29 (by kernel_rfl) rfl)
    (rows_stops (n - 1) (by omega) (w.heap.size + 1 + 1 + 1 + 1) s hs W0 (by omega) hS0) kpS_t (fun W l o o' _ h hc _ => kpS_b W l o o' h hc) (Below.refl _ _) (fun _ => rfl)
    (fun pre W => ((∀ y ∈ pre, ¬ x ≤ y.to) ∧ PtCells w.heap.size (.int .i64 x) (.int .i64 0) (.int .i64 0) (.int .i64 13) W) ∧ Below w.heap.size w W)
    (fun c pre W => (c = .exit 0 ∧ ∃ pre' y, pre = pre' ++ [y] ∧ (∀ z ∈ pre', ¬ x ≤ z.to) ∧ x ≤ y.to ∧ PtCells w.heap.size (.int .i64 x) (.int .i64 y.n) (.int .i64 (wrap64 (x - y.fr))) (.int .i64 0) W) ∧ Below w.heap.size w W)
    (OwnFrom.and (Own.from (fun s A B row hs hg hr => ⟨hs.1, hs.2.kept hg hr⟩) _) (ownFrom_below (Nat.le_refl _) (by omega)))
    (fun c => OwnFrom.and (Own.from (fun s A B row hs hg hr => by obtain ⟨h1, p, y, h2, h3, h4, h5⟩ := hs; exact ⟨h1, p, y, h2, h3, h4, h5.kept hg hr⟩) _) (ownFrom_below (Nat.le_refl _) (by omega)))
    ⟨⟨by simp, hP0⟩, hB0⟩
    (fun y a' W => ∃ Bx, (W.cell? ⟨Bx, 0, none⟩ = some (.int .i64 y.fr) ∧ W.cell? ⟨Bx, 1, none⟩ = some (.int .i64 y.to)) ∧ a' = { tmps := #[.string s, .int .i64 x, undef, .pointer (some ⟨w.heap.size, 0, none⟩), .pointer (some ⟨w.heap.size + 1, 0, none⟩), .int .i64 0, .pointer (some ⟨w.heap.size + 1 + 1, 0, none⟩), .pointer (some ⟨w.heap.size + 1 + 1 + 1, 0, none⟩), .int .i64 y.n, .pointer (some ⟨Bx, 0, none⟩), .agg #[.int .i64 0, .int .i64 0], .int .i64 x, .bool false, .bool false, .int .i64 x, .string s, .int .i64 s.size, .bool false, .bool false, undef, undef, .string s, .func (.func 29) #[] #[.pointer (some ⟨w.heap.size + 1 + 1 + 1 + 1, 0, none⟩)], .int .i64 y.n, .agg #[.int .i64 y.fr, .int .i64 y.to], undef, undef, undef, undef, undef, undef, undef, undef, undef, undef, undef, undef], defers := [] })
    (fun y a' _ X Y row hs hg hr => by obtain ⟨Bx, ⟨h1, h2⟩, h4⟩ := hs; exact ⟨Bx, ⟨cell_kept h1 hg (fun r e => (hr r e).2), cell_kept h2 hg (fun r e => (hr r e).2)⟩, h4⟩)
    ?assign ?body ?done ?stop
  case assign =>
    rintro l pre y W K ⟨⟨hne, hP⟩, hB⟩ hK
    gi_wp2
    exact hK _ _ ((KeepsOthers.alloc _ _).from _) (KpS.alloc _ _ _) ⟨⟨hne, hP.alloc _⟩, hB.alloc hB.size _⟩ ⟨W.heap.size, ⟨by go_simp, by go_simp⟩, rfl⟩
  case body =>
    rintro l pre y a' W hl hr ⟨⟨hne, hP⟩, hB⟩ ⟨Bx, ⟨hb0, hb1⟩, rfl⟩ hlt
    have HP : Hid (PtCells w.heap.size (.int .i64 x) (.int .i64 0) (.int .i64 0) (.int .i64 13) W) := hP
    obtain ⟨ca, cr0, cr1, cfr0, cfr1, cq0, cq1, cfq0, cfq1, ce, cfe⟩ := hP
    have HN : Hid (∀ z ∈ pre, ¬ x ≤ z.to) := hne
    clear hne hr
    by_cases hxy : x ≤ y.to
    · gi_wp2
      refine ⟨(((KeepsOthers.setCell _ _ _).trans (KeepsOthers.setCell _ _ _)).trans (KeepsOthers.setCell _ _ _)).from _, ⟨rfl, pre, y, rfl, HN.out, hxy, ?_⟩, ((hB.setCell (by simp <;> omega) _).setCell (by simp <;> omega) _).setCell (by simp <;> omega) _⟩
      clear HN HP
      constructor <;> go_simp
    · gi_wp2
      refine ⟨KeepsFrom.refl _ _, KpS.refl _ _, ⟨?_, HP.out⟩, hB⟩
      intro z hz
      rcases List.mem_append.1 hz with h | h
      · exact HN.out z h
      · simp at h; subst h; exact hxy
  case done =>
    rintro D ys W hD rfl ⟨⟨hne, hP⟩, hB⟩ hK
    obtain ⟨r, hr, _, _⟩ := find_point s.data.toList x (by simpa using hx)
    have hr2 : x ≤ r.to := by have := List.find?_some hr; simpa using this
    exact absurd hr2 (hne r (List.mem_of_find?_eq_some hr))
  case stop =>
    rintro D c pre W hD hpre ⟨⟨rfl, pre', y, rfl, hne, hxy, hP⟩, hB⟩ hK
    have hE : ((y.n : Int) = (ptFrom (s.data.toList.take x) 0 0).1 ∧ wrap64 ((x : Int) - y.fr) = (ptFrom (s.data.toList.take x) 0 0).2) := by
      obtain ⟨r, hr, hrx, he⟩ := find_point s.data.toList x (by simpa using hx)
      obtain ⟨rest, hrest⟩ := hpre
      have hy : (rowsOf s.data.toList).find? (fun r => decide (x ≤ r.to)) = some y := by
        rw [← hrest, List.append_assoc, List.find?_append, List.find?_eq_none.2 (fun z hz => by simpa using hne z hz)]
        simp [hxy]
      rw [hy] at hr
      cases hr
      rw [← he]
      refine ⟨rfl, ?_⟩
      have : ((x : Int) - y.fr) = ((x - y.fr : Nat) : Int) := by omega
      rw [this]
      exact IntWalk.wrap64_in _ (by omega)
    obtain ⟨hE1, hE2⟩ := hE
    obtain ⟨p0, hp0⟩ : ∃ p0 : Nat, (ptFrom (s.data.toList.take x) 0 0).1 = p0 := ⟨_, rfl⟩
    obtain ⟨p1, hp1⟩ : ∃ p1 : Nat, (ptFrom (s.data.toList.take x) 0 0).2 = p1 := ⟨_, rfl⟩
    rw [hE1, hE2, hp0, hp1] at hP
    have H0 : Hid ((ptFrom (s.data.toList.take x) 0 0).1 = p0) := hp0
    have H1 : Hid ((ptFrom (s.data.toList.take x) 0 0).2 = p1) := hp1
    clear hE1 hE2 hne hpre hxy hp0 hp1
    obtain ⟨ca, cr0, cr1, cfr0, cfr1, cq0, cq1, cfq0, cfq1, ce, cfe⟩ := hP
    gi_wp2
    gi_region
    gi_wp2
    rw [Exit.noGoto_ret]
    have hK' := (((KeepsOthers.setCell W ⟨w.heap.size + 1, 0, none⟩ (.int .i64 p0)).trans (KeepsOthers.setCell _ ⟨w.heap.size + 1, 1, none⟩ (.int .i64 p1))).trans (KeepsOthers.drew _)).same D _ hK rfl
    have d0 : ((W.setCell ⟨w.heap.size + 1, 0, none⟩ (.int .i64 p0)).setCell ⟨w.heap.size + 1, 1, none⟩ (.int .i64 p1)).drew.cell? ⟨w.heap.size + 1, 0, none⟩ = some (.int .i64 p0) := by go_simp
    have d1 : ((W.setCell ⟨w.heap.size + 1, 0, none⟩ (.int .i64 p0)).setCell ⟨w.heap.size + 1, 1, none⟩ (.int .i64 p1)).drew.cell? ⟨w.heap.size + 1, 1, none⟩ = some (.int .i64 p1) := by go_simp
    have hB3 : Below w.heap.size w ((W.setCell ⟨w.heap.size + 1, 0, none⟩ (.int .i64 p0)).setCell ⟨w.heap.size + 1, 1, none⟩ (.int .i64 p1)).drew := ((hB.setCell (by simp) _).setCell (by simp) _).drew
    generalize ((W.setCell ⟨w.heap.size + 1, 0, none⟩ (.int .i64 p0)).setCell ⟨w.heap.size + 1, 1, none⟩ (.int .i64 p1)).drew = W3 at *
    refine ⟨by simp, .inl ⟨_, _, rfl, run_takeDeferred hK', ?_⟩⟩
    have g0 := cell_kept d0 (grownBy_putObj' W3 D (.deferred none)) (fun r e => by cases e; exact ⟨_, hK', rfl⟩)
    have g1 := cell_kept d1 (grownBy_putObj' W3 D (.deferred none)) (fun r e => by cases e; exact ⟨_, hK', rfl⟩)
    refine ⟨.tuple #[.agg #[.int .i64 p0, .int .i64 p1], .int .i64 0], ?_, by rw [H0.out, H1.out], hB3.trans (belowK_b (w := w) (Nat.le_refl _) W3 D _ _ (by omega) hK' rfl rfl)⟩
    simp [results, Try.f9, go_sem, g0, g1]

/-- PointAt: the point of a byte, for every text and every number. -/
theorem point_any (s : ByteArray) (x : Int) (w : World) (hs : s.size ≤ 140737488351232) :
    Calls Try.prog 9 #[.string s, .int .i64 x] w fun e w' => e = .returned (.tuple #[.agg #[.int .i64 (ptN s.data.toList x).1.1, .int .i64 (ptN s.data.toList x).1.2], .int .i64 (ptN s.data.toList x).2]) ∧ Below w.heap.size w w' := by
  by_cases hx : x < 0 ∨ (s.size : Int) < x
  · refine (point_out s x w hx).mono ?_
    rintro e w' ⟨rfl, hb⟩
    have : ptN s.data.toList x = ((0, 0), 13) := by unfold ptN; rw [if_pos (by simpa using hx)]
    rw [this]
    exact ⟨rfl, hb⟩
  · obtain ⟨k, rfl⟩ := Int.eq_ofNat_of_zero_le (by omega : 0 ≤ x)
    refine (callsIn_wide.1 (point_in 3 (Nat.le_refl _) s k w hs (by omega))).mono ?_
    rintro e w' ⟨rfl, hb⟩
    have : ptN s.data.toList k = ((((ptFrom (s.data.toList.take k) 0 0).1 : Int), ((ptFrom (s.data.toList.take k) 0 0).2 : Int)), (0 : Int)) := by unfold ptN; rw [if_neg (by simpa using hx)]; simp
    rw [this]
    exact ⟨rfl, hb⟩
end Go.Proofs.Ytneailhanohdhaa
