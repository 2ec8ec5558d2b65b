/- Offset of the program: the byte of a point, for every text of at most 140737488351232 bytes and every point. -/
import Derived.Test.YtneailhanohdhaaBoxes
namespace Go.Proofs.Ytneailhanohdhaa
open Go.RowKit Go.Shelf
attribute [local go_sem] Oper.semAt_some

set_option maxHeartbeats 400000 in
theorem off_out (s : ByteArray) (r c : Int) (w : World) (hx : r < 0 ∨ c < 0) :
    Calls Try.prog 11 #[.string s, .agg #[.int .i64 r, .int .i64 c]] w fun e w' => e = .returned (.tuple #[.int .i64 0, .int .i64 13]) ∧ Below w.heap.size w w' := by
  have hc : (r < 0 ∧ decide (r < 0) = true) ∨ (¬ r < 0 ∧ c < 0 ∧ decide (r < 0) = false) := by
    by_cases h : r < 0
    · exact .inl ⟨h, by simpa using h⟩
    · exact .inr ⟨h, by omega, by simpa using h⟩
  clear hx
  rcases hc with ⟨h1, hd⟩ | ⟨h1, h2, hd⟩
  all_goals
    go_enter Try.func11, Try.ntmps11
    go_wp2
    refine wp_scope_straight ?_
    go_wp2
    go_quiet (fail)
    go_wp2
    rw [Exit.noGoto_ret]
    go_ret2
    exact ⟨rfl, below_drewN (((((Below.refl _ _).alloc (Nat.le_refl _) _).alloc (by simp) _).alloc (by simp <;> omega) _)) _⟩

/-- The cells of Offset's own variables, from block N on: p; at; err. -/
structure OfCells (N : Nat) (r c at_ er : Value) (W : World) : Prop where
  p0 : W.cell? ⟨N, 0, none⟩ = some r
  p1 : W.cell? ⟨N, 1, none⟩ = some c
  a : W.cell? ⟨N + 1, 0, none⟩ = some at_
  fa : W.frozen? ⟨N + 1, 0, none⟩ = false
  e : W.cell? ⟨N + 1 + 1, 0, none⟩ = some er
  fe : W.frozen? ⟨N + 1 + 1, 0, none⟩ = false
theorem OfCells.kept {N : Nat} {r c x er : Value} {W W' : World} {row : Option Nat} (h : OfCells N r c x er W) (hg : W.grownBy W' row) (hr : ∀ r, row = some r → ∃ o : Obj, W.heap[r]? = some o ∧ o.isCells = false) : OfCells N r c x er W' :=
  ⟨cell_kept h.p0 hg hr, cell_kept h.p1 hg hr, cell_kept h.a hg hr, (frozen_kept h.a hg hr).trans h.fa, cell_kept h.e hg hr, (frozen_kept h.e hg hr).trans h.fe⟩
theorem OfCells.alloc {N : Nat} {r c x er : Value} {W : World} (h : OfCells N r c x er W) (o : Obj) : OfCells N r c x er (W.alloc o) := h.kept (World.grownBy_alloc W o none) (fun _ e => by cases e)

/-- What a row tells. -/
def tellN (y : Rw) (c : Nat) : Int × Int := if (c : Int) ≤ wrap64 ((y.to : Int) - y.fr) then (wrap64 ((y.fr : Int) + c), 0) else (0, 13)

theorem tell_is {l : List UInt8} {pre : List Rw} {y : Rw} {r c : Nat} (hp : pre ++ [y] <+: rowsOf l) (hne : ∀ z ∈ pre, z.n < r) (hy : ¬ y.n < r) (hl : l.length ≤ 140737488351232) : tellN y c = offN l r c := by
  obtain ⟨rest, hrest⟩ := hp
  have hf : (rowsOf l).find? (fun z => decide (r ≤ z.n)) = some y := by
    rw [← hrest, List.append_assoc, List.find?_append, List.find?_eq_none.2 (fun z hz => by simpa using hne z hz)]
    have : r ≤ y.n := by omega
    simp [this]
  have hm : y ∈ rowsOf l := List.mem_of_find?_eq_some hf
  have hr := row_fr l 0 0 0 y (Nat.le_refl _) hm
  unfold rowsOf at hf
  rw [find_n l 0 0 0 r (Nat.zero_le _)] at hf
  unfold offN rowsOf
  rw [if_neg (by omega), Int.toNat_natCast, hf]
  unfold tellN
  rw [IntWalk.wrap64_in _ (by omega)]
  by_cases h : (c : Int) ≤ (y.to : Int) - y.fr
  · rw [if_pos h, IntWalk.wrap64_in _ (by omega)]
    simp [h]
  · rw [if_neg h]
    simp [h]
theorem tell_none {l : List UInt8} {r c : Nat} (hne : ∀ z ∈ rowsOf l, z.n < r) : offN l r c = (0, 13) := by
  have hf : (rowsOf l).find? (fun z => decide (r ≤ z.n)) = none := List.find?_eq_none.2 (fun z hz => by simpa using hne z hz)
  unfold rowsOf at hf
  rw [find_n l 0 0 0 r (Nat.zero_le _)] at hf
  unfold offN rowsOf
  rw [if_neg (by omega), Int.toNat_natCast, hf]

theorem ret_ii {a b c d : Int} (h : (a, b) = (c, d)) : Ending.returned (.tuple #[.int .i64 a, .int .i64 b]) = .returned (.tuple #[.int .i64 c, .int .i64 d]) := by cases h; rfl

set_option maxRecDepth 100000 in
set_option maxHeartbeats 2000000 in
theorem off_in (n : Nat) (hn : 3 ≤ n) (s : ByteArray) (r c : Nat) (w : World) (hs : s.size ≤ 140737488351232) :
    CallsIn Fence.wide n Try.prog 11 #[.string s, .agg #[.int .i64 r, .int .i64 c]] w fun e w' => e = .returned (.tuple #[.int .i64 (offN s.data.toList r c).1, .int .i64 (offN s.data.toList r c).2]) ∧ Below w.heap.size w w' := by
  have h1 : 1 ≤ n := by omega
  have hd : decide ((r : Int) < 0) = false := by rw [decide_eq_false_iff_not]; omega
  have hd2 : decide ((c : Int) < 0) = false := by rw [decide_eq_false_iff_not]; omega
  refine callsIn_of_wp_marks Try.func11 rfl trivial ?_ rfl
  simp only [Try.ntmps11, List.size_toArray, List.length_cons, List.length_nil, Nat.reduceAdd, Nat.reduceSub, Array.replicate_succ, Array.replicate_zero, List.push_toArray, List.append_toArray, List.nil_append, List.cons_append]
  gi_wp2
  refine wpIn_scope_wide ?_
  gi_wp2
  refine wpIn_label ?_
  gi_wp2_with fail
  refine ⟨trivial, ?_⟩
  refine (callsIn_wide.2 (rows_any _ _)).mono ?_
  rintro e w1 ⟨rfl, rfl⟩
  gi_wp2
  have HP0 : OfCells w.heap.size (.int .i64 r) (.int .i64 c) (.int .i64 0) (.int .i64 13) ((((w.alloc (Obj.cells #[Value.int IntKind.i64 ↑r, Value.int IntKind.i64 ↑c] 23)).alloc (Obj.cells #[Value.int IntKind.i64 0] 3)).alloc (Obj.cells #[Value.int IntKind.i64 13] 24)).alloc (Obj.cells #[Value.string s] 9)) := by
    constructor <;> go_simp
  have hS0 : ((((w.alloc (Obj.cells #[Value.int IntKind.i64 ↑r, Value.int IntKind.i64 ↑c] 23)).alloc (Obj.cells #[Value.int IntKind.i64 0] 3)).alloc (Obj.cells #[Value.int IntKind.i64 13] 24)).alloc (Obj.cells #[Value.string s] 9)).cell? ⟨w.heap.size + 1 + 1 + 1, 0, none⟩ = some (.string s) := by go_simp
  have hB0 : Below w.heap.size w ((((w.alloc (Obj.cells #[Value.int IntKind.i64 ↑r, Value.int IntKind.i64 ↑c] 23)).alloc (Obj.cells #[Value.int IntKind.i64 0] 3)).alloc (Obj.cells #[Value.int IntKind.i64 13] 24)).alloc (Obj.cells #[Value.string s] 9)) := ((((Below.refl _ _).alloc (Nat.le_refl _) _).alloc (by simp) _).alloc (by simp <;> omega) _).alloc (by simp <;> omega) _
  have hsz : ((((w.alloc (Obj.cells #[Value.int IntKind.i64 ↑r, Value.int IntKind.i64 ↑c] 23)).alloc (Obj.cells #[Value.int IntKind.i64 0] 3)).alloc (Obj.cells #[Value.int IntKind.i64 13] 24)).alloc (Obj.cells #[Value.string s] 9)).heap.size = w.heap.size + 4 := by simp
  obtain ⟨W0, hW0⟩ : ∃ W0, ((((w.alloc (Obj.cells #[Value.int IntKind.i64 ↑r, Value.int IntKind.i64 ↑c] 23)).alloc (Obj.cells #[Value.int IntKind.i64 0] 3)).alloc (Obj.cells #[Value.int IntKind.i64 13] 24)).alloc (Obj.cells #[Value.string s] 9)) = W0 := ⟨_, rfl⟩
  rw [hW0] at HP0 hS0 hB0 hsz ⊢
  clear hW0
  refine wpIn_rangeFunc_ownH rfl h1 (gf := 29) (lb := #[.pointer (some ⟨w.heap.size + 1 + 1 + 1, 0, none⟩)]) rfl trivial (enters_of Try.func29 (by kernel_rfl) rfl)
    (rows_stops (n - 1) (by omega) (w.heap.size + 1 + 1 + 1) s hs W0 (by omega) hS0) kpS_t (fun W l o o' _ h hc _ => kpS_b W l o o' h hc) (Below.refl _ _) (fun _ => rfl)
    (fun pre W => ((∀ y ∈ pre, y.n < r) ∧ OfCells w.heap.size (.int .i64 r) (.int .i64 c) (.int .i64 0) (.int .i64 13) W) ∧ Below w.heap.size w W)
    (fun k pre W => (k = .exit 0 ∧ ∃ pre' y, pre = pre' ++ [y] ∧ (∀ z ∈ pre', z.n < r) ∧ ¬ y.n < r ∧ OfCells w.heap.size (.int .i64 r) (.int .i64 c) (.int .i64 (tellN y c).1) (.int .i64 (tellN y c).2) W) ∧ Below w.heap.size w W)
    (OwnFrom.and (Own.from (fun s A B row hs hg hr => ⟨hs.1, hs.2.kept hg hr⟩) _) (ownFrom_below (Nat.le_refl _) (by omega)))
    (fun k => OwnFrom.and (Own.from (fun s A B row hs hg hr => by obtain ⟨h1, p, y, h2, h3, h4, h5⟩ := hs; exact ⟨h1, p, y, h2, h3, h4, h5.kept hg hr⟩) _) (ownFrom_below (Nat.le_refl _) (by omega)))
    ⟨⟨by simp, HP0⟩, hB0⟩
    (fun y a' W => ∃ Bx, (W.cell? ⟨Bx, 0, none⟩ = some (.int .i64 y.fr) ∧ W.cell? ⟨Bx, 1, none⟩ = some (.int .i64 y.to)) ∧ a' = { tmps := #[.string s, .agg #[.int .i64 r, .int .i64 c], undef, .pointer (some ⟨w.heap.size, 0, none⟩), .int .i64 0, .int .i64 0, .pointer (some ⟨w.heap.size + 1, 0, none⟩), .pointer (some ⟨w.heap.size + 1 + 1, 0, none⟩), .int .i64 y.n, .pointer (some ⟨Bx, 0, none⟩), .pointer (some ⟨w.heap.size, 0, none⟩), .int .i64 r, .bool false, .bool false, .pointer (some ⟨w.heap.size, 1, none⟩), .int .i64 c, .bool false, .bool false, undef, undef, .string s, .func (.func 29) #[] #[.pointer (some ⟨w.heap.size + 1 + 1 + 1, 0, none⟩)], .int .i64 y.n, .agg #[.int .i64 y.fr, .int .i64 y.to], undef, undef, undef, undef, undef, undef, undef, undef, undef, undef, undef, undef, undef, undef, undef, undef, undef, undef, undef], defers := [] })
    (fun y a' _ X Y row hs hg hr => by obtain ⟨Bx, ⟨h1, h2⟩, h4⟩ := hs; exact ⟨Bx, ⟨cell_kept h1 hg (fun r e => (hr r e).2), cell_kept h2 hg (fun r e => (hr r e).2)⟩, h4⟩)
    ?assign ?body ?done ?stop
  case assign =>
    rintro l pre y W K ⟨⟨hne, hP⟩, hB⟩ hK
    gi_wp2
    exact hK _ _ ((KeepsOthers.alloc _ _).from _) (KpS.alloc _ _ _) ⟨⟨hne, hP.alloc _⟩, hB.alloc hB.size _⟩ ⟨W.heap.size, ⟨by go_simp, by go_simp⟩, rfl⟩
  case body =>
    rintro l pre y a' W hl hr ⟨⟨hne, hP⟩, hB⟩ ⟨Bx, ⟨hb0, hb1⟩, rfl⟩ hlt
    have HP : Hid (OfCells w.heap.size (.int .i64 r) (.int .i64 c) (.int .i64 0) (.int .i64 13) W) := hP
    obtain ⟨cp0, cp1, ca, cfa, ce, cfe⟩ := hP
    have HN : Hid (∀ z ∈ pre, z.n < r) := hne
    clear hne hr HP0 hS0 hB0
    by_cases hyr : y.n < r
    · gi_wp2
      refine ⟨KeepsFrom.refl _ _, KpS.refl _ _, ⟨?_, HP.out⟩, hB⟩
      intro z hz
      rcases List.mem_append.1 hz with h | h
      · exact HN.out z h
      · simp at h; subst h; exact hyr
    · by_cases hcc : (c : Int) ≤ wrap64 ((y.to : Int) - y.fr)
      · have HT : Hid (tellN y c = (wrap64 ((y.fr : Int) + c), 0)) := by show _ = _; unfold tellN; rw [if_pos hcc]
        gi_wp2
        refine ⟨((KeepsOthers.setCell _ _ _).trans (KeepsOthers.setCell _ _ _)).from _, ⟨rfl, pre, y, rfl, HN.out, hyr, ?_⟩, (hB.setCell (by simp <;> omega) _).setCell (by simp <;> omega) _⟩
        rw [HT.out]
        clear HN HP HT
        constructor <;> go_simp
      · have HT : Hid (tellN y c = (0, 13)) := by show _ = _; unfold tellN; rw [if_neg hcc]
        gi_wp2
        refine ⟨KeepsFrom.refl _ _, ⟨rfl, pre, y, rfl, HN.out, by omega, ?_⟩, hB⟩
        rw [HT.out]
        exact HP.out
  case done =>
    rintro D ys W hD rfl ⟨⟨hne, hP⟩, hB⟩ hK
    have hT := tell_none (c := c) hne
    obtain ⟨cp0, cp1, ca, cfa, ce, cfe⟩ := hP
    obtain ⟨A, hA⟩ : ∃ A : Int, A = 0 := ⟨_, rfl⟩
    obtain ⟨E, hE⟩ : ∃ E : Int, E = 13 := ⟨_, rfl⟩
    rw [← hA] at ca
    rw [← hE] at ce
    have HA : Hid (((offN s.data.toList r c).1, (offN s.data.toList r c).2) = (A, E)) := by show _ = _; rw [hT, hA, hE]
    clear hA hE hT hne
    clear HP0
    gi_wp2
    gi_region
    gi_wp2
    rw [Exit.noGoto_ret]
    have hK' := (KeepsOthers.drew W).same D _ hK rfl
    refine ⟨by simp, .inl ⟨_, _, rfl, run_takeDeferred hK', ?_⟩⟩
    refine ⟨.tuple #[.int .i64 A, .int .i64 E], ?_, ret_ii HA.out.symm, hB.drew.trans (belowK_b (w := w) (Nat.le_refl _) W.drew D _ _ (by omega) hK' rfl rfl)⟩
    simp [results, Try.f11, go_sem]
  case stop =>
    rintro D k pre W hD hpre ⟨⟨rfl, pre', y, rfl, hne, hyr, hP⟩, hB⟩ hK
    rw [tell_is hpre hne hyr (by simpa using hs)] at hP
    obtain ⟨cp0, cp1, ca, cfa, ce, cfe⟩ := hP
    obtain ⟨A, hA⟩ : ∃ A : Int, (offN s.data.toList r c).1 = A := ⟨_, rfl⟩
    obtain ⟨E, hE⟩ : ∃ E : Int, (offN s.data.toList r c).2 = E := ⟨_, rfl⟩
    have HA : Hid (((offN s.data.toList r c).1, (offN s.data.toList r c).2) = (A, E)) := by show _ = _; rw [hA, hE]
    rw [hA] at ca
    rw [hE] at ce
    clear hA hE hne hyr hpre
    clear HP0
    gi_wp2
    gi_region
    gi_wp2
    rw [Exit.noGoto_ret]
    have hK' := (KeepsOthers.drew W).same D _ hK rfl
    refine ⟨by simp, .inl ⟨_, _, rfl, run_takeDeferred hK', ?_⟩⟩
    refine ⟨.tuple #[.int .i64 A, .int .i64 E], ?_, ret_ii HA.out.symm, hB.drew.trans (belowK_b (w := w) (Nat.le_refl _) W.drew D _ _ (by omega) hK' rfl rfl)⟩
    simp [results, Try.f11, go_sem]

/-- Offset: the byte of a point, for every text and every point. -/
theorem off_any (s : ByteArray) (r c : Int) (w : World) (hs : s.size ≤ 140737488351232) :
    Calls Try.prog 11 #[.string s, .agg #[.int .i64 r, .int .i64 c]] w fun e w' => e = .returned (.tuple #[.int .i64 (offN s.data.toList r c).1, .int .i64 (offN s.data.toList r c).2]) ∧ Below w.heap.size w w' := by
  by_cases hx : r < 0 ∨ c < 0
  · refine (off_out s r c w hx).mono ?_
    rintro e w' ⟨rfl, hb⟩
    have : offN s.data.toList r c = (0, 13) := by unfold offN; rw [if_pos hx]
    rw [this]
    exact ⟨rfl, hb⟩
  · obtain ⟨R, rfl⟩ := Int.eq_ofNat_of_zero_le (by omega : 0 ≤ r)
    obtain ⟨C, rfl⟩ := Int.eq_ofNat_of_zero_le (by omega : 0 ≤ c)
    exact callsIn_wide.1 (off_in 3 (Nat.le_refl _) s R C w hs)
end Go.Proofs.Ytneailhanohdhaa
