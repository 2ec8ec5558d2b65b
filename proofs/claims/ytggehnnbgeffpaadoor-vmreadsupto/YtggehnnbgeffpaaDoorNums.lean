/- numbersOf, semicolon. -/
import Derived.Test.YtggehnnbgeffpaaDoorRead1
namespace Go.Proofs.YtggehnnbgeffpaaDoor
open Go.Shelf Go.RowKit Go.Lib Go.Proofs

theorem info77 : (Tryd.prog.info? 77).map (fun i => (i.zero, i.size, i.bytes)) = some (some .nilFunc, 1, 8) := by kernel_rfl
/-- A row of takers of the call's own. -/
def OwnT (B : Nat) (l : List Tk) (v : Value) (W : World) : Prop := W.ownsRow B 77 1 v l.length (l.map fun t => .func (.func t.f) #[] #[])
theorem OwnT.want {B : Nat} {l : List Tk} {v : Value} {W : World} (h : OwnT B l v W) : WantAt v l W := by
  rcases h.2 with ⟨rfl, h0⟩ | ⟨g, cap, cur, rfl, hg0, hg1, hg2, _⟩
  · obtain rfl : l = [] := List.length_eq_zero_iff.1 h0
    exact ⟨none, 0, rfl, Nat.le_refl _, fun i t ht => by simp at ht⟩
  · refine ⟨some ⟨g, 0, none⟩, cap, rfl, hg2, fun i t ht => ⟨g, 0, cur, (0, 0), rfl, hg1, ?_⟩⟩
    have := World.ownsRow.cells h (g := g) rfl i (.func (.func t.f) #[] #[]) (by simp [ht])
    have hadd : (⟨g, 0, none⟩ : Addr).add i = ⟨g, 0 + i, none⟩ := by unfold Addr.add; split <;> simp_all
    rw [hadd] at this
    exact this

theorem cells1' (v : Value) (W : World) (t : TypeId) (k : Nat) (hk : k = W.heap.size) : ∀ (j : Nat) (u : Value), [v][j]? = some u → (W.alloc (.cells #[v] t)).cell? ((⟨k, 0, none⟩ : Addr).add j) = some u := by
  subst hk
  exact cells1 v W t
/-- What numbersOf keeps in its box. -/
structure Nb (n0 : Nat) (w : World) (ux uy uz : Bool) (W : World) : Prop where
  lt : n0 < W.heap.size
  x1 : W.cell? ⟨n0, 1, none⟩ = some (.bool ux)
  y1 : W.cell? ⟨n0, 2, none⟩ = some (.bool uy)
  z1 : W.cell? ⟨n0, 3, none⟩ = some (.bool uz)
  bel : Below n0 w W
theorem Nb.grown {n0 : Nat} {w : World} {ux uy uz : Bool} {W W2 : World} {v : Value} {n : Nat} {xs : List Value} {o : Obj} (h : Nb n0 w ux uy uz W) (hO : W.ownsRow (n0 + 1) 77 1 v n xs) (hg : (W.alloc o).grownBy W2 v.ownBlock) : Nb n0 w ux uy uz W2 := by
  have hb : Below (n0 + 1) W W2 := ((Below.refl (n0 + 1) W).alloc h.lt o).grown hg (by have := h.lt; simp; omega) (fun k e => (hO.lt k e).1)
  exact ⟨Nat.lt_of_lt_of_le h.lt hb.size, (hb.cell (p := ⟨n0, 1, none⟩) (Nat.lt_succ_self _)).trans h.x1, (hb.cell (p := ⟨n0, 2, none⟩) (Nat.lt_succ_self _)).trans h.y1, (hb.cell (p := ⟨n0, 3, none⟩) (Nat.lt_succ_self _)).trans h.z1, h.bel.trans (hb.mono (Nat.le_succ _))⟩
theorem owns_less {W : World} {b b' : Nat} {e : TypeId} {size : Nat} {v : Value} {n : Nat} {xs : List Value} (h : W.ownsRow b e size v n xs) (hb : b' ≤ b) : W.ownsRow b' e size v n xs := by
  refine ⟨h.1, ?_⟩
  rcases h.2 with h0 | ⟨g, cap, cur, h1, h2, h3⟩
  · exact .inl h0
  · exact .inr ⟨g, cap, cur, h1, Nat.le_trans hb h2, h3⟩

set_option maxRecDepth 100000 in
set_option maxHeartbeats 4000000 in
theorem numbersOf_any (b : ByteArray) (ux uy uz : Bool) (w : World) :
    Calls Tryd.prog 36 #[.agg #[.string b, .bool ux, .bool uy, .bool uz]] w fun e w' => ∃ v, e = .returned v ∧ OwnT w.heap.size ((if ux then [.x] else []) ++ (if uy then [.y] else []) ++ (if uz then [.z] else [])) v w' ∧ Below w.heap.size w w' := by
  obtain ⟨i0, hi, hz0, hz1, hz2⟩ := info_parts info77
  have hNb0 : Nb w.heap.size w ux uy uz (w.alloc (.cells #[.string b, .bool ux, .bool uy, .bool uz] 73)) := by
    constructor
    case bel => exact (Below.refl _ _).alloc (Nat.le_refl _) _
    all_goals go_simp
  have hO0 : (w.alloc (.cells #[.string b, .bool ux, .bool uy, .bool uz] 73)).ownsRow (w.heap.size + 1) 77 1 (.slice none 0 0) 0 [] := World.ownsRow_nil _ _ _ _
  have hB1 : w.heap.size + 1 ≤ (w.alloc (.cells #[.string b, .bool ux, .bool uy, .bool uz] 73)).heap.size := by simp
  cases ux <;> cases uy <;> cases uz
  case false.false.false =>
    go_enter Tryd.func36, Tryd.ntmps36
    go_wp2_with fail
    go_ret
    exact ⟨_, rfl, owns_less hO0 (Nat.le_succ _), hNb0.bel⟩
  case false.false.true =>
    go_enter Tryd.func36, Tryd.ntmps36
    go_wp2_with (at_builtin; refine wpList_append_own _ rfl _ _ 43 rfl (w.heap.size + 1) 77 i0 _ 1 8 Tryd.underlying43 hi hz0 hz1 hz2 rfl (by decide) _ 0 [] rfl (World.ownsRow.alloc hO0 _) ⟨_, 0, none⟩ 1 1 [.func (.func 50) #[] #[]] rfl rfl (cells1' _ _ _ _ (by simp)) (fun u hu => by simp at hu; subst hu; rfl) (by unfold maxLen; omega) (by omega) (Nat.le_trans hNb0.lt (by simp)) ?_)
    intro v1 w1 hO1 hgr1 _
    have hNb1 := hNb0.grown hO0 hgr1
    have hB1 : w.heap.size + 1 ≤ w1.heap.size := hNb1.lt
    obtain ⟨_, x1, y1, z1, _⟩ := id hNb1
    clear hgr1 hNb0 hO0
    go_wp2_with fail
    go_ret
    exact ⟨_, rfl, owns_less hO1 (Nat.le_succ _), hNb1.bel⟩
  case false.true.false =>
    go_enter Tryd.func36, Tryd.ntmps36
    go_wp2_with (at_builtin; refine wpList_append_own _ rfl _ _ 43 rfl (w.heap.size + 1) 77 i0 _ 1 8 Tryd.underlying43 hi hz0 hz1 hz2 rfl (by decide) _ 0 [] rfl (World.ownsRow.alloc hO0 _) ⟨_, 0, none⟩ 1 1 [.func (.func 49) #[] #[]] rfl rfl (cells1' _ _ _ _ (by simp)) (fun u hu => by simp at hu; subst hu; rfl) (by unfold maxLen; omega) (by omega) (Nat.le_trans hNb0.lt (by simp)) ?_)
    intro v1 w1 hO1 hgr1 _
    have hNb1 := hNb0.grown hO0 hgr1
    have hB1 : w.heap.size + 1 ≤ w1.heap.size := hNb1.lt
    obtain ⟨_, x1, y1, z1, _⟩ := id hNb1
    clear hgr1 hNb0 hO0
    go_wp2_with fail
    go_ret
    exact ⟨_, rfl, owns_less hO1 (Nat.le_succ _), hNb1.bel⟩
  case false.true.true =>
    go_enter Tryd.func36, Tryd.ntmps36
    go_wp2_with (at_builtin; refine wpList_append_own _ rfl _ _ 43 rfl (w.heap.size + 1) 77 i0 _ 1 8 Tryd.underlying43 hi hz0 hz1 hz2 rfl (by decide) _ 0 [] rfl (World.ownsRow.alloc hO0 _) ⟨_, 0, none⟩ 1 1 [.func (.func 49) #[] #[]] rfl rfl (cells1' _ _ _ _ (by simp)) (fun u hu => by simp at hu; subst hu; rfl) (by unfold maxLen; omega) (by omega) (Nat.le_trans hNb0.lt (by simp)) ?_)
    intro v1 w1 hO1 hgr1 _
    have hNb1 := hNb0.grown hO0 hgr1
    have hB1 : w.heap.size + 1 ≤ w1.heap.size := hNb1.lt
    obtain ⟨_, x1, y1, z1, _⟩ := id hNb1
    clear hgr1 hNb0 hO0
    go_wp2_with (at_builtin; refine wpList_append_own _ rfl _ _ 43 rfl (w.heap.size + 1) 77 i0 _ 1 8 Tryd.underlying43 hi hz0 hz1 hz2 rfl (by decide) _ 1 [.func (.func 49) #[] #[]] rfl (World.ownsRow.alloc hO1 _) ⟨_, 0, none⟩ 1 1 [.func (.func 50) #[] #[]] rfl rfl (cells1' _ _ _ _ (by simp)) (fun u hu => by simp at hu; subst hu; rfl) (by unfold maxLen; omega) (by omega) (Nat.le_trans hNb1.lt (by simp)) ?_)
    intro v2 w2 hO2 hgr2 _
    have hNb2 := hNb1.grown hO1 hgr2
    have hB1 : w.heap.size + 1 ≤ w2.heap.size := hNb2.lt
    obtain ⟨_, x1, y1, z1, _⟩ := id hNb2
    clear hgr2 hNb1 hO1
    go_wp2_with fail
    go_ret
    exact ⟨_, rfl, owns_less hO2 (Nat.le_succ _), hNb2.bel⟩
  case true.false.false =>
    go_enter Tryd.func36, Tryd.ntmps36
    go_wp2_with (at_builtin; refine wpList_append_own _ rfl _ _ 43 rfl (w.heap.size + 1) 77 i0 _ 1 8 Tryd.underlying43 hi hz0 hz1 hz2 rfl (by decide) _ 0 [] rfl (World.ownsRow.alloc hO0 _) ⟨_, 0, none⟩ 1 1 [.func (.func 48) #[] #[]] rfl rfl (cells1' _ _ _ _ (by simp)) (fun u hu => by simp at hu; subst hu; rfl) (by unfold maxLen; omega) (by omega) (Nat.le_trans hNb0.lt (by simp)) ?_)
    intro v1 w1 hO1 hgr1 _
    have hNb1 := hNb0.grown hO0 hgr1
    have hB1 : w.heap.size + 1 ≤ w1.heap.size := hNb1.lt
    obtain ⟨_, x1, y1, z1, _⟩ := id hNb1
    clear hgr1 hNb0 hO0
    go_wp2_with fail
    go_ret
    exact ⟨_, rfl, owns_less hO1 (Nat.le_succ _), hNb1.bel⟩
  case true.false.true =>
    go_enter Tryd.func36, Tryd.ntmps36
    go_wp2_with (at_builtin; refine wpList_append_own _ rfl _ _ 43 rfl (w.heap.size + 1) 77 i0 _ 1 8 Tryd.underlying43 hi hz0 hz1 hz2 rfl (by decide) _ 0 [] rfl (World.ownsRow.alloc hO0 _) ⟨_, 0, none⟩ 1 1 [.func (.func 48) #[] #[]] rfl rfl (cells1' _ _ _ _ (by simp)) (fun u hu => by simp at hu; subst hu; rfl) (by unfold maxLen; omega) (by omega) (Nat.le_trans hNb0.lt (by simp)) ?_)
    intro v1 w1 hO1 hgr1 _
    have hNb1 := hNb0.grown hO0 hgr1
    have hB1 : w.heap.size + 1 ≤ w1.heap.size := hNb1.lt
    obtain ⟨_, x1, y1, z1, _⟩ := id hNb1
    clear hgr1 hNb0 hO0
    go_wp2_with (at_builtin; refine wpList_append_own _ rfl _ _ 43 rfl (w.heap.size + 1) 77 i0 _ 1 8 Tryd.underlying43 hi hz0 hz1 hz2 rfl (by decide) _ 1 [.func (.func 48) #[] #[]] rfl (World.ownsRow.alloc hO1 _) ⟨_, 0, none⟩ 1 1 [.func (.func 50) #[] #[]] rfl rfl (cells1' _ _ _ _ (by simp)) (fun u hu => by simp at hu; subst hu; rfl) (by unfold maxLen; omega) (by omega) (Nat.le_trans hNb1.lt (by simp)) ?_)
    intro v2 w2 hO2 hgr2 _
    have hNb2 := hNb1.grown hO1 hgr2
    have hB1 : w.heap.size + 1 ≤ w2.heap.size := hNb2.lt
    obtain ⟨_, x1, y1, z1, _⟩ := id hNb2
    clear hgr2 hNb1 hO1
    go_wp2_with fail
    go_ret
    exact ⟨_, rfl, owns_less hO2 (Nat.le_succ _), hNb2.bel⟩
  case true.true.false =>
    go_enter Tryd.func36, Tryd.ntmps36
    go_wp2_with (at_builtin; refine wpList_append_own _ rfl _ _ 43 rfl (w.heap.size + 1) 77 i0 _ 1 8 Tryd.underlying43 hi hz0 hz1 hz2 rfl (by decide) _ 0 [] rfl (World.ownsRow.alloc hO0 _) ⟨_, 0, none⟩ 1 1 [.func (.func 48) #[] #[]] rfl rfl (cells1' _ _ _ _ (by simp)) (fun u hu => by simp at hu; subst hu; rfl) (by unfold maxLen; omega) (by omega) (Nat.le_trans hNb0.lt (by simp)) ?_)
    intro v1 w1 hO1 hgr1 _
    have hNb1 := hNb0.grown hO0 hgr1
    have hB1 : w.heap.size + 1 ≤ w1.heap.size := hNb1.lt
    obtain ⟨_, x1, y1, z1, _⟩ := id hNb1
    clear hgr1 hNb0 hO0
    go_wp2_with (at_builtin; refine wpList_append_own _ rfl _ _ 43 rfl (w.heap.size + 1) 77 i0 _ 1 8 Tryd.underlying43 hi hz0 hz1 hz2 rfl (by decide) _ 1 [.func (.func 48) #[] #[]] rfl (World.ownsRow.alloc hO1 _) ⟨_, 0, none⟩ 1 1 [.func (.func 49) #[] #[]] rfl rfl (cells1' _ _ _ _ (by simp)) (fun u hu => by simp at hu; subst hu; rfl) (by unfold maxLen; omega) (by omega) (Nat.le_trans hNb1.lt (by simp)) ?_)
    intro v2 w2 hO2 hgr2 _
    have hNb2 := hNb1.grown hO1 hgr2
    have hB1 : w.heap.size + 1 ≤ w2.heap.size := hNb2.lt
    obtain ⟨_, x1, y1, z1, _⟩ := id hNb2
    clear hgr2 hNb1 hO1
    go_wp2_with fail
    go_ret
    exact ⟨_, rfl, owns_less hO2 (Nat.le_succ _), hNb2.bel⟩
  case true.true.true =>
    go_enter Tryd.func36, Tryd.ntmps36
    go_wp2_with (at_builtin; refine wpList_append_own _ rfl _ _ 43 rfl (w.heap.size + 1) 77 i0 _ 1 8 Tryd.underlying43 hi hz0 hz1 hz2 rfl (by decide) _ 0 [] rfl (World.ownsRow.alloc hO0 _) ⟨_, 0, none⟩ 1 1 [.func (.func 48) #[] #[]] rfl rfl (cells1' _ _ _ _ (by simp)) (fun u hu => by simp at hu; subst hu; rfl) (by unfold maxLen; omega) (by omega) (Nat.le_trans hNb0.lt (by simp)) ?_)
    intro v1 w1 hO1 hgr1 _
    have hNb1 := hNb0.grown hO0 hgr1
    have hB1 : w.heap.size + 1 ≤ w1.heap.size := hNb1.lt
    obtain ⟨_, x1, y1, z1, _⟩ := id hNb1
    clear hgr1 hNb0 hO0
    go_wp2_with (at_builtin; refine wpList_append_own _ rfl _ _ 43 rfl (w.heap.size + 1) 77 i0 _ 1 8 Tryd.underlying43 hi hz0 hz1 hz2 rfl (by decide) _ 1 [.func (.func 48) #[] #[]] rfl (World.ownsRow.alloc hO1 _) ⟨_, 0, none⟩ 1 1 [.func (.func 49) #[] #[]] rfl rfl (cells1' _ _ _ _ (by simp)) (fun u hu => by simp at hu; subst hu; rfl) (by unfold maxLen; omega) (by omega) (Nat.le_trans hNb1.lt (by simp)) ?_)
    intro v2 w2 hO2 hgr2 _
    have hNb2 := hNb1.grown hO1 hgr2
    have hB1 : w.heap.size + 1 ≤ w2.heap.size := hNb2.lt
    obtain ⟨_, x1, y1, z1, _⟩ := id hNb2
    clear hgr2 hNb1 hO1
    go_wp2_with (at_builtin; refine wpList_append_own _ rfl _ _ 43 rfl (w.heap.size + 1) 77 i0 _ 1 8 Tryd.underlying43 hi hz0 hz1 hz2 rfl (by decide) _ 2 [.func (.func 48) #[] #[], .func (.func 49) #[] #[]] rfl (World.ownsRow.alloc hO2 _) ⟨_, 0, none⟩ 1 1 [.func (.func 50) #[] #[]] rfl rfl (cells1' _ _ _ _ (by simp)) (fun u hu => by simp at hu; subst hu; rfl) (by unfold maxLen; omega) (by omega) (Nat.le_trans hNb2.lt (by simp)) ?_)
    intro v3 w3 hO3 hgr3 _
    have hNb3 := hNb2.grown hO2 hgr3
    have hB1 : w.heap.size + 1 ≤ w3.heap.size := hNb3.lt
    obtain ⟨_, x1, y1, z1, _⟩ := id hNb3
    clear hgr3 hNb2 hO2
    go_wp2_with fail
    go_ret
    exact ⟨_, rfl, owns_less hO3 (Nat.le_succ _), hNb3.bel⟩
end Go.Proofs.YtggehnnbgeffpaaDoor
