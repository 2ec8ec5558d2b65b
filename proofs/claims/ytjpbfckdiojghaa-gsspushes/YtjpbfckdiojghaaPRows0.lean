/- Stacks: the program's rows back: what is said of them; the iterator at its end. -/
import Derived.Test.YtjpbfckdiojghaaRangeT
namespace Go.Proofs.Ytjpbfckdiojghaa
open Go.RowKit Go.Shelf
attribute [local go_sem] Oper.semAt_some

/-- A row that is handed out, as it lies. -/
abbrev Rv := List Int × Value
def encRv (x : Rv) : Array Value := #[x.2]
def OkRv (A : Nat → Prop) (x : Rv) (W : World) : Prop := SlI x.1 x.2 W ∧ (∃ g c, x.2 = .slice (some ⟨g, 0, none⟩) x.1.length c ∧ A g) ∧ x.1 ≠ []
theorem OkRv.but {A : Nat → Prop} {x : Rv} {W W' : World} {k : Nat} (h : OkRv A x W) (hk : ¬ A k) (hb : But (fun j => j = k) W W') : OkRv A x W' := by
  obtain ⟨⟨ao, cap, h0, h1, h2⟩, ⟨g, c, h3, h4⟩, h5⟩ := h
  refine ⟨⟨ao, cap, h0, fun i y hy => ?_, h2⟩, ⟨g, c, h3, h4⟩, h5⟩
  obtain ⟨b, off, e, hlt, hc⟩ := h1 i y hy
  rw [h0] at h3
  subst e
  simp at h3
  have hbg : b = g := h3.1.1
  subst hbg
  refine ⟨b, off, rfl, Nat.lt_of_lt_of_le hlt hb.size, (hb.cell (p := ⟨b, off + i, none⟩) hlt (fun e => hk ?_)).trans hc⟩
  simp only at e
  rw [← e]; exact h4
theorem yield_any {m m' : Nat} {P : Program} {l : Nat} {args : Array Value} {W : World} {R : Ending → World → Prop} (h : YieldAt Fence.wide m P l args W R) : YieldAt Fence.wide m' P l args W R := by
  obtain ⟨fn, tmps, assign, body, hy, hfn, h2⟩ := h
  exact ⟨fn, tmps, assign, body, hy, hfn, fun c cs _ => h2 c cs (fun d hd => by cases hd)⟩
def mark (d : Nat) : Deferred := { target := .collected d, args := #[] }
def Mk (Ds : List Nat) (W : World) : Prop := Ds.Nodup ∧ ∀ d ∈ Ds, W.heap[d]? = some (.deferred (some []))
theorem leaves_marksT {F : Fence} {n : Nat} {P : Program} {fn : Func} {tmps : Array Value} {Rw : World → Prop} {R : Ending → World → Prop} (hres : ∀ W, ∃ v, (results fn tmps).run P W = .ok v W) (D0 : Nat → Prop)
    (hR : ∀ W d, D0 d → W.heap[d]? = some (.deferred (some [])) → Rw W → Rw (W.putObj d (.deferred none))) (hfin : ∀ W v, Rw W → R (.returned v) W) :
    ∀ (Ds : List Nat) (W : World), Mk Ds W → (∀ d ∈ Ds, D0 d) → Rw W → LeavesInM F n P fn tmps R (Ds.map mark) .returning W
  | [], W, _, _, h => by
    obtain ⟨v, hv⟩ := hres W
    exact ⟨v, hv, hfin W v h⟩
  | d :: Ds, W, hM, hD, h => by
    have hd := hM.2 d (by simp)
    have hn := List.nodup_cons.1 hM.1
    refine ⟨by simp, .inl ⟨d, _, rfl, run_takeDeferred hd, ?_⟩⟩
    refine leaves_marksT hres D0 hR hfin Ds _ ⟨hn.2, fun e he => ?_⟩ (fun e he => hD e (by simp [he])) (hR W d (hD d (by simp)) hd h)
    exact (World.putObj_heap_other (fun h' => hn.1 (by rw [← h']; exact he))).trans (hM.2 e (by simp [he]))

/-- The boxes of a level of the iterator. -/
structure Lvl (lb bb tb : Nat) (left : Nat) (bv v fv : Value) (W : World) : Prop where
  l : W.heap[lb]? = some (Obj.cells #[.int .i64 left] 3)
  b : W.heap[bb]? = some (Obj.cells #[bv] 33)
  t : W.heap[tb]? = some (Obj.cells #[v, fv] 65)
theorem Lvl.but {lb bb tb left : Nat} {bv v fv : Value} {W W' : World} {D : Nat → Prop} (h : Lvl lb bb tb left bv v fv W) (hb : But D W W') (h1 : ¬ D lb) (h2 : ¬ D bb) (h3 : ¬ D tb) : Lvl lb bb tb left bv v fv W' := ⟨but_blk hb h.l h1, but_blk hb h.b h2, but_blk hb h.t h3⟩
theorem Lvl.next {lb bb tb left : Nat} {bv v fv : Value} {W W' : World} (h : Lvl lb bb tb left bv v fv W) (hb : Below W.heap.size W W') : Lvl lb bb tb left bv v fv W' := h.but (D := fun _ => False) (But.of_next hb) id id id
/-- What holds behind all rows of a level. -/
def SR (l : List Gn) (left : Nat) (P : List Int) (last : Int) (bv : Value) (xs : List Rv) (W : World) : Prop := xs.map Prod.fst = (tailsN l left last).map (P ++ ·) ∧ W.ownsRow 0 3 1 bv P.length (P.map encI)
/-- What is handed out begins all rows. -/
def PfR (l : List Gn) (left : Nat) (P : List Int) (last : Int) (xs : List Rv) : Prop := xs.map Prod.fst <+: (tailsN l left last).map (P ++ ·)
/-- What is read only. -/
def FxR (w0 : World) (F : List Int) (fv : Value) (W : World) : Prop := Below w0.heap.size w0 W ∧ SlI F fv W

set_option maxRecDepth 100000 in
set_option maxHeartbeats 800000 in
theorem rowsF_any (v fv bv : Value) (left : Nat) (hv : ∃ a n c, v = .slice a n c) (hfv : ∃ a n c, fv = .slice a n c) (hbv : ∃ a n c, bv = .slice a n c) (w : World) : Calls Try.prog 35 #[.agg #[v, fv], bv, .int .i64 left] w fun e w' => e = .returned (.func (.func 56) #[] #[.pointer (some ⟨w.heap.size + 1 + 1, 0, none⟩), .pointer (some ⟨w.heap.size + 1, 0, none⟩), .pointer (some ⟨w.heap.size, 0, none⟩)]) ∧ Lvl (w.heap.size + 1 + 1) (w.heap.size + 1) w.heap.size left bv v fv w' ∧ Below w.heap.size w w' ∧ w'.heap.size = w.heap.size + 3 := by
  obtain ⟨va, vn, vc, rfl⟩ := hv
  obtain ⟨fa, fn, fc, rfl⟩ := hfv
  obtain ⟨ba, bn, bc, rfl⟩ := hbv
  go_enter Try.func35, Try.ntmps35
  go_wp2_with fail
  go_ret
  refine ⟨rfl, ⟨?_, ?_, ?_⟩, (((Below.refl _ _).alloc (Nat.le_refl _) _).alloc (by simp) _).alloc (by simp; omega) _, by simp⟩
  · simpa using heap_alloc_new ((w.alloc (Obj.cells #[.slice va vn vc, .slice fa fn fc] 65)).alloc (Obj.cells #[.slice ba bn bc] 33)) (Obj.cells #[.int .i64 left] 3)
  · exact blk_new (by simpa using heap_alloc_new (w.alloc (Obj.cells #[.slice va vn vc, .slice fa fn fc] 65)) (Obj.cells #[.slice ba bn bc] 33))
  · exact blk_new (blk_new (heap_alloc_new _ _))

set_option maxRecDepth 100000 in
set_option maxHeartbeats 1600000 in
theorem rows_zero (n : Nat) (Fx : World → Prop) (l : List Gn) (P : List Int) (last : Int) (v fv bv : Value) (lb bb tb : Nat) (A0 : Nat → Prop) (W : World) (hL : Lvl lb bb tb 0 bv v fv W) (hrow : W.ownsRow 0 3 1 bv P.length (P.map encI)) (hAr : ∀ k, bv.ownBlock = some k → A0 k) (hP : P ≠ []) (hP64 : ∀ y ∈ P, i64B y) :
    GivesT n Try.prog 56 #[.pointer (some ⟨lb, 0, none⟩), .pointer (some ⟨bb, 0, none⟩), .pointer (some ⟨tb, 0, none⟩)] encRv (SR l 0 P last bv) OkRv (PfR l 0 P last) A0 Fx W := by
  intro yl J St hF hJ
  show CallsIn Fence.wide n Try.prog 56 #[.func (.yield yl) #[] #[], .pointer (some ⟨lb, 0, none⟩), .pointer (some ⟨bb, 0, none⟩), .pointer (some ⟨tb, 0, none⟩)] W _
  have HF : Hid (FeedsT (n - 1) Try.prog yl encRv OkRv (PfR l 0 P last) Fx J St) := hF
  have BA : Below W.heap.size W (W.alloc (Obj.cells #[.func (.yield yl) #[] #[]] 88)) := (Below.refl _ _).alloc (Nat.le_refl _) _
  have hJ1 := HF.out.new _ _ _ _ hJ BA
  have hL1 := hL.next BA
  have hr1 := ownsRow_below4 hrow BA
  obtain ⟨g, c, rfl⟩ : ∃ g c, bv = .slice (some ⟨g, 0, none⟩) P.length c := by
    rcases hrow.2 with ⟨_, h⟩ | ⟨g, c, cur, e, _⟩
    · exact absurd (List.eq_nil_of_length_eq_zero h) hP
    · exact ⟨g, c, e⟩
  have hOk : OkRv (fun k => A0 k ∨ (W.heap.size ≤ k ∧ k < (W.alloc (Obj.cells #[.func (.yield yl) #[] #[]] 88)).heap.size)) (P, .slice (some ⟨g, 0, none⟩) P.length c) (W.alloc (Obj.cells #[.func (.yield yl) #[] #[]] 88)) := ⟨sli_own (B := 0) (show Own1 3 encI 0 P _ _ from hr1) hP64, ⟨g, c, rfl, .inl (hAr g rfl)⟩, hP⟩
  obtain ⟨fn, tmps, assign, body, hyl, hR⟩ := yield_any (m' := n - 1) (HF.out.yield _ [] _ _ hJ1 hOk (by unfold PfR; simp [tailsN]))
  unfold encRv at hyl
  simp only at hyl
  have l0 : (W.alloc (Obj.cells #[.func (.yield yl) #[] #[]] 88)).cell? ⟨lb, 0, none⟩ = some (.int .i64 0) := by rw [Lib.cell_of_heap hL1.l]; rfl
  have b0 : (W.alloc (Obj.cells #[.func (.yield yl) #[] #[]] 88)).cell? ⟨bb, 0, none⟩ = some (.slice (some ⟨g, 0, none⟩) P.length c) := by rw [Lib.cell_of_heap hL1.b]; rfl
  have HG : Hid (∀ W', J (fun k => A0 k ∨ (W.heap.size ≤ k ∧ k < (W.alloc (Obj.cells #[.func (.yield yl) #[] #[]] 88)).heap.size)) ([] ++ [((P, .slice (some ⟨g, 0, none⟩) P.length c) : Rv)]) W' → But (fun k => ¬ (A0 k ∨ (W.heap.size ≤ k ∧ k < (W.alloc (Obj.cells #[.func (.yield yl) #[] #[]] 88)).heap.size))) (W.alloc (Obj.cells #[.func (.yield yl) #[] #[]] 88)) W' → SR l 0 P last (.slice (some ⟨g, 0, none⟩) P.length c) [((P, .slice (some ⟨g, 0, none⟩) P.length c) : Rv)] W' ∧ J A0 [((P, .slice (some ⟨g, 0, none⟩) P.length c) : Rv)] W') := fun W' h1 h2 => ⟨⟨by simp [tailsN], ownsRow_keep hr1 h2 (fun j hj h => h (.inl (hAr j hj)))⟩, HF.out.less _ _ _ _ h1 (fun k hk => .inl hk)⟩
  have HS : Hid (∀ W', St (fun k => A0 k ∨ (W.heap.size ≤ k ∧ k < (W.alloc (Obj.cells #[.func (.yield yl) #[] #[]] 88)).heap.size)) W' → St A0 W') := fun W' h => HF.out.sless _ _ _ h (fun k hk => .inl hk)
  clear hF hJ hJ1 hL hL1 hrow hr1 hOk BA
  refine callsIn_of_wp Try.func56 rfl trivial ?_ rfl
  simp only [Try.ntmps56, List.size_toArray, List.length_cons, List.length_nil, Nat.reduceAdd, Nat.reduceSub, Array.replicate_succ, Array.replicate_zero, List.push_toArray, List.append_toArray, List.nil_append, List.cons_append]
  gi_wp2
  refine ⟨fun h => (by cases h), hR.mono ?_⟩
  rintro e W2 (⟨rfl, hJ2, hB2⟩ | ⟨rfl, hSt, _⟩)
  · have HE := HG.out W2 hJ2 hB2
    clear hR hyl hJ2 hB2
    gi_wp2
    refine bodyPost_ret (results_none rfl _ _ _) rfl ?_
    exact ⟨⟨_, rfl⟩, .inl ⟨_, HE⟩⟩
  · have HE := HS.out W2 hSt
    clear hR hyl hSt
    gi_wp2
    refine bodyPost_ret (results_none rfl _ _ _) rfl ?_
    exact ⟨⟨_, rfl⟩, .inr HE⟩
end Go.Proofs.Ytjpbfckdiojghaa
