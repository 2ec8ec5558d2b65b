/- Parse of the program. -/
import Derived.Test.YtggehnnbgeffpaaDoorFar
import Derived.Test.YtggehnnbgeffpaaDoorWords
namespace Go.Proofs.YtggehnnbgeffpaaDoor
open Go.Shelf Go.RowKit Go.Lib Go.Proofs
attribute [local go_sem] Oper.semAt_some

def r0 : Rd := ⟨[], [], [.op]⟩
def parseF (r : Rd) : List (Nat × List UInt8) → Sum (Int × Int) Rd
  | [] => .inr r
  | x :: l => if (takeN r x.1 x.2).1 = 0 then parseF (takeN r x.1 x.2).2 l else .inl ((takeN r x.1 x.2).1, x.1)
def parseN (s : List UInt8) : Sum (Int × Int) (List Ins) :=
  match parseF r0 (wordsN s) with
  | .inl f => .inl f
  | .inr r => if r.want ≠ [] then .inl (11, s.length) else match farN r.prog r.prog.length with
    | some i => .inl (10, r.last.getD i 0)
    | none => .inr r.prog
theorem parseF_snoc : ∀ (r : Rd) (l : List (Nat × List UInt8)) (x : Nat × List UInt8) (r' : Rd), parseF r l = .inr r' → parseF r (l ++ [x]) = if (takeN r' x.1 x.2).1 = 0 then .inr (takeN r' x.1 x.2).2 else .inl ((takeN r' x.1 x.2).1, x.1)
  | r, [], x, r', h => by
    simp only [parseF, Sum.inr.injEq] at h
    subst h
    simp [parseF]
  | r, y :: l, x, r', h => by
    simp only [parseF] at h
    split at h
    · rename_i h0
      rw [List.cons_append, parseF, if_pos h0]
      exact parseF_snoc _ l x r' h
    · cases h
theorem parseF_stop : ∀ (r : Rd) (l m : List (Nat × List UInt8)) (x : Nat × List UInt8) (r' : Rd), parseF r l = .inr r' → (takeN r' x.1 x.2).1 ≠ 0 → parseF r (l ++ x :: m) = .inl ((takeN r' x.1 x.2).1, x.1)
  | r, [], m, x, r', h, hx => by
    simp only [parseF, Sum.inr.injEq] at h
    subst h
    simp [parseF, hx]
  | r, y :: l, m, x, r', h, hx => by
    simp only [parseF] at h
    split at h
    · rename_i h0
      rw [List.cons_append, parseF, if_pos h0]
      exact parseF_stop _ l m x r' h hx
    · cases h

def RdGood (r : Rd) : Prop := RdOk r ∧ r.want.length ≤ 100
theorem takers_len (k : Nat) : (takersN k).length ≤ 3 := by
  unfold takersN
  split <;> split <;> split <;> simp
theorem take_good {r : Rd} {a : Int} {w : List UInt8} (h : RdGood r) (h0 : (takeN r a w).1 = 0) : RdGood (takeN r a w).2 := by
  revert h0
  unfold takeN
  split
  · split
    · intro _
      exact ⟨fun ⟨t, ht, hne⟩ => by simp at ht; exact absurd ht hne, by simp⟩
    · simp
  · rename_i t l hw
    have hp : t ≠ .op → r.prog ≠ [] := fun hne => h.1 ⟨t, by rw [hw]; simp, hne⟩
    have hl : l.length ≤ 99 := by have := h.2; rw [hw] at this; simpa using this
    by_cases he : (tkN t { r with want := l } w).1 = 0
    · have hpr := tkN_prog (t := t) (r := { r with want := l }) (w := w) he hp
      simp only [he, if_true]
      intro _
      refine ⟨fun _ => hpr, ?_⟩
      revert he
      cases t with
      | op =>
        simp only [tkN]
        split
        · simp
        · split
          · simp
          · intro _; have := takers_len; simp only; exact Nat.le_trans (this _) (by omega)
      | x => simp only [tkN]; split <;> simp <;> omega
      | y => simp only [tkN]; split <;> simp <;> omega
      | z => simp only [tkN]; split <;> simp <;> omega
    · simp only [he, if_false]
      intro h'
      exact h'.elim

/-- The places of Parse's results. -/
structure PC (N : Nat) (sl e a : Value) (W : World) : Prop where
  s0 : W.cell? ⟨N, 0, none⟩ = some sl
  e0 : W.cell? ⟨N + 1, 0, none⟩ = some e
  a0 : W.cell? ⟨N + 1, 1, none⟩ = some a
  fs : W.frozen? ⟨N, 0, none⟩ = false
  fe : W.frozen? ⟨N + 1, 0, none⟩ = false
  fa : W.frozen? ⟨N + 1, 1, none⟩ = false
  ty : ∃ cs fr, W.heap[N]? = some (.cells cs 22 fr)
  ty1 : ∃ cs fr, W.heap[N + 1]? = some (.cells cs 25 fr)
theorem PC.blocks {N : Nat} {sl e a : Value} {W W' : World} (h : PC N sl e a W) (h0 : W'.heap[N]? = W.heap[N]?) (h1 : W'.heap[N + 1]? = W.heap[N + 1]?) : PC N sl e a W' :=
  ⟨(World.cell?_of_block (a := ⟨N, 0, none⟩) h0).trans h.s0, (World.cell?_of_block (a := ⟨N + 1, 0, none⟩) h1).trans h.e0, (World.cell?_of_block (a := ⟨N + 1, 1, none⟩) h1).trans h.a0, (World.frozen?_of_block (a := ⟨N, 0, none⟩) h0).trans h.fs, (World.frozen?_of_block (a := ⟨N + 1, 0, none⟩) h1).trans h.fe, (World.frozen?_of_block (a := ⟨N + 1, 1, none⟩) h1).trans h.fa, by rw [h0]; exact h.ty, by rw [h1]; exact h.ty1⟩
theorem PC.step {N n0 : Nat} {sl e a : Value} {W W' : World} (h : PC N sl e a W) (hs : RStep n0 W W') : PC N sl e a W' := by
  obtain ⟨cs, fr, h1⟩ := h.ty
  obtain ⟨cs2, fr2, h2⟩ := h.ty1
  exact h.blocks ((hs.kept _ _ h1 (fun _ _ => ⟨by simp, by simp, by simp⟩)).trans h1.symm) ((hs.kept _ _ h2 (fun _ _ => ⟨by simp, by simp, by simp⟩)).trans h2.symm)

theorem words_any (s : ByteArray) (w : World) :
    Calls Tryd.prog 19 #[.string s] w fun e w' => e = .returned (.func (.func 37) #[] #[.pointer (some ⟨w.heap.size, 0, none⟩)]) ∧ w' = w.alloc (.cells #[.string s] 9) := by
  go_enter Tryd.func19, Tryd.ntmps19
  go_wp2
  go_ret
  exact ⟨rfl, rfl⟩
/-- A word of a text that is not too long. -/
abbrev Wd : Type := { x : Nat × List UInt8 // x.2.length ≤ 281474976710656 }
theorem words_stops (n : Nat) (hn : 1 ≤ n) (Bs : Nat) (s : ByteArray) (hs : s.size ≤ 281474976710656) (hix : IxOk s) (w : World) (hB : Bs < w.heap.size) (hc : w.cell? ⟨Bs, 0, none⟩ = some (.string s)) :
    SeqStopsK Fence.wide n Tryd.prog 37 #[.pointer (some ⟨Bs, 0, none⟩)] (fun x : Wd => encW x.1) (KpS Bs) (fun ys => ys.map Subtype.val = wordsN s.data.toList) (fun pre => pre.map Subtype.val <+: wordsN s.data.toList) (s.size + 1) w := fun l J Jx W hW hJ _ hY h0 => by
  refine (words1_in n hn l Bs s (by omega) hix (fun pre W => ∃ p : List Wd, p.map Subtype.val = pre ∧ J p W) (fun pre W => ∃ p : List Wd, p.map Subtype.val = pre ∧ Jx p W)
    (fun pre A B ⟨p, hp, h⟩ hb => ⟨p, hp, hJ p A B none h ⟨hb.os, hb.tape, hb.output, hb.size, fun k hk _ => hb.block k hk⟩ (fun _ e => by cases e)⟩)
    (fun pre x W1 ⟨p, hp, h⟩ hl hx => ?_) W ((hW.cell (p := ⟨Bs, 0, none⟩) hB).trans hc) ⟨[], rfl, h0⟩).mono ?_
  · have hy := hY p ⟨x, by omega⟩ W1 h (by rw [← hp] at hl; simpa using hl)
    obtain ⟨fn, tmps, assign, body, h1, h2⟩ := hy
    refine ⟨fn, tmps, assign, body, h1, h2.mono ?_⟩
    rintro e W' (⟨rfl, h3, h4⟩ | ⟨rfl, h3⟩)
    · exact .inl ⟨rfl, ⟨_, by simp [hp], h3⟩, h4⟩
    · exact .inr ⟨rfl, ⟨_, by simp [hp], h3⟩⟩
  · rintro e W' ⟨hv, ⟨ys, rfl, p, hp, h⟩ | ⟨pre, hpre, p, hp, h⟩⟩
    · exact ⟨hv, .inl ⟨p, hp, h⟩⟩
    · exact ⟨hv, .inr ⟨p, (show p.map Subtype.val <+: _ from by rw [hp]; exact hpre), h⟩⟩

/-- What Parse leaves. -/
def Parsed (s : List UInt8) (w : World) (e : Ending) (w' : World) : Prop :=
  ((∃ er a, parseN s = .inl (er, a) ∧ e = .returned (.tuple #[.slice none 0 0, .agg #[.int .i64 er, .int .i64 a]])) ∨
   (∃ p ao cap, parseN s = .inr p ∧ p.length ≤ 64 ∧ e = .returned (.tuple #[.slice ao p.length cap, .agg #[.int .i64 0, .int .i64 0]]) ∧ InsAt p ao w')) ∧ Below w.heap.size w w'

theorem KpS.of_step {Bs n0 : Nat} {W W' : World} (hs : RStep n0 W W') {cs : Array Value} {fr : Nat × Nat} (h : W.heap[Bs]? = some (.cells cs 9 fr)) : KpS Bs W W' := fun v hv => by
  have := hs.kept Bs _ h (fun _ _ => ⟨by simp, by simp, by simp⟩)
  exact (World.cell?_of_block (a := ⟨Bs, 0, none⟩) (this.trans h.symm)).trans hv
theorem KeepsFrom.of_step {n0 B : Nat} {W W' : World} (hs : RStep n0 W W') : KeepsFrom B W W' :=
  ⟨hs.below.size, fun k o _ hk ho => hs.kept k o hk (fun cs fr => ⟨fun e => (by rw [e] at ho; cases ho), fun e => (by rw [e] at ho; cases ho), fun e => (by rw [e] at ho; cases ho)⟩)⟩

theorem five_heap (w : World) (o0 o1 o2 o3 o4 : Obj) : ((((w.alloc o0).alloc o1).alloc o2).alloc o3 |>.alloc o4).heap[w.heap.size]? = some o0 ∧ ((((w.alloc o0).alloc o1).alloc o2).alloc o3 |>.alloc o4).heap[w.heap.size + 1]? = some o1 ∧ ((((w.alloc o0).alloc o1).alloc o2).alloc o3 |>.alloc o4).heap[w.heap.size + 1 + 1]? = some o2 ∧ ((((w.alloc o0).alloc o1).alloc o2).alloc o3 |>.alloc o4).heap[w.heap.size + 1 + 1 + 1]? = some o3 ∧ ((((w.alloc o0).alloc o1).alloc o2).alloc o3 |>.alloc o4).heap[w.heap.size + 1 + 1 + 1 + 1]? = some o4 := by
  have z : ∀ (W : World) (o : Obj), (W.alloc o).heap.size = W.heap.size + 1 := fun W o => by simp
  have old := fun (W : World) (o : Obj) (k : Nat) (hk : k < W.heap.size) => (show (W.alloc o).heap[k]? = W.heap[k]? from Below.heap_alloc W o k hk)
  have new := fun (W : World) (o : Obj) (k : Nat) (hk : k = W.heap.size) => (show (W.alloc o).heap[k]? = some o by rw [hk]; exact World.alloc_heap_new W o)
  have e0 := z w o0
  have e1 := z (w.alloc o0) o1
  have e2 := z ((w.alloc o0).alloc o1) o2
  have e3 := z (((w.alloc o0).alloc o1).alloc o2) o3
  refine ⟨?_, ?_, ?_, ?_, ?_⟩
  · rw [old _ _ _ (by omega), old _ _ _ (by omega), old _ _ _ (by omega), old _ _ _ (by omega)]; exact new _ _ _ rfl
  · rw [old _ _ _ (by omega), old _ _ _ (by omega), old _ _ _ (by omega)]; exact new _ _ _ (by omega)
  · rw [old _ _ _ (by omega), old _ _ _ (by omega)]; exact new _ _ _ (by omega)
  · rw [old _ _ _ (by omega)]; exact new _ _ _ (by omega)
  · exact new _ _ _ (by omega)
/-- All that is cells lies as it lay. -/
def CellsKept (W W' : World) : Prop := ∀ (k : Nat) (cs : Array Value) (t : TypeId) (fr : Nat × Nat), W.heap[k]? = some (Obj.cells cs t fr) → W'.heap[k]? = some (Obj.cells cs t fr)
theorem CellsKept.of_grown {W W' : World} {row : Option Nat} (hg : W.grownBy W' row) (hr : ∀ r, row = some r → ∃ o : Obj, W.heap[r]? = some o ∧ o.isCells = false) : CellsKept W W' := fun k cs t fr hk => by
  refine (hg.block k (Array.getElem?_eq_some_iff.1 hk).1 fun e => ?_).trans hk
  obtain ⟨o, h1, h2⟩ := hr k e.symm
  rw [hk] at h1
  cases h1
  cases h2
theorem owns_cells {W W' : World} {base n : Nat} {e : TypeId} {size : Nat} {v : Value} {xs : List Value} (h : W.ownsRow base e size v n xs) (hk : CellsKept W W') : W'.ownsRow base e size v n xs := by
  refine ⟨h.1, ?_⟩
  rcases h.2 with h0 | ⟨g, cap, cur, h1, h2, h3, h4⟩
  · exact .inl h0
  · exact .inr ⟨g, cap, cur, h1, h2, hk _ _ _ _ h3, h4⟩
theorem RAt.cellsKept {n0 B : Nat} {r : Rd} {W W' : World} (h : RAt n0 B r W) (hk : CellsKept W W') : RAt n0 B r W' := by
  obtain ⟨h1, h2, h3, vp, vl, vw, hB, hp, hl, hw⟩ := h
  exact ⟨h1, h2, h3, vp, vl, vw, hk _ _ _ _ hB, owns_cells hp hk, owns_cells hl hk, hw.kept fun k cs fr h => hk k cs 77 fr h⟩
theorem PC.cellsKept {N : Nat} {sl e a : Value} {W W' : World} (h : PC N sl e a W) (hk : CellsKept W W') : PC N sl e a W' := by
  obtain ⟨cs, fr, h1⟩ := h.ty
  obtain ⟨cs2, fr2, h2⟩ := h.ty1
  exact h.blocks ((hk _ _ _ _ h1).trans h1.symm) ((hk _ _ _ _ h2).trans h2.symm)

theorem PC.set {N : Nat} {sl e a : Value} {W : World} (h : PC N sl e a W) (sl' e' a' : Value) : PC N sl' e' a' (((W.setCell ⟨N, 0, none⟩ sl').setCell ⟨N + 1, 0, none⟩ e').setCell ⟨N + 1, 1, none⟩ a') := by
  obtain ⟨s0, e0, a0, fs, fe, fa, ⟨cs, fr, t0⟩, ⟨cs1, fr1, t1⟩⟩ := h
  have u0 := heap_set W N 0 _ _ _ t0 sl'
  have u1 : (W.setCell ⟨N, 0, none⟩ sl').heap[N + 1]? = _ := (Below.heap_setCell _ _ _ _ (by show N + 1 ≠ N; omega)).trans t1
  have v1 := heap_set _ (N + 1) 0 _ _ _ u1 e'
  have v0 : ((W.setCell ⟨N, 0, none⟩ sl').setCell ⟨N + 1, 0, none⟩ e').heap[N]? = _ := (Below.heap_setCell _ _ _ _ (by show N ≠ N + 1; omega)).trans u0
  have z1 := heap_set _ (N + 1) 1 _ _ _ v1 a'
  have z0 : (((W.setCell ⟨N, 0, none⟩ sl').setCell ⟨N + 1, 0, none⟩ e').setCell ⟨N + 1, 1, none⟩ a').heap[N]? = _ := (Below.heap_setCell _ _ _ _ (by show N ≠ N + 1; omega)).trans v0
  constructor
  case ty => exact ⟨_, _, z0⟩
  case ty1 => exact ⟨_, _, z1⟩
  all_goals clear u0 u1 v0 v1 z0 z1 t0 t1
  all_goals go_simp

theorem parse_end {n N D : Nat} {tm : Array Value} {sl er a : Value} {w W : World} {R : Ending → World → Prop} (hN : N = w.heap.size) (hPC : PC N sl er a W) (hB : Below N w W) (hND : N + 1 < D) (hK : W.heap[D]? = some (.deferred (some [])))
    (hres : ∀ W', W'.cell? ⟨N, 0, none⟩ = some sl → W'.cell? ⟨N + 1, 0, none⟩ = some er → W'.cell? ⟨N + 1, 1, none⟩ = some a → (results Tryd.f8 tm).run Tryd.prog W' = .ok (.tuple #[sl, .agg #[er, a]]) W')
    (hpost : ∀ W', CellsKept W W' → Below N w W' → R (.returned (.tuple #[sl, .agg #[er, a]])) W') :
    bodyPostM Fence.wide n Tryd.prog Tryd.f8 R Exit.ret { tmps := tm, defers := [{ target := .collected D, args := #[] }] } W := by
  refine ⟨by simp, .inl ⟨_, _, rfl, run_takeDeferred hK, ?_⟩⟩
  have hk : CellsKept W (W.putObj D (.deferred none)) := CellsKept.of_grown (grownBy_putObj' W D _) (fun r e => by cases e; exact ⟨_, hK, rfl⟩)
  have hPC2 := hPC.cellsKept hk
  exact ⟨_, hres _ hPC2.s0 hPC2.e0 hPC2.a0, hpost _ hk (hB.trans (belowK_b (w := w) (Nat.le_of_eq hN) W D _ _ (by omega) hK rfl rfl))⟩

set_option maxRecDepth 100000 in
set_option maxHeartbeats 4000000 in
theorem parse_in (n : Nat) (hn : 3 ≤ n) (s : ByteArray) (w : World) (hs : s.size ≤ 281474976710656) (hix : IxOk s) (hV : Vars w) :
    CallsIn Fence.wide n Tryd.prog 8 #[.string s] w (Parsed s.data.toList w) := by
  have h1 : 1 ≤ n := by omega
  refine callsIn_of_wp_marks Tryd.func8 rfl trivial ?_ rfl
  simp only [Tryd.ntmps8, List.size_toArray, List.length_cons, List.length_nil, Nat.reduceAdd, Nat.reduceSub, Array.replicate_succ, Array.replicate_zero, List.push_toArray, List.append_toArray, List.nil_append, List.cons_append]
  gi_wp2_with fail
  refine ⟨trivial, ?_⟩
  refine (callsIn_wide.2 (words_any _ _)).mono ?_
  rintro e w1 ⟨rfl, rfl⟩
  gi_wp2
  have h5 := five_heap w (Obj.cells #[Value.slice none 0 0] 22) (Obj.cells #[Value.int IntKind.i64 0, Value.int IntKind.i64 0] 25) (Obj.cells #[Value.func (Fn.func 18) #[] #[]] 77) (Obj.cells #[Value.slice none 0 0, Value.slice none 0 0, Value.slice (some ⟨w.heap.size + 1 + 1, 0, none⟩) 1 1] 46) (Obj.cells #[Value.string s] 9)
  have hB0 : Below w.heap.size w (((((w.alloc (Obj.cells #[Value.slice none 0 0] 22)).alloc (Obj.cells #[Value.int IntKind.i64 0, Value.int IntKind.i64 0] 25)).alloc (Obj.cells #[Value.func (Fn.func 18) #[] #[]] 77)).alloc (Obj.cells #[Value.slice none 0 0, Value.slice none 0 0, Value.slice (some ⟨w.heap.size + 1 + 1, 0, none⟩) 1 1] 46)).alloc (Obj.cells #[Value.string s] 9)) := (((((Below.refl _ _).alloc (Nat.le_refl _) _).alloc (by simp) _).alloc (by simp <;> omega) _).alloc (by simp <;> omega) _).alloc (by simp <;> omega) _
  have hsz : (((((w.alloc (Obj.cells #[Value.slice none 0 0] 22)).alloc (Obj.cells #[Value.int IntKind.i64 0, Value.int IntKind.i64 0] 25)).alloc (Obj.cells #[Value.func (Fn.func 18) #[] #[]] 77)).alloc (Obj.cells #[Value.slice none 0 0, Value.slice none 0 0, Value.slice (some ⟨w.heap.size + 1 + 1, 0, none⟩) 1 1] 46)).alloc (Obj.cells #[Value.string s] 9)).heap.size = w.heap.size + 5 := by simp
  generalize (((((w.alloc (Obj.cells #[Value.slice none 0 0] 22)).alloc (Obj.cells #[Value.int IntKind.i64 0, Value.int IntKind.i64 0] 25)).alloc (Obj.cells #[Value.func (Fn.func 18) #[] #[]] 77)).alloc (Obj.cells #[Value.slice none 0 0, Value.slice none 0 0, Value.slice (some ⟨w.heap.size + 1 + 1, 0, none⟩) 1 1] 46)).alloc (Obj.cells #[Value.string s] 9)) = W0 at *
  obtain ⟨b0, b1, b2, b3, b4⟩ := h5
  have hPC0 : PC w.heap.size (.slice none 0 0) (.int .i64 0) (.int .i64 0) W0 := ⟨by rw [cell_of_obj b0]; rfl, by rw [cell_of_obj b1]; rfl, by rw [cell_of_obj b1]; rfl, by simp [World.frozen?, b0], by simp [World.frozen?, b1], by simp [World.frozen?, b1], ⟨_, _, b0⟩, ⟨_, _, b1⟩⟩
  have hR0 : RAt w.heap.size (w.heap.size + 1 + 1 + 1) r0 W0 := by
    refine ⟨by omega, rfl, by decide, _, _, _, b3, World.ownsRow_nil _ _ _ _, World.ownsRow_nil _ _ _ _, ⟨some ⟨w.heap.size + 1 + 1, 0, none⟩, 1, rfl, Nat.le_refl _, fun i t ht => ?_⟩⟩
    match i, ht with
    | 0, ht =>
      simp [r0] at ht
      subst ht
      exact ⟨_, 0, _, _, rfl, b2, by rw [cell_of_obj b2]; rfl⟩
    | i + 1, ht => simp [r0] at ht
  have hS0 : W0.cell? ⟨w.heap.size + 1 + 1 + 1 + 1, 0, none⟩ = some (.string s) := by rw [cell_of_obj b4]; rfl
  have hG0 : RdGood r0 := ⟨fun ⟨t, ht, hne⟩ => by simp [r0] at ht; exact absurd ht hne, by decide⟩
  have h4 : 4 < w.heap.size := hV.lt
  clear b0 b1 b2 b3
  refine wpIn_rangeFunc_ownH (α := Wd) rfl h1 (gf := 37) (lb := #[.pointer (some ⟨w.heap.size + 1 + 1 + 1 + 1, 0, none⟩)]) rfl trivial (enters_of Tryd.func37 (by kernel_rfl) rfl)
    (words_stops (n - 1) (by omega) (w.heap.size + 1 + 1 + 1 + 1) s hs hix W0 (by omega) hS0) kpS_t (fun W l o o' _ h hc _ => kpS_b W l o o' h hc) (Below.refl _ _) (fun _ => rfl)
    (fun pre W => ((∃ r, parseF r0 (pre.map Subtype.val) = .inr r ∧ RdGood r ∧ RAt w.heap.size (w.heap.size + 1 + 1 + 1) r W) ∧ PC w.heap.size (.slice none 0 0) (.int .i64 0) (.int .i64 0) W ∧ W.heap[w.heap.size + 1 + 1 + 1 + 1]? = some (.cells #[.string s] 9 (0, 0))) ∧ Below w.heap.size w W)
    (fun c pre W => (c = .ret ∧ ∃ pre' x r, pre = pre' ++ [x] ∧ parseF r0 (pre'.map Subtype.val) = .inr r ∧ (takeN r x.1.1 x.1.2).1 ≠ 0 ∧ PC w.heap.size (.slice none 0 0) (.int .i64 (takeN r x.1.1 x.1.2).1) (.int .i64 x.1.1) W) ∧ Below w.heap.size w W)
    (OwnFrom.and (Own.from (fun s A B row hs hg hr => by
      obtain ⟨⟨r, h1, h2, h3⟩, h4, h5⟩ := hs
      have hk := CellsKept.of_grown hg hr
      exact ⟨⟨r, h1, h2, h3.cellsKept hk⟩, h4.cellsKept hk, hk _ _ _ _ h5⟩) _) (ownFrom_below (Nat.le_refl _) (by omega)))
    (fun c => OwnFrom.and (Own.from (fun s A B row hs hg hr => by
      obtain ⟨h1, p, y, r, h2, h3, h4, h5⟩ := hs
      exact ⟨h1, p, y, r, h2, h3, h4, h5.cellsKept (CellsKept.of_grown hg hr)⟩) _) (ownFrom_below (Nat.le_refl _) (by omega)))
    ⟨⟨⟨r0, rfl, hG0, hR0⟩, hPC0, b4⟩, hB0⟩
    (fun x a' _ => a' = { tmps := #[.string s, undef, .pointer (some ⟨w.heap.size, 0, none⟩), .pointer (some ⟨w.heap.size + 1, 0, none⟩), .pointer (some ⟨w.heap.size + 1 + 1 + 1, 0, none⟩), .int .i64 x.1.1, .string ⟨x.1.2.toArray⟩, undef, undef, undef, .slice (some ⟨w.heap.size + 1 + 1, 0, none⟩) 1 1, .agg #[.slice none 0 0, .slice none 0 0, .slice (some ⟨w.heap.size + 1 + 1, 0, none⟩) 1 1], .string s, .func (.func 37) #[] #[.pointer (some ⟨w.heap.size + 1 + 1 + 1 + 1, 0, none⟩)], .int .i64 x.1.1, .string ⟨x.1.2.toArray⟩, undef, undef, undef, undef, undef, undef, undef, undef, undef, undef, undef, undef, undef, undef, undef, undef, undef, undef, undef, undef, undef, undef, undef, undef, undef], defers := [] })
    (fun x a' _ X Y row hs hg hr => hs)
    ?assign ?body ?done ?stop
  case assign =>
    rintro l pre x W K hI hK
    gi_wp2
    exact hK _ _ (KeepsFrom.refl _ _) (fun _ h => h) hI rfl
  case body =>
    rintro l pre x a' W hl hr ⟨⟨⟨r, hp, hg, hR⟩, hPC, hSb⟩, hB⟩ rfl hlt
    have htk := take_any w.heap.size (w.heap.size + 1 + 1 + 1) r x.1.1 ⟨x.1.2.toArray⟩ W (by have := x.2; show x.1.2.toArray.size ≤ _; simpa using this) (hV.nextB h4 hB) h4 hR hg.1 hg.2
    have e2 : (⟨x.1.2.toArray⟩ : ByteArray).data.toList = x.1.2 := by simp
    rw [e2] at htk
    have HP : Hid (parseF r0 (pre.map Subtype.val) = .inr r) := hp
    have hd : 1 ≤ n - 1 - 1 := by omega
    clear hr hp hV hPC0 hR0 hS0 hB0 b4 hG0
    gi_wp2_with fail
    refine ⟨trivial, ?_⟩
    refine (CallsIn.inRound l (callsIn_wide.2 htk)).mono ?_
    rintro e W1 ⟨rfl, hst, hR1⟩
    have hPC1 := hPC.step hst
    have hB1 : Below w.heap.size w W1 := hB.trans hst.below
    have hSb1 : W1.heap[w.heap.size + 1 + 1 + 1 + 1]? = some (.cells #[.string s] 9 (0, 0)) := hst.kept _ _ hSb (fun _ _ => ⟨by simp, by simp, by simp⟩)
    have HK : Hid (KeepsFrom W0.heap.size W W1) := KeepsFrom.of_step hst
    have HS : Hid (KpS (w.heap.size + 1 + 1 + 1 + 1) W W1) := KpS.of_step hst hSb
    have hgd := fun h0 => take_good (a := x.1.1) (w := x.1.2) hg h0
    clear htk hst hPC hB hSb hR hg
    have HSN := parseF_snoc r0 (pre.map Subtype.val) x.1 r HP.out
    have HSN2 : Hid (parseF r0 ((pre ++ [x]).map Subtype.val) = if (takeN r x.1.1 x.1.2).1 = 0 then .inr (takeN r x.1.1 x.1.2).2 else .inl ((takeN r x.1.1 x.1.2).1, (x.1.1 : Int))) := by
      show _ = _
      rw [List.map_append]
      exact HSN
    clear HSN
    generalize htr : takeN r x.1.1 x.1.2 = er at *
    have HTR : Hid (takeN r x.1.1 x.1.2 = er) := htr
    clear htr
    obtain ⟨ev, r'⟩ := er
    simp only at hR1 hgd HSN2
    by_cases h0 : ev = 0
    · subst h0
      gi_wp2
      exact ⟨HK.out, HS.out, ⟨⟨r', by rw [HSN2.out]; simp, hgd trivial, hR1 trivial⟩, hPC1, hSb1⟩, hB1⟩
    · have h0' : (ev == 0) = false := beq_eq_false_iff_ne.2 h0
      have HPC : Hid (PC w.heap.size (.slice none 0 0) (.int .i64 0) (.int .i64 0) W1) := hPC1
      obtain ⟨s0, e0, a0, fs, fe, fa, -, -⟩ := hPC1
      gi_wp2
      refine ⟨HK.out.trans ((((KeepsOthers.setCell _ _ _).trans (KeepsOthers.setCell _ _ _)).trans (KeepsOthers.setCell _ _ _)).from _), ⟨rfl, pre, x, r, rfl, HP.out, by rw [HTR.out]; exact h0, ?_⟩, ((hB1.setCell (by simp) _).setCell (by simp) _).setCell (by simp) _⟩
      rw [HTR.out]
      exact HPC.out.set _ _ _
  case stop =>
    rintro D c pre W hD hpre ⟨⟨rfl, pre', x, r, rfl, hp, hne, hPC⟩, hB⟩ hK
    have HE : Hid (parseN s.data.toList = .inl ((takeN r x.1.1 x.1.2).1, (x.1.1 : Int))) := by
      show _ = _
      obtain ⟨rest, hrest⟩ := hpre
      have : parseF r0 (wordsN s.data.toList) = .inl ((takeN r x.1.1 x.1.2).1, (x.1.1 : Int)) := by
        rw [← hrest, List.map_append, List.append_assoc]
        exact parseF_stop r0 _ _ x.1 r hp hne
      unfold parseN
      rw [this]
    gi_wp2
    refine parse_end rfl hPC hB (by omega) hK (fun W' h1 h2 h3 => by simp [results, Tryd.f8, go_sem, h1, h2, h3]) (fun W' _ hB' => ⟨.inl ⟨_, _, HE.out, rfl⟩, hB'⟩)
  case done =>
    rintro D ys W hD hys ⟨⟨⟨r, hp, hg, hR⟩, hPC, hSb⟩, hB⟩ hK
    rw [hys] at hp
    obtain ⟨vp, vl, vw, hBx, hop, hol, hw⟩ := hR.ex
    obtain ⟨c0, c1, c2, f0, f1, f2⟩ := RB.cells ⟨hR.nB, hBx, hop, hol, hw⟩
    obtain ⟨wo, wc, rfl, hwc, hwcell⟩ := id hw
    obtain ⟨s0, e0, a0, fs, fe, fa, -, -⟩ := id hPC
    by_cases hwant : r.want = []
    · have hwl : r.want.length = 0 := by rw [hwant]; rfl
      rw [hwl] at c2
      have hfar := tooFar_any w.heap.size (w.heap.size + 1 + 1 + 1) r W hR
      obtain ⟨po, pc, rfl, hins⟩ := own_insAt hop
      have HPC : Hid (PC w.heap.size (.slice none 0 0) (.int .i64 0) (.int .i64 0) W) := hPC
      have hltB := (Array.getElem?_eq_some_iff.1 hBx).1
      have HK : Hid (W.heap[D]? = some (.deferred (some []))) := hK
      have hDl := (Array.getElem?_eq_some_iff.1 hK).1
      cases hf : farN r.prog r.prog.length with
      | some i =>
        have HE : Hid (parseN s.data.toList = .inl (10, r.last.getD i 0)) := by
          show _ = _
          unfold parseN
          rw [hp]
          simp [hwant, hf]
        have hv : tooFarV r = .tuple #[.int .i64 (r.last.getD i 0), .bool true] := by unfold tooFarV; rw [hf]
        rw [hv] at hfar
        generalize r.last.getD i 0 = lv at *
        clear hwcell hw hPC hop hol hR hBx hK hp hf hv
        gi_wp2_with fail
        refine ⟨trivial, ?_⟩
        refine (callsIn_wide.2 hfar).mono ?_
        rintro e W2 ⟨rfl, hb2⟩
        have hPC2 := HPC.out.blocks (W' := W2) (hb2.block _ (by omega)) (hb2.block _ (by omega))
        have HPC2 : Hid (PC w.heap.size (.slice none 0 0) (.int .i64 0) (.int .i64 0) W2) := hPC2
        have hB2 : Below w.heap.size w W2 := below_next hB hb2
        have hK2 : W2.heap[D]? = _ := (hb2.block D hDl).trans HK.out
        obtain ⟨s0, e0, a0, fs, fe, fa, -, -⟩ := hPC2
        clear c0 c1 c2 f0 f1 f2 hfar
        gi_wp2
        refine parse_end rfl (HPC2.out.set _ _ _) (((hB2.setCell (by simp) _).setCell (by simp) _).setCell (by simp) _) (by omega) ((((KeepsOthers.setCell W2 ⟨w.heap.size, 0, none⟩ (.slice none 0 0)).trans (KeepsOthers.setCell _ ⟨w.heap.size + 1, 0, none⟩ (.int .i64 10))).trans (KeepsOthers.setCell _ ⟨w.heap.size + 1, 1, none⟩ (.int .i64 lv))).same D _ hK2 rfl) (fun W' h1 h2 h3 => by simp [results, Tryd.f8, go_sem, h1, h2, h3]) (fun W' _ hB' => ⟨.inl ⟨_, _, HE.out, rfl⟩, hB'⟩)
      | none =>
        have HE : Hid (parseN s.data.toList = .inr r.prog) := by
          show _ = _
          unfold parseN
          rw [hp]
          simp [hwant, hf]
        have hv : tooFarV r = .tuple #[.int .i64 0, .bool false] := by unfold tooFarV; rw [hf]
        rw [hv] at hfar
        have hrle := hR.le
        have hnB := hR.nB
        have HOP : Hid (W.ownsRow w.heap.size 39 4 (.slice po r.prog.length pc) r.prog.length (r.prog.flatMap encI)) := hop
        clear hwcell hw hPC hop hol hR hBx hK hp hf hv hins
        gi_wp2_with fail
        refine ⟨trivial, ?_⟩
        refine (callsIn_wide.2 hfar).mono ?_
        rintro e W2 ⟨rfl, hb2⟩
        have hPC2 := HPC.out.blocks (W' := W2) (hb2.block _ (by omega)) (hb2.block _ (by omega))
        have HPC2 : Hid (PC w.heap.size (.slice none 0 0) (.int .i64 0) (.int .i64 0) W2) := hPC2
        have hB2 : Below w.heap.size w W2 := below_next hB hb2
        have hK2 : W2.heap[D]? = _ := (hb2.block D hDl).trans HK.out
        have HO2 : Hid (W2.ownsRow w.heap.size 39 4 (.slice po r.prog.length pc) r.prog.length (r.prog.flatMap encI)) := own_next HOP.out hb2
        have c0 := (hb2.cell (p := ⟨w.heap.size + 1 + 1 + 1, 0, none⟩) hltB).trans c0
        obtain ⟨s0, e0, a0, fs, fe, fa, ⟨cs0, fr0, t0⟩, ⟨cs1, fr1, t1⟩⟩ := hPC2
        have T0 : Hid (W2.heap[w.heap.size]? = some (.cells cs0 22 fr0)) := t0
        have T1 : Hid (W2.heap[w.heap.size + 1]? = some (.cells cs1 25 fr1)) := t1
        clear c1 c2 f0 f1 f2 hfar t0 t1
        gi_wp2
        have hown : (((W2.setCell ⟨w.heap.size, 0, none⟩ (.slice po r.prog.length pc)).setCell ⟨w.heap.size + 1, 0, none⟩ (.int .i64 0)).setCell ⟨w.heap.size + 1, 1, none⟩ (.int .i64 0)).ownsRow w.heap.size 39 4 (.slice po r.prog.length pc) r.prog.length (r.prog.flatMap encI) := by
          have u1 : (W2.setCell ⟨w.heap.size, 0, none⟩ (.slice po r.prog.length pc)).heap[w.heap.size + 1]? = _ := (Below.heap_setCell _ _ _ _ (by show w.heap.size + 1 ≠ w.heap.size; omega)).trans T1.out
          have v1 := heap_set _ (w.heap.size + 1) 0 _ _ _ u1 (.int .i64 0)
          exact owns_other (owns_other (owns_other HO2.out (grown_set' _ _ _ _) T0.out (by decide)) (grown_set' _ _ _ _) u1 (by decide)) (grown_set' _ _ _ _) v1 (by decide)
        refine parse_end rfl (HPC2.out.set _ _ _) (((hB2.setCell (by simp) _).setCell (by simp) _).setCell (by simp) _) (by omega) ((((KeepsOthers.setCell W2 ⟨w.heap.size, 0, none⟩ (.slice po r.prog.length pc)).trans (KeepsOthers.setCell _ ⟨w.heap.size + 1, 0, none⟩ (.int .i64 0))).trans (KeepsOthers.setCell _ ⟨w.heap.size + 1, 1, none⟩ (.int .i64 0))).same D _ hK2 rfl) (fun W' h1 h2 h3 => by simp [results, Tryd.f8, go_sem, h1, h2, h3]) (fun W' hk hB' => ?_)
        obtain ⟨ao', cap', e', hins'⟩ := own_insAt (owns_cells hown hk)
        cases e'
        exact ⟨.inr ⟨_, _, _, HE.out, hrle, rfl, hins'⟩, hB'⟩
    · have HE : Hid (parseN s.data.toList = .inl (11, s.size)) := by
        show _ = _
        unfold parseN
        rw [hp]
        simp [hwant]
      have hwl : 0 < r.want.length := List.length_pos_iff.2 hwant
      have hwl2 : ¬ (r.want.length : Int) = 0 := by omega
      have hwl3 : (0 : Int) < r.want.length := by omega
      have HPC : Hid (PC w.heap.size (.slice none 0 0) (.int .i64 0) (.int .i64 0) W) := hPC
      clear hwcell hw hPC
      gi_wp2
      refine parse_end rfl (HPC.out.set _ _ _) (((hB.setCell (by simp) _).setCell (by simp) _).setCell (by simp) _) (by omega) ((((KeepsOthers.setCell W ⟨w.heap.size, 0, none⟩ (.slice none 0 0)).trans (KeepsOthers.setCell _ ⟨w.heap.size + 1, 0, none⟩ (.int .i64 11))).trans (KeepsOthers.setCell _ ⟨w.heap.size + 1, 1, none⟩ (.int .i64 s.size))).same D _ hK rfl) (fun W' h1 h2 h3 => by simp [results, Tryd.f8, go_sem, h1, h2, h3]) (fun W' _ hB' => ⟨.inl ⟨_, _, HE.out, rfl⟩, hB'⟩)

theorem parse_any (s : ByteArray) (w : World) (hs : s.size ≤ 281474976710656) (hix : IxOk s) (hV : Vars w) : Calls Tryd.prog 8 #[.string s] w (Parsed s.data.toList w) :=
  callsIn_wide.1 (parse_in 3 (Nat.le_refl _) s w hs hix hV)
end Go.Proofs.YtggehnnbgeffpaaDoor
