/- parts: the ranges of a normal form, with how many bytes are ahead of each; the iterator's contract, over whatever its caller keeps. -/
import Derived.Test.YtdkgeeimhjffdaaKeep
namespace Go.Proofs.Ytdkgeeimhjffdaa
open Go.RowKit Go.Shelf
attribute [local go_sem] Oper.semAt_some

abbrev Pt := Int × Rg
abbrev encP (x : Pt) : Array Value := #[.int .i64 x.1, .agg #[.int .i64 x.2.1, .int .i64 x.2.2]]
def partsL : Int → List Rg → List Pt
  | _, [] => []
  | n, r :: t => (n, r) :: partsL (n + (r.2 - r.1)) t

set_option maxRecDepth 100000 in
set_option maxHeartbeats 1000000 in
theorem parts1_in (n : Nat) (hn : 1 ≤ n) (l Bl : Nat) (es : List Rg) (ao : Option Addr) (cap : Nat) (hf : Fit es) (ho : ∀ r ∈ es, RgOk r) (hl : es.length ≤ 1000000) (Kp : World → World → Prop) (Gd : World → Prop)
    (hread : ∀ {A B : World}, Kp A B → RgAt es ao A → RgAt es ao B)
    (hbox : ∀ {A B : World} {x y : Value}, Gd A → Kp (A.alloc (.cells #[x, y] 29)) B → B.cell? ⟨A.heap.size, 0, none⟩ = some x ∧ B.cell? ⟨A.heap.size, 1, none⟩ = some y ∧ Gd B)
    (J Jx : List Pt → World → Prop) (W : World) (hJ : AbidesFrom W.heap.size J)
    (hY : ∀ pre x W1, J pre W1 → pre.length < es.length → YieldAt Fence.wide (n - 1) Try.prog l (encP x) W1 fun e W' =>
      (e = .returned (.bool true) ∧ J (pre ++ [x]) W' ∧ Kp W1 W') ∨ (e = .returned (.bool false) ∧ Jx (pre ++ [x]) W'))
    (hBl : W.cell? ⟨Bl, 0, none⟩ = some (.slice ao es.length cap)) (hc : RgAt es ao W) (hG : Gd W) (h0 : J [] W) :
    CallsIn Fence.wide n Try.prog 41 #[.func (.yield l) #[] #[], .pointer (some ⟨Bl, 0, none⟩)] W fun e W' => (∃ v, e = .returned v) ∧
      ((∃ ys, ys = partsL 0 es ∧ J ys W') ∨ (∃ pre, pre <+: partsL 0 es ∧ Jx pre W')) := by
  refine callsIn_of_wp Try.func41 rfl trivial ?_ rfl
  simp only [Try.ntmps41, List.size_toArray, List.length_cons, List.length_nil, Nat.reduceAdd, Nat.reduceSub, Array.replicate_succ, Array.replicate_zero, List.push_toArray, List.append_toArray, List.nil_append, List.cons_append]
  gi_wp2
  gi_loopw [3, 8] (fun t i wr => ∃ (T : Int) (j : Nat) (pre : List Pt), t = .int .i64 T ∧ i = .int .i64 j ∧ j ≤ es.length ∧ pre.length = j ∧ 0 ≤ T ∧ sizeN es = T + sizeN (es.drop j) ∧ partsL 0 es = pre ++ partsL T (es.drop j) ∧ RgAt es ao wr ∧ Gd wr ∧ J pre wr) (fun _ i _ => es.length - (intOf i).toNat)
  case atStart => exact ⟨0, 0, [], rfl, rfl, Nat.zero_le _, rfl, Int.le_refl _, by simp, by simp, hc, hG, h0⟩
  case round =>
    clear hc hG h0 hBl
    obtain ⟨T, j, pre, rfl, rfl, hj, hpl, hT, hsz, hpt, hc, hG, hJr⟩ := hrel
    by_cases hlt : j < es.length
    · obtain ⟨b, off, rfl, c0, c1⟩ := hc.at (Below.refl _ _) hlt
      have hm := sizeN_max hf ho
      have h0 := hf.1 _ (List.getElem_mem hlt)
      have hn' := sizeN_nonneg (hf.drop (j + 1))
      rw [List.drop_eq_getElem_cons hlt] at hsz hpt
      simp only [sizeN] at hsz
      simp only [partsL] at hpt
      generalize es[j] = r at *
      obtain ⟨r0, r1⟩ := r
      simp only at c0 c1 hsz h0 hpt
      have HZ : Hid (sizeN es = T + (r1 - r0) + sizeN (es.drop (j + 1))) := by show _ = _; omega
      have HP : Hid (partsL 0 es = (pre ++ [(T, (r0, r1))]) ++ partsL (T + (r1 - r0)) (es.drop (j + 1))) := by show _ = _; rw [hpt]; simp
      have HL : Hid (pre.length = j) := hpl
      have k1 : 0 ≤ r1 - r0 := by omega
      have k2 : r1 - r0 ≤ 9223372036854775807 := by omega
      have k3 : T + (r1 - r0) ≤ 9223372036854775807 := by omega
      have hJ1 : J pre (wr.alloc (.cells #[.int .i64 r0, .int .i64 r1] 29)) := hJ _ _ _ none hJr (World.grownBy_alloc _ _ none) (fun _ e => by cases e)
      have hc1 : RgAt es (some ⟨b, off, none⟩) (wr.alloc (.cells #[.int .i64 r0, .int .i64 r1] 29)) := hc.next ((Below.refl _ _).alloc (Nat.le_refl _) _)
      have hb1 := fun B => hbox (B := B) (x := .int .i64 r0) (y := .int .i64 r1) hG
      obtain ⟨fn, tmps, assign, body, hy, hR⟩ := hY pre (T, (r0, r1)) _ hJ1 (by rw [hpl]; exact hlt)
      dsimp only [encP] at hy
      clear hsz hpt hpl hf ho hm hn' hc hG hJr hJ1 hY hbox
      gi_wp2
      refine hR.mono ?_
      rintro e W3 (⟨rfl, hJ3, hk3⟩ | ⟨rfl, hJx3⟩)
      · obtain ⟨e0, e1, hG3⟩ := hb1 _ hk3
        have hc3 := hread hk3 hc1
        clear hb1 hread
        gi_wp2
        go_roundw
        case rel => exact ⟨T + (r1 - r0), j + 1, _, by go_num, by go_num, by omega, by simp [HL.out], by omega, HZ.out, HP.out, hc3, hG3, hJ3⟩
        case measure => simp [intOf]; omega
      · gi_wp2
        refine bodyPost_ret (results_none rfl _ _ _) rfl ?_
        exact ⟨⟨_, rfl⟩, .inr ⟨_, by rw [HP.out]; exact List.prefix_append _ _, hJx3⟩⟩
    · have HP : Hid (partsL 0 es = pre) := by
        show _ = _
        rw [hpt, List.drop_of_length_le (by omega)]
        simp [partsL]
      clear hsz hpt hc hG hY hbox hread
      gi_wp2
      go_end0
      exact ⟨⟨_, rfl⟩, .inl ⟨pre, HP.out.symm, hJr⟩⟩

set_option maxHeartbeats 400000 in
theorem parts_any (ao : Option Addr) (n cap : Nat) (w : World) :
    Calls Try.prog 37 #[.slice ao n cap] w fun e w' => e = .returned (.func (.func 41) #[] #[.pointer (some ⟨w.heap.size, 0, none⟩)]) ∧ w' = w.alloc (.cells #[.slice ao n cap] 22) := by
  go_enter Try.func37, Try.ntmps37
  go_wp2
  go_ret
  exact ⟨rfl, rfl⟩

/-- What was below n0, and every box of a range, lies as it lay. -/
structure Kp29 (n0 : Nat) (A B : World) : Prop where
  old : Below n0 A B
  box : ∀ (k : Nat) (cs : Array Value) (fr : Nat × Nat), A.heap[k]? = some (Obj.cells cs 29 fr) → B.heap[k]? = some (Obj.cells cs 29 fr)
theorem Kp29.refl (n0 : Nat) (A : World) : Kp29 n0 A A := ⟨Below.refl _ _, fun _ _ _ h => h⟩
theorem Kp29.trans {n0 : Nat} {A B C : World} (h : Kp29 n0 A B) (k : Kp29 n0 B C) : Kp29 n0 A C := ⟨h.old.trans k.old, fun i cs fr hi => k.box i cs fr (h.box i cs fr hi)⟩
theorem Kp29.grown {n0 : Nat} {A B : World} {row : Option Nat} (hg : A.grownBy B row) (hn : n0 ≤ A.heap.size) (hr : ∀ r, row = some r → n0 ≤ r ∧ ∃ o : Obj, A.heap[r]? = some o ∧ ∀ cs fr, o ≠ .cells cs 29 fr) : Kp29 n0 A B := by
  refine ⟨(Below.refl _ _).grown hg hn (fun r e => (hr r e).1), fun k cs fr hk => ?_⟩
  refine (hg.block k (Array.getElem?_eq_some_iff.1 hk).1 fun e => ?_).trans hk
  obtain ⟨_, o, ho, hne⟩ := hr k e.symm
  rw [hk] at ho
  cases ho
  exact hne _ _ rfl
theorem Kp29.alloc {n0 : Nat} {A : World} (hn : n0 ≤ A.heap.size) (o : Obj) : Kp29 n0 A (A.alloc o) := .grown (World.grownBy_alloc A o none) hn (fun _ e => by cases e)
theorem Kp29.putObj {n0 : Nat} {A : World} {l : Nat} {o : Obj} (hl : n0 ≤ l) (h : A.heap[l]? = some o) (hc : o.isCells = false) (o' : Obj) : Kp29 n0 A (A.putObj l o') :=
  .grown (grownBy_putObj' A l o') (by have := (Array.getElem?_eq_some_iff.1 h).1; omega) (fun r e => by cases e; exact ⟨hl, o, h, fun cs fr e => by rw [e] at hc; cases hc⟩)
theorem Kp29.store {n0 : Nat} {A : World} {b o : Nat} {u : Value} {cs : Array Value} {t : TypeId} {fr : Nat × Nat} (hn : n0 ≤ b) (h : A.heap[b]? = some (.cells cs t fr)) (ht : t ≠ 29) : Kp29 n0 A (A.setCell ⟨b, o, none⟩ u) :=
  .grown (grownBy_store _ ⟨b, o, none⟩ _) (by have := (Array.getElem?_eq_some_iff.1 h).1; omega) (fun r e => by cases e; exact ⟨hn, _, h, fun _ _ e => by cases e; exact ht rfl⟩)

theorem parts_stops (n : Nat) (hn : 1 ≤ n) (n0 Bl : Nat) (es : List Rg) (ao : Option Addr) (cap : Nat) (hf : Fit es) (ho : ∀ r ∈ es, RgOk r) (hl : es.length ≤ 1000000) (w : World)
    (hn0 : ∀ (i : Nat) (r : Rg), es[i]? = some r → ∃ b off, ao = some ⟨b, off, none⟩ ∧ b < n0) (hBl : w.cell? ⟨Bl, 0, none⟩ = some (.slice ao es.length cap)) (hc : RgAt es ao w) :
    SeqStopsK Fence.wide n Try.prog 41 #[.pointer (some ⟨Bl, 0, none⟩)] encP (Kp29 n0) (fun ys => ys = partsL 0 es) (fun pre => pre <+: partsL 0 es) es.length w := fun l J Jx W hW hJ _ hY h0 =>
  parts1_in n hn l Bl es ao cap hf ho hl (Kp29 n0) (fun _ => True)
    (fun {A B} hk hr i r hi => by
      obtain ⟨b, off, h1, h2, h3, h4⟩ := hr i r hi
      obtain ⟨b', off', h1', hlt⟩ := hn0 i r hi
      rw [h1] at h1'
      cases h1'
      exact ⟨b, off, h1, Nat.lt_of_lt_of_le h2 hk.old.size, (hk.old.cell (p := ⟨b, off + i * 2, none⟩) hlt).trans h3, (hk.old.cell (p := ⟨b, off + i * 2 + 1, none⟩) hlt).trans h4⟩)
    (fun {A B x y} _ hk => by
      have hb := hk.box A.heap.size _ _ (World.alloc_heap_new A _)
      exact ⟨by rw [cell_of_row B _ 0 _ _ _ hb]; rfl, by rw [cell_of_row B _ 1 _ _ _ hb]; rfl, trivial⟩)
    J Jx W hJ hY ((hW.cell (p := ⟨Bl, 0, none⟩) (World.block_lt_of_cell? _ _ hBl)).trans hBl) (hc.next hW) trivial h0
end Go.Proofs.Ytdkgeeimhjffdaa
