/- borders: the places where ranges of two sets begin or end, each once and rising, and what holds from there on. -/
import Derived.Test.YtdkgeeimhjffdaaRange
import Derived.WalkMore
namespace Go.Proofs.Ytdkgeeimhjffdaa
open Go.RowKit Go.Shelf
attribute [local go_sem] Oper.semAt_some

abbrev encB (y : Bd) : Array Value := #[.int .i64 y.1, .agg #[.bool y.2.1, .bool y.2.2]]

theorem grownBy_store (W : World) (a : Addr) (u : Value) : W.grownBy (W.setCell a u) (some a.block) :=
  ⟨rfl, rfl, rfl, by simp [World.setCell], fun k _ hne => Below.heap_setCell _ _ _ _ (fun e => hne (by rw [e]))⟩

/-- The block that counts what is open. -/
def Opn (o : Nat) (x y : Int) (W : World) : Prop := W.heap[o]? = some (.cells #[.int .i64 0, .int .i64 x, .int .i64 y] 65 (0, 0))
theorem Opn.cells {o : Nat} {x y : Int} {W : World} (h : Opn o x y W) : W.cell? ⟨o, 1, none⟩ = some (.int .i64 x) ∧ W.cell? ⟨o, 2, none⟩ = some (.int .i64 y) ∧ W.frozen? ⟨o, 1, none⟩ = false ∧ W.frozen? ⟨o, 2, none⟩ = false :=
  ⟨by rw [cell_of_row W o 1 _ _ _ h]; rfl, by rw [cell_of_row W o 2 _ _ _ h]; rfl, frozen_of_row W o 1 _ _ h, frozen_of_row W o 2 _ _ h⟩
theorem Opn.lt {o : Nat} {x y : Int} {W : World} (h : Opn o x y W) : o < W.heap.size := (Array.getElem?_eq_some_iff.1 h).1
theorem Opn.kept {o : Nat} {x y : Int} {A B : World} (h : Opn o x y A) (k : Kp65 A B) : Opn o x y B := k _ _ _ h

/-- A row of marks and its block. -/
structure MkBlk (ms : List Mk) (g : Nat) (W : World) : Prop where
  at_ : MkAt ms g W
  blk : ∃ cur fr, W.heap[g]? = some (.cells cur 65 fr)
theorem MkBlk.kept {ms : List Mk} {g : Nat} {A B : World} (h : MkBlk ms g A) (k : Kp65 A B) : MkBlk ms g B := by
  obtain ⟨cur, fr, hc⟩ := h.blk
  have hb := k _ _ _ hc
  refine ⟨fun i m hm => ?_, ⟨cur, fr, hb⟩⟩
  have e : ∀ o, B.cell? ⟨g, o, none⟩ = A.cell? ⟨g, o, none⟩ := fun o => World.cell?_of_block (by show B.heap[g]? = A.heap[g]?; rw [hb, hc])
  rw [e, e, e]
  exact h.at_ i m hm
theorem MkBlk.lt {ms : List Mk} {g : Nat} {W : World} (h : MkBlk ms g W) : g < W.heap.size := by
  obtain ⟨cur, fr, hc⟩ := h.blk
  exact (Array.getElem?_eq_some_iff.1 hc).1

/-- What one round of borders does to its own memory. -/
theorem step_mem {W W2 : World} {g o : Nat} {ms : List Mk} {x y x' y' : Int} {ob : Obj} (hM : MkBlk ms g W) (hO : Opn o x y W) (hgo : g ≠ o) (hW2 : ((W.setCell ⟨o, 1, none⟩ (.int .i64 x')).setCell ⟨o, 2, none⟩ (.int .i64 y')).alloc ob = W2) :
    MkBlk ms g W2 ∧ Opn o x' y' W2 := by
  subst hW2
  have h2 : (W.setCell ⟨o, 1, none⟩ (.int .i64 x')).heap[o]? = some (.cells #[.int .i64 0, .int .i64 x', .int .i64 y] 65 (0, 0)) := by
    rw [heap_setCell_same _ o 1 _ _ _ hO]; rfl
  have h3 : ((W.setCell ⟨o, 1, none⟩ (.int .i64 x')).setCell ⟨o, 2, none⟩ (.int .i64 y')).heap[o]? = some (.cells #[.int .i64 0, .int .i64 x', .int .i64 y'] 65 (0, 0)) := by
    rw [heap_setCell_same _ o 2 _ _ _ h2]; rfl
  have h4 : Opn o x' y' ((W.setCell ⟨o, 1, none⟩ (.int .i64 x')).setCell ⟨o, 2, none⟩ (.int .i64 y')) := h3
  refine ⟨MkBlk.kept ?_ (.alloc _ _), h4.kept (.alloc _ _)⟩
  have hb : ((W.setCell ⟨o, 1, none⟩ (.int .i64 x')).setCell ⟨o, 2, none⟩ (.int .i64 y')).heap[g]? = W.heap[g]? :=
    (Below.heap_setCell _ _ _ _ hgo).trans (Below.heap_setCell _ _ _ _ hgo)
  obtain ⟨cur, fr, hc⟩ := hM.blk
  refine ⟨fun i m hm => ?_, ⟨cur, fr, hb.trans hc⟩⟩
  have e : ∀ o', ((W.setCell ⟨o, 1, none⟩ (.int .i64 x')).setCell ⟨o, 2, none⟩ (.int .i64 y')).cell? ⟨g, o', none⟩ = W.cell? ⟨g, o', none⟩ := fun o' => World.cell?_of_block hb
  rw [e, e, e]
  exact hM.at_ i m hm

theorem step_J {β : Type} {B : Nat} {J : β → World → Prop} (hJ : Abide B J) {s : β} {W W2 : World} {o : Nat} {x y x' y' : Int} {ob : Obj} (h : J s W) (hO : Opn o x y W) (hB : B ≤ o) (hW2 : ((W.setCell ⟨o, 1, none⟩ (.int .i64 x')).setCell ⟨o, 2, none⟩ (.int .i64 y')).alloc ob = W2) : J s W2 := by
  subst hW2
  have h2 : (W.setCell ⟨o, 1, none⟩ (.int .i64 x')).heap[o]? = some (.cells #[.int .i64 0, .int .i64 x', .int .i64 y] 65 (0, 0)) := by
    rw [heap_setCell_same _ o 1 _ _ _ hO]; rfl
  refine hJ _ _ _ none (hJ _ _ _ _ (hJ _ _ _ _ h (grownBy_store _ ⟨o, 1, none⟩ _) ?_) (grownBy_store _ ⟨o, 2, none⟩ _) ?_) (World.grownBy_alloc _ ob none) (fun _ e => by cases e)
  · intro r e; cases e; exact ⟨hB, _, hO, .inr ⟨_, _, rfl⟩⟩
  · intro r e; cases e; exact ⟨hB, _, h2, .inr ⟨_, _, rfl⟩⟩

theorem new_cell (W : World) (a b : Addr) (u v x0 x1 x2 : Value) (t : TypeId) : (((W.setCell a u).setCell b v).alloc (.cells #[x0, x1, x2] t)).cell? ⟨W.heap.size, 0, none⟩ = some x0 := by
  have : ((W.setCell a u).setCell b v).heap.size = W.heap.size := by simp [World.setCell]
  generalize (W.setCell a u).setCell b v = V at *
  rw [← this]
  clear this
  simp

theorem J_drew {β : Type} {B : Nat} {J : β → World → Prop} (hJ : Abide B J) {s : β} {W : World} (h : J s W) (q : Nat) : J s (W.drewN q) :=
  hJ _ _ _ none h ⟨rfl, rfl, rfl, Nat.le_refl _, fun _ _ _ => rfl⟩ (fun _ e => by cases e)

theorem J_below {β : Type} {J : β → World → Prop} {s : β} {W W' : World} (hJ : Abide W.heap.size J) (h : J s W) (hb : Below W.heap.size W W') : J s W' :=
  hJ _ _ _ none h ⟨hb.os, hb.tape, hb.output, hb.size, fun k hk _ => hb.block k hk⟩ (fun _ e => by cases e)

set_option maxRecDepth 100000 in
set_option maxHeartbeats 2000000 in
theorem borders1_in (n : Nat) (hn : 2 ≤ n) (l Ba Bb : Nat) (a b : List Rg) (ao bo : Option Addr) (cap dap : Nat) (hoa : ∀ r ∈ a, RgOk r) (hob : ∀ r ∈ b, RgOk r) (hla : a.length ≤ 1000000) (hlb : b.length ≤ 1000000) (J : List Bd → World → Prop)
    (W : World) (hJ : Abide W.heap.size J)
    (hY : ∀ pre x W1, J pre W1 → pre.length < 2 * (a.length + b.length) → YieldAt Fence.wide (n - 1) Try.prog l (encB x) W1 fun e W' => e = .returned (.bool true) ∧ J (pre ++ [x]) W' ∧ Kp65 W1 W')
    (hBa : W.cell? ⟨Ba, 0, none⟩ = some (.slice ao a.length cap)) (hBb : W.cell? ⟨Bb, 0, none⟩ = some (.slice bo b.length dap)) (ha : RgAt a ao W) (hb : RgAt b bo W) (h0 : J [] W) :
    CallsIn Fence.wide n Try.prog 43 #[.func (.yield l) #[] #[], .pointer (some ⟨Ba, 0, none⟩), .pointer (some ⟨Bb, 0, none⟩)] W fun e W' => (∃ v, e = .returned v) ∧ ∃ ys, (Bord a b ys ∧ ys.length ≤ 2 * (a.length + b.length)) ∧ J ys W' := by
  have hn1 : 1 ≤ n := by omega
  refine callsIn_of_wp Try.func43 rfl trivial ?_ rfl
  simp only [Try.ntmps43, List.size_toArray, List.length_cons, List.length_nil, Nat.reduceAdd, Nat.reduceSub, Array.replicate_succ, Array.replicate_zero, List.push_toArray, List.append_toArray, List.nil_append, List.cons_append]
  gi_wp2_with fail
  refine ⟨trivial, ?_⟩
  refine (callsIn_wide.2 (marks_any a b ao bo cap dap W ha hb hla hlb)).mono ?_
  rintro e w1 ⟨ms, c, rfl, B1, hlt, hp, hs, hM, hcu⟩
  have hJ1 := J_below hJ h0 B1
  have hM1 : MkBlk ms W.heap.size (w1.alloc (.cells #[.int .i64 0, .int .i64 0, .int .i64 0] 65)) := MkBlk.kept ⟨hM, hcu⟩ (.alloc _ _)
  have hO1 : Opn w1.heap.size 0 0 (w1.alloc (.cells #[.int .i64 0, .int .i64 0, .int .i64 0] 65)) := World.alloc_heap_new w1 _
  have hJ2 : J [] (w1.alloc (.cells #[.int .i64 0, .int .i64 0, .int .i64 0] 65)) := hJ _ _ _ none hJ1 (World.grownBy_alloc _ _ none) (fun _ e => by cases e)
  have hml : ms.length ≤ 2 * (a.length + b.length) := by rw [hp.length_eq]; exact marks_len a b
  have hmo : ∀ m ∈ ms, MkOk m := fun m hm => marks_ok hoa hob m (hp.mem_iff.1 hm)
  have HP : Hid (ms.Perm (marksL a b)) := hp
  have HS : Hid (ms.Pairwise (fun m n : Mk => m.1 ≤ n.1)) := hs
  clear hJ1 hM hcu hp hs ha hb hBa hBb h0
  have hgo : W.heap.size ≠ w1.heap.size := by omega
  have hBo : W.heap.size ≤ w1.heap.size := by omega
  generalize hGd : W.heap.size = g at *
  generalize hOd : w1.heap.size = o at *
  gi_wp2
  gi_loopw [14] (fun i wr => ∃ (j : Nat) (ys : List Bd), i = .int .i64 j ∧ j ≤ ms.length ∧ Binv (ms.take j) (ms.drop j) ys ∧ J ys wr ∧ MkBlk ms g wr ∧ Opn o (tA (ms.take j)) (tB (ms.take j)) wr) (fun i _ => ms.length - (intOf i).toNat)
  case atStart => exact ⟨0, [], rfl, Nat.zero_le _, by simpa using binv_nil ms, hJ2, hM1, hO1⟩
  case round =>
    clear hJ2 hM1 hO1
    obtain ⟨j, ys, rfl, hj, hbi, hJr, hMr, hOr⟩ := hrel
    by_cases hlt2 : j < ms.length
    · obtain ⟨m, hm⟩ : ∃ m, ms[j]? = some m := ⟨ms[j], by simp [hlt2]⟩
      obtain ⟨d0, d1, d2⟩ := hMr.at_ j m hm
      obtain ⟨o1, o2, f1, f2⟩ := hOr.cells
      have hmok := hmo m (List.mem_of_getElem? hm)
      have hle := tA_le (l := ms.take j) (fun k hk => hmo k (List.mem_of_mem_take hk))
      have hle2 := tB_le (l := ms.take j) (fun k hk => hmo k (List.mem_of_mem_take hk))
      simp only [List.length_take] at hle hle2
      have HBI : Hid (Binv (ms.take j) (ms.drop j) ys) := hbi
      have HM : Hid (MkBlk ms g wr) := hMr
      have HO : Hid (Opn o (tA (ms.take j)) (tB (ms.take j)) wr) := hOr
      have HD : Hid (ms.drop j = m :: ms.drop (j + 1) ∧ ms.take (j + 1) = ms.take j ++ [m]) := by
        rw [List.getElem?_eq_getElem hlt2] at hm
        cases hm
        exact ⟨List.drop_eq_getElem_cons hlt2, List.take_succ_eq_append_getElem hlt2⟩
      have HTA : Hid (tA (ms.take (j + 1)) = tA (ms.take j) + m.2.1) := by show _ = _; rw [HD.out.2, tA_snoc]
      have HTB : Hid (tB (ms.take (j + 1)) = tB (ms.take j) + m.2.2) := by show _ = _; rw [HD.out.2, tB_snoc]
      have Hm : Hid (ms[j]? = some m) := hm
      have ho : o < wr.heap.size := hOr.lt
      have hgl : g < wr.heap.size := hMr.lt
      have hne : o ≠ wr.heap.size := by omega
      have hne2 : g ≠ wr.heap.size := by omega
      clear hm hbi hMr hOr
      obtain ⟨m0, m1, m2⟩ := m
      simp only [MkOk] at hmok
      obtain ⟨hm0, hm0', hm1, hm1', hm2, hm2'⟩ := hmok
      simp only at d0 d1 d2
      generalize tA (ms.take j) = x at *
      generalize tB (ms.take j) = y at *
      obtain ⟨hx1, hx2⟩ := hle
      obtain ⟨hy1, hy2⟩ := hle2
      have w1' : wrap64 (x + m1) = x + m1 := IntWalk.wrap64_in _ (by omega)
      have w2' : wrap64 (y + m2) = y + m2 := IntWalk.wrap64_in _ (by omega)
      gi_wp2
      obtain ⟨W2, hW2⟩ : ∃ W2, ((wr.setCell ⟨o, 1, none⟩ (.int .i64 (x + m1))).setCell ⟨o, 2, none⟩ (.int .i64 (y + m2))).alloc (.cells #[.int .i64 m0, .int .i64 m1, .int .i64 m2] 65) = W2 := ⟨_, rfl⟩
      obtain ⟨hM2, hO2⟩ := step_mem HM.out HO.out hgo hW2
      have hJ3 := step_J hJ hJr HO.out hBo hW2
      have cm : W2.cell? ⟨wr.heap.size, 0, none⟩ = some (.int .i64 m0) := by rw [← hW2]; exact new_cell _ _ _ _ _ _ _ _ _
      rw [hW2]
      clear hW2 HM HO d0 d1 d2 o1 o2 f1 f2 w1' w2' hJr
      generalize wr.heap.size = z at *
      obtain ⟨o1, o2, f1, f2⟩ := hO2.cells
      have hpre : ∀ k ∈ ms.take j, k.1 ≤ m0 := fun k hk => by
        have h1 := HS.out
        rw [← List.take_append_drop j ms, HD.out.1] at h1
        exact (List.pairwise_append.1 h1).2.2 k hk (m0, m1, m2) (by simp)
      have hpost : (ms.drop (j + 1)).Pairwise (fun m n : Mk => m.1 ≤ n.1) ∧ ∀ k ∈ ms.drop (j + 1), m0 ≤ k.1 := by
        have h1 := HS.out
        rw [← List.take_append_drop j ms, HD.out.1] at h1
        have h2 := List.pairwise_cons.1 (List.pairwise_append.1 h1).2.1
        exact ⟨h2.2, fun k hk => h2.1 k hk⟩
      have HPR : Hid ((∀ k ∈ ms.take j, k.1 ≤ m0) ∧ (ms.drop (j + 1)).Pairwise (fun m n : Mk => m.1 ≤ n.1) ∧ ∀ k ∈ ms.drop (j + 1), m0 ≤ k.1) := ⟨hpre, hpost⟩
      have hBI := HBI.out
      rw [HD.out.1] at hBI
      have hlen : ys.length < 2 * (a.length + b.length) := by have := hBI.len; simp only [List.length_take] at this; omega
      have HBJ : Hid (Binv (ms.take j) ((m0, m1, m2) :: ms.drop (j + 1)) ys) := hBI
      have HGG : Hid ((∀ k ∈ ms.drop (j + 1), m0 < k.1) → Binv (ms.take (j + 1)) (ms.drop (j + 1)) (ys ++ [(m0, decide (0 < x + m1), decide (0 < y + m2))])) := fun h => by
        have := binv_give hBI hm0 hpre h
        rw [← HD.out.2, HTA.out, HTB.out] at this
        exact this
      have hYW := fun q => hY ys (m0, decide (0 < x + m1), decide (0 < y + m2)) (W2.drewN q) (J_drew hJ hJ3 q) hlen
      clear hpre hpost hBI HBI hY
      by_cases hA : j + 1 < ms.length
      · obtain ⟨m', hm'⟩ : ∃ m', ms[j + 1]? = some m' := ⟨ms[j + 1], by simp [hA]⟩
        obtain ⟨d3, _, _⟩ := hM2.at_ (j + 1) m' hm'
        have hA1 : ((j : Int) + 1 < (ms.length : Int)) := by omega
        have hA2 : decide ((j : Int) + 1 < (ms.length : Int)) = true := by simpa using hA1
        have Hm' : Hid (ms.drop (j + 1) = m' :: ms.drop (j + 1 + 1)) := by
          rw [List.getElem?_eq_getElem hA] at hm'
          cases hm'
          exact List.drop_eq_getElem_cons hA
        clear hm'
        obtain ⟨m0', m1', m2'⟩ := m'
        simp only at d3
        by_cases heq : m0' = m0
        · subst heq
          have HG : Hid (Binv (ms.take (j + 1)) (ms.drop (j + 1)) ys) := by
            have := binv_skip HBJ.out ⟨(m0', m1', m2'), by rw [Hm'.out]; simp, rfl⟩
            rw [← HD.out.2] at this
            exact this
          clear hYW
          refine wpIn_wide.2 ?_
          go_quiet (fail)
          gi_wp2
          go_roundw
          case rel => exact ⟨j + 1, ys, by go_num, by omega, HG.out, J_drew hJ hJ3 _, hM2.kept (fun _ _ _ h => h), by rw [HTA.out, HTB.out]; exact hO2⟩
          case measure => simp [intOf]; omega
        · have heq2 : (m0' == m0) = false := by simpa using heq
          have HG : Hid (Binv (ms.take (j + 1)) (ms.drop (j + 1)) (ys ++ [(m0, decide (0 < x + m1), decide (0 < y + m2))])) := HGG.out fun k hk => by
            have h1 := HPR.out.2.2 (m0', m1', m2') (by rw [Hm'.out]; simp)
            have h2 := HPR.out.2.1
            rw [Hm'.out] at h2 hk
            simp only at h1
            rcases List.mem_cons.1 hk with rfl | hk
            · simp only; omega
            · have := (List.pairwise_cons.1 h2).1 k hk
              simp only at this
              omega
          clear HGG
          refine wpIn_wide.2 ?_
          go_quiet (fail)
          obtain ⟨fn, tmps, assign, body, hy, hR⟩ := hYW nq
          dsimp only [encB] at hy
          have q0 : (W2.drewN nq).cell? ⟨z, 0, none⟩ = some (.int .i64 m0) := cm
          have q1 : (W2.drewN nq).cell? ⟨o, 1, none⟩ = some (.int .i64 (x + m1)) := o1
          have q2 : (W2.drewN nq).cell? ⟨o, 2, none⟩ = some (.int .i64 (y + m2)) := o2
          have hM3 : MkBlk ms g (W2.drewN nq) := hM2.kept (fun _ _ _ h => h)
          have hO3 : Opn o (x + m1) (y + m2) (W2.drewN nq) := hO2
          clear o1 o2 f1 f2 cm hYW
          generalize W2.drewN nq = W3 at *
          gi_wp2
          refine hR.mono ?_
          rintro e W4 ⟨rfl, hJ4, hk4⟩
          have hM4 := hM3.kept hk4
          have hO4 := hO3.kept hk4
          clear hM3 hO3
          gi_wp2
          go_roundw
          case rel => exact ⟨j + 1, _, by go_num, by omega, HG.out, hJ4, hM4, by rw [HTA.out, HTB.out]; exact hO4⟩
          case measure => simp [intOf]; omega
      · have hA1 : ¬ ((j : Int) + 1 < (ms.length : Int)) := by omega
        have hA2 : decide ((j : Int) + 1 < (ms.length : Int)) = false := by simpa using hA1
        have HG : Hid (Binv (ms.take (j + 1)) (ms.drop (j + 1)) (ys ++ [(m0, decide (0 < x + m1), decide (0 < y + m2))])) := HGG.out fun k hk => by
          rw [List.drop_of_length_le (by omega)] at hk
          simp at hk
        clear HGG
        refine wpIn_wide.2 ?_
        go_quiet (fail)
        obtain ⟨fn, tmps, assign, body, hy, hR⟩ := hYW nq
        dsimp only [encB] at hy
        have q0 : (W2.drewN nq).cell? ⟨z, 0, none⟩ = some (.int .i64 m0) := cm
        have q1 : (W2.drewN nq).cell? ⟨o, 1, none⟩ = some (.int .i64 (x + m1)) := o1
        have q2 : (W2.drewN nq).cell? ⟨o, 2, none⟩ = some (.int .i64 (y + m2)) := o2
        have hM3 : MkBlk ms g (W2.drewN nq) := hM2.kept (fun _ _ _ h => h)
        have hO3 : Opn o (x + m1) (y + m2) (W2.drewN nq) := hO2
        clear o1 o2 f1 f2 cm hYW
        generalize W2.drewN nq = W3 at *
        gi_wp2
        refine hR.mono ?_
        rintro e W4 ⟨rfl, hJ4, hk4⟩
        have hM4 := hM3.kept hk4
        have hO4 := hO3.kept hk4
        clear hM3 hO3
        gi_wp2
        go_roundw
        case rel => exact ⟨j + 1, _, by go_num, by omega, HG.out, hJ4, hM4, by rw [HTA.out, HTB.out]; exact hO4⟩
        case measure => simp [intOf]; omega
    · have hE : ms.drop j = [] := List.drop_of_length_le (by omega)
      have hT : ms.take j = ms := List.take_of_length_le (by omega)
      rw [hE, hT] at hbi
      have HB : Hid (Bord a b ys ∧ ys.length ≤ 2 * (a.length + b.length)) := ⟨binv_bord hbi HP.out, Nat.le_trans hbi.len hml⟩
      clear hbi hMr hOr hE hT
      gi_wp2
      go_end0
      exact ⟨⟨_, rfl⟩, ys, HB.out, hJr⟩

set_option maxHeartbeats 400000 in
theorem borders_any (ao bo : Option Addr) (n m cap dap : Nat) (w : World) :
    Calls Try.prog 40 #[.slice ao n cap, .slice bo m dap] w fun e w' => e = .returned (.func (.func 43) #[] #[.pointer (some ⟨w.heap.size, 0, none⟩), .pointer (some ⟨w.heap.size + 1, 0, none⟩)]) ∧ w' = (w.alloc (.cells #[.slice ao n cap] 22)).alloc (.cells #[.slice bo m dap] 22) := by
  go_enter Try.func40, Try.ntmps40
  go_wp2
  go_ret
  exact ⟨rfl, rfl⟩

theorem borders_gives (n : Nat) (hn : 2 ≤ n) (Ba Bb : Nat) (a b : List Rg) (ao bo : Option Addr) (cap dap : Nat) (hoa : ∀ r ∈ a, RgOk r) (hob : ∀ r ∈ b, RgOk r) (hla : a.length ≤ 1000000) (hlb : b.length ≤ 1000000) (w : World)
    (hBa : w.cell? ⟨Ba, 0, none⟩ = some (.slice ao a.length cap)) (hBb : w.cell? ⟨Bb, 0, none⟩ = some (.slice bo b.length dap)) (ha : RgAt a ao w) (hb : RgAt b bo w) :
    Gives n Try.prog 43 #[.pointer (some ⟨Ba, 0, none⟩), .pointer (some ⟨Bb, 0, none⟩)] encB (fun ys => Bord a b ys ∧ ys.length ≤ 2 * (a.length + b.length)) (2 * (a.length + b.length)) w := fun l J W hW hJ hY h0 =>
  borders1_in n hn l Ba Bb a b ao bo cap dap hoa hob hla hlb J W hJ hY ((hW.cell (p := ⟨Ba, 0, none⟩) (World.block_lt_of_cell? _ _ hBa)).trans hBa) ((hW.cell (p := ⟨Bb, 0, none⟩) (World.block_lt_of_cell? _ _ hBb)).trans hBb) (ha.next hW) (hb.next hW) h0
end Go.Proofs.Ytdkgeeimhjffdaa
