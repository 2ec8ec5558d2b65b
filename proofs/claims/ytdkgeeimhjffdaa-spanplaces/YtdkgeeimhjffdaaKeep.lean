/- keep, and with it Norm, Join, Meet, Less of the program: the normal form of the bytes that stay. -/
import Derived.Test.YtdkgeeimhjffdaaBorders
import Derived.Deep.AppendLies
namespace Go.Proofs.Ytdkgeeimhjffdaa
open Go.RowKit Go.Shelf
attribute [local go_sem] Oper.semAt_some

theorem info29 : (Try.prog.info? 29).map (fun i => (i.zero, i.size, i.bytes)) = some (some (.agg #[.int .i64 0, .int .i64 0]), 2, 16) := by kernel_rfl

def encR (r : Rg) : List Value := [.int .i64 r.1, .int .i64 r.2]
/-- A row of ranges of the call's own. -/
def OwnR (B : Nat) (rs : List Rg) (v : Value) (W : World) : Prop := W.ownsRow B 29 2 v rs.length (rs.flatMap encR)

theorem flatR_get : ∀ (rs : List Rg) (i c : Nat), c < 2 → (rs.flatMap encR)[i * 2 + c]? = rs[i]?.map fun r => (encR r)[c]!
  | [], i, c, _ => by simp
  | r :: t, 0, c, hc => by
    match c, hc with
    | 0, _ => simp [encR]
    | 1, _ => simp [encR]
  | r :: t, i + 1, c, hc => by
    rw [List.flatMap_cons, List.getElem?_append_right (by simp [encR]; omega)]
    have : (i + 1) * 2 + c - (encR r).length = i * 2 + c := by simp [encR]; omega
    rw [this, flatR_get t i c hc]
    simp

theorem OwnR.nil (B : Nat) (W : World) : OwnR B [] (.slice none 0 0) W := World.ownsRow_nil W B 29 2
/-- What is owned can be read. -/
theorem OwnR.at_ {B : Nat} {rs : List Rg} {v : Value} {W : World} (h : OwnR B rs v W) : ∃ ao cap, v = .slice ao rs.length cap ∧ RgAt rs ao W ∧ (ao = none ∨ ∃ g, ao = some ⟨g, 0, none⟩ ∧ B ≤ g ∧ g < W.heap.size ∧ ∃ cur, W.heap[g]? = some (.cells cur 29 (0, 0))) := by
  rcases h.2 with ⟨rfl, h0⟩ | ⟨g, cap, cur, rfl, hB, hg, _⟩
  · have : rs = [] := List.length_eq_zero_iff.1 h0
    subst this
    exact ⟨none, 0, rfl, RgAt.nil _ _, .inl rfl⟩
  · have hlt : g < W.heap.size := (Array.getElem?_eq_some_iff.1 hg).1
    refine ⟨_, cap, rfl, fun i r hr => ⟨g, 0, rfl, hlt, ?_, ?_⟩, .inr ⟨g, rfl, hB, hlt, cur, hg⟩⟩
    · have hi : i < rs.length := (List.getElem?_eq_some_iff.1 hr).1
      rw [Nat.zero_add, h.cellAt (i * 2) (by omega)]
      have := flatR_get rs i 0 (by omega)
      rw [Nat.add_zero] at this
      rw [this, hr]
      rfl
    · have hi : i < rs.length := (List.getElem?_eq_some_iff.1 hr).1
      rw [Nat.zero_add, h.cellAt (i * 2 + 1) (by omega), flatR_get rs i 1 (by omega), hr]
      rfl

theorem OwnR.snoc {B : Nat} {rs : List Rg} {r : Rg} {v : Value} {W : World} (h : W.ownsRow B 29 2 v (rs.length + 1) (rs.flatMap encR ++ encR r)) : OwnR B (rs ++ [r]) v W := by
  unfold OwnR
  simpa using h

theorem encR_one (r : Rg) : ∀ u ∈ encR r, u.oneCell' = true := by
  intro u hu
  simp [encR] at hu
  rcases hu with rfl | rfl <;> rfl

theorem cells2 (r : Rg) (W : World) (t : TypeId) : ∀ (j : Nat) (u : Value), (encR r)[j]? = some u → (W.alloc (.cells #[.int .i64 r.1, .int .i64 r.2] t)).cell? ((⟨W.heap.size, 0, none⟩ : Addr).add j) = some u := by
  intro j u hj
  rw [add_plain]
  match j, hj with
  | 0, hj => simpa [encR] using hj
  | 1, hj => simpa [encR] using hj
  | j + 2, hj => simp [encR] at hj

/-- The cells of keep's own variables. -/
structure KeB (N : Nat) (pf : Nat) (v : Value) (f : Int) (o : Bool) (W : World) : Prop where
  s : W.heap[N]? = some (.cells #[.func (.func pf) #[] #[]] 43 (0, 0))
  l : W.heap[N + 1]? = some (.cells #[v] 22 (0, 0))
  f : W.heap[N + 1 + 1]? = some (.cells #[.int .i64 f] 3 (0, 0))
  o : W.heap[N + 1 + 1 + 1]? = some (.cells #[.bool o] 4 (0, 0))

theorem KeB.kept {N B : Nat} {pf : Nat} {v : Value} {f : Int} {o : Bool} {W W' : World} {row : Option Nat} (h : KeB N pf v f o W) (hg : W.grownBy W' row) (hB : N + 4 ≤ B) (hr : ∀ r, row = some r → B ≤ r) : KeB N pf v f o W' := by
  have key : ∀ (k : Nat) (o : Obj), W.heap[k]? = some o → k < N + 4 → W'.heap[k]? = some o := fun k o hk hlt =>
    (hg.block k (Array.getElem?_eq_some_iff.1 hk).1 (fun e => by have := hr k e.symm; omega)).trans hk
  exact ⟨key _ _ h.s (by omega), key _ _ h.l (by omega), key _ _ h.f (by omega), key _ _ h.o (by omega)⟩
theorem KeB.cells {N : Nat} {pf : Nat} {v : Value} {f : Int} {o : Bool} {W : World} (h : KeB N pf v f o W) :
    W.cell? ⟨N, 0, none⟩ = some (.func (.func pf) #[] #[]) ∧ W.cell? ⟨N + 1, 0, none⟩ = some v ∧ W.cell? ⟨N + 1 + 1, 0, none⟩ = some (.int .i64 f) ∧ W.cell? ⟨N + 1 + 1 + 1, 0, none⟩ = some (.bool o) ∧
    W.frozen? ⟨N + 1, 0, none⟩ = false ∧ W.frozen? ⟨N + 1 + 1, 0, none⟩ = false ∧ W.frozen? ⟨N + 1 + 1 + 1, 0, none⟩ = false :=
  ⟨by rw [cell_of_row W _ 0 _ _ _ h.s]; rfl, by rw [cell_of_row W _ 0 _ _ _ h.l]; rfl, by rw [cell_of_row W _ 0 _ _ _ h.f]; rfl, by rw [cell_of_row W _ 0 _ _ _ h.o]; rfl, frozen_of_row W _ 0 _ _ h.l, frozen_of_row W _ 0 _ _ h.f, frozen_of_row W _ 0 _ _ h.o⟩
theorem KeB.lt {N : Nat} {pf : Nat} {v : Value} {f : Int} {o : Bool} {W : World} (h : KeB N pf v f o W) : N + 3 < W.heap.size := (Array.getElem?_eq_some_iff.1 h.o).1
theorem KeB.setL {N : Nat} {pf : Nat} {v : Value} {f : Int} {o : Bool} {W : World} (h : KeB N pf v f o W) (v' : Value) : KeB N pf v' f o (W.setCell ⟨N + 1, 0, none⟩ v') :=
  ⟨(Below.heap_setCell _ _ _ _ (by show N ≠ N + 1; omega)).trans h.s, by rw [heap_setCell_same _ _ 0 _ _ _ h.l]; rfl, (Below.heap_setCell _ _ _ _ (by show N + 1 + 1 ≠ N + 1; omega)).trans h.f, (Below.heap_setCell _ _ _ _ (by show N + 1 + 1 + 1 ≠ N + 1; omega)).trans h.o⟩
theorem KeB.setF {N : Nat} {pf : Nat} {v : Value} {f : Int} {o : Bool} {W : World} (h : KeB N pf v f o W) (f' : Int) : KeB N pf v f' o (W.setCell ⟨N + 1 + 1, 0, none⟩ (.int .i64 f')) :=
  ⟨(Below.heap_setCell _ _ _ _ (by show N ≠ N + 1 + 1; omega)).trans h.s, (Below.heap_setCell _ _ _ _ (by show N + 1 ≠ N + 1 + 1; omega)).trans h.l, by rw [heap_setCell_same _ _ 0 _ _ _ h.f]; rfl, (Below.heap_setCell _ _ _ _ (by show N + 1 + 1 + 1 ≠ N + 1 + 1; omega)).trans h.o⟩
theorem KeB.setO {N : Nat} {pf : Nat} {v : Value} {f : Int} {o : Bool} {W : World} (h : KeB N pf v f o W) (o' : Bool) : KeB N pf v f o' (W.setCell ⟨N + 1 + 1 + 1, 0, none⟩ (.bool o')) :=
  ⟨(Below.heap_setCell _ _ _ _ (by show N ≠ N + 1 + 1 + 1; omega)).trans h.s, (Below.heap_setCell _ _ _ _ (by show N + 1 ≠ N + 1 + 1 + 1; omega)).trans h.l, (Below.heap_setCell _ _ _ _ (by show N + 1 + 1 ≠ N + 1 + 1 + 1; omega)).trans h.f, by rw [heap_setCell_same _ _ 0 _ _ _ h.o]; rfl⟩

theorem OwnR.kept {B : Nat} {rs : List Rg} {v : Value} {W W' : World} {row : Option Nat} (h : OwnR B rs v W) (hg : W.grownBy W' row) (hr : ∀ r, row = some r → r < B ∨ ∃ o : Obj, W.heap[r]? = some o ∧ ∀ cs fr, o ≠ .cells cs 29 fr) : OwnR B rs v W' := by
  refine World.ownsRow.kept h hg ?_
  rcases h.2 with ⟨rfl, _⟩ | ⟨g, cap, cur, rfl, hB, hk, _⟩
  · exact .inl rfl
  · refine .inr fun e => ?_
    rcases hr g e.symm with h1 | ⟨o, ho, hne⟩
    · omega
    · rw [hk] at ho
      cases ho
      exact hne _ _ rfl
theorem away_ne {o : Obj} (h : Away o) : ∀ cs fr, o ≠ .cells cs 29 fr := by
  rintro cs fr rfl
  rcases h with h | ⟨cs', fr', h⟩
  · cases h
  · cases h
theorem kp_store {W : World} {b o : Nat} {u : Value} {cs : Array Value} {t : TypeId} {fr : Nat × Nat} (h : W.heap[b]? = some (.cells cs t fr)) (ht : t ≠ 65) : Kp65 W (W.setCell ⟨b, o, none⟩ u) :=
  .grown (grownBy_store _ ⟨b, o, none⟩ _) (fun r e => by cases e; exact ⟨_, h, fun _ _ e => by cases e; exact ht rfl⟩)
theorem kp_drew (W : World) : Kp65 W W.drew := fun _ _ _ h => h

def KeI (N B pf : Nat) (p : Bool → Bool → Bool) (w : World) (pre : List Bd) (W : World) : Prop :=
  (∃ v, KeB N pf v (kfold p pre).2.1 (kfold p pre).2.2 W ∧ OwnR B (kfold p pre).1 v W) ∧ Below N w W ∧ B ≤ W.heap.size
theorem KeI.abide {N B pf : Nat} {p : Bool → Bool → Bool} {w : World} (hB : N + 4 ≤ B) : Abide B (KeI N B pf p w) := by
  rintro s X Y row ⟨⟨v, h1, h2⟩, h3, h4⟩ hg hr
  refine ⟨⟨v, h1.kept hg hB (fun r e => (hr r e).1), h2.kept hg (fun r e => .inr ?_)⟩, h3.grown hg (by have := h1.lt; omega) (fun k e => by have := (hr k e).1; omega), Nat.le_trans h4 hg.size⟩
  obtain ⟨_, o, ho, ha⟩ := hr r e
  exact ⟨o, ho, away_ne ha⟩

theorem KeB.drew {N pf : Nat} {v : Value} {f : Int} {o : Bool} {W : World} (h : KeB N pf v f o W) : KeB N pf v f o W.drew := ⟨h.s, h.l, h.f, h.o⟩
theorem OwnR.store {B : Nat} {rs : List Rg} {v : Value} {W : World} (h : OwnR B rs v W) {b : Nat} (hb : b < B) (o : Nat) (u : Value) : OwnR B rs v (W.setCell ⟨b, o, none⟩ u) :=
  h.kept (grownBy_store _ ⟨b, o, none⟩ _) (fun r e => by cases e; exact .inl hb)

/-- What a round leaves that turns 'from' and 'open'. -/
theorem ke_fin {N B pf : Nat} {v : Value} {f : Int} {o : Bool} {rs : List Rg} {w W W1 : World} (hK : KeB N pf v f o W1) (hO : OwnR B rs v W1) (hB : Below N w W1) (hNB : N + 4 ≤ B) (hsz : B ≤ W1.heap.size) (hF : KeepsFrom B W W1) (hP : Kp65 W W1) (f' : Int) (o' : Bool) {W' : World}
    (hW' : ((W1.setCell ⟨N + 1 + 1, 0, none⟩ (.int .i64 f')).setCell ⟨N + 1 + 1 + 1, 0, none⟩ (.bool o')).drew = W') : KeepsFrom B W W' ∧ Kp65 W W' ∧ (∃ v, KeB N pf v f' o' W' ∧ OwnR B rs v W') ∧ Below N w W' ∧ B ≤ W'.heap.size := by
  subst hW'
  refine ⟨hF.trans ((((KeepsOthers.setCell _ _ _).trans (KeepsOthers.setCell _ _ _)).trans (KeepsOthers.drew _)).from _), hP.trans ((kp_store hK.f (by decide)).trans ((kp_store (hK.setF f').o (by decide)).trans (kp_drew _))), ⟨v, ((hK.setF f').setO o').drew, ?_⟩, ?_, ?_⟩
  · exact World.ownsRow.drew ((hO.store (by omega) _ _).store (by omega) _ _)
  · exact ((hB.setCell (by show N ≤ N + 1 + 1; omega) _).setCell (by show N ≤ N + 1 + 1 + 1; omega) _).drew
  · show B ≤ ((W1.setCell _ _).setCell _ _).heap.size
    simpa [World.setCell] using hsz

/-- What an append to the row leaves, stored. -/
theorem ke_app {N B pf : Nat} {v : Value} {f : Int} {o : Bool} {rs : List Rg} {r : Rg} {ob : Obj} {w W W1 w2 : World} {g' c' : Nat} (hK : KeB N pf v f o W1) (hO : OwnR B rs v W1) (hB : Below N w W1) (hNB : N + 4 ≤ B) (hsz : B ≤ W1.heap.size) (hF : KeepsFrom B W W1) (hP : Kp65 W W1)
    (hown : w2.ownsRow B 29 2 (.slice (some ⟨g', 0, none⟩) (rs.length + 1) c') (rs.length + 1) (rs.flatMap encR ++ encR r)) (hgrow : (W1.alloc ob).grownBy w2 v.ownBlock) :
    ∃ w3, w2.setCell ⟨N + 1, 0, none⟩ (.slice (some ⟨g', 0, none⟩) (rs.length + 1) c') = w3 ∧ KeB N pf (.slice (some ⟨g', 0, none⟩) (rs.length + 1) c') f o w3 ∧ OwnR B (rs ++ [r]) (.slice (some ⟨g', 0, none⟩) (rs.length + 1) c') w3 ∧ Below N w w3 ∧ KeepsFrom B W w3 ∧ Kp65 W w3 ∧ B ≤ w3.heap.size ∧
      w2.cell? ⟨N + 1, 0, none⟩ = some v ∧ w2.frozen? ⟨N + 1, 0, none⟩ = false := by
  have hK0 : KeB N pf v f o (W1.alloc ob) := hK.kept (World.grownBy_alloc W1 ob none) hNB (fun _ e => by cases e)
  have hO0 : OwnR B rs v (W1.alloc ob) := World.ownsRow.alloc hO ob
  have hrow : ∀ k, v.ownBlock = some k → B ≤ k ∧ ∃ cur, (W1.alloc ob).heap[k]? = some (.cells cur 29 (0, 0)) := by
    intro k hk
    rcases hO0.2 with ⟨rfl, _⟩ | ⟨g, cap, cur, rfl, hb, hg, _⟩
    · cases hk
    · cases hk
      exact ⟨hb, cur, hg⟩
  have hK2 : KeB N pf v f o w2 := hK0.kept hgrow hNB (fun k e => (hrow k e).1)
  have hO2 : OwnR B (rs ++ [r]) (.slice (some ⟨g', 0, none⟩) (rs.length + 1) c') w2 := OwnR.snoc hown
  refine ⟨_, rfl, hK2.setL _, hO2.store (by omega) _ _, ?_, ?_, ?_, ?_, hK2.cells.2.1, hK2.cells.2.2.2.2.1⟩
  · exact ((hB.alloc (by omega) ob).grown hgrow (by simp; omega) (fun k e => by have := (hrow k e).1; omega)).setCell (by show N ≤ N + 1; omega) _
  · refine hF.trans ((((KeepsOthers.alloc _ _).trans (KeepsOthers.of_grownBy hgrow ?_)).trans (KeepsOthers.setCell _ _ _)).from _)
    intro k o hk ho
    obtain ⟨_, cur, hc⟩ := hrow k hk
    rw [hc] at ho
    cases ho
    rfl
  · refine hP.trans ((Kp65.alloc _ ob).trans (Kp65.trans (.grown hgrow ?_) (kp_store hK2.l (by decide))))
    intro k hk
    obtain ⟨_, cur, hc⟩ := hrow k hk
    exact ⟨_, hc, fun _ _ e => by cases e⟩
  · have := hgrow.size
    simp [World.setCell] at this ⊢
    omega

theorem grown_drew {W W' : World} {row : Option Nat} (h : W.grownBy W' row) : W.grownBy W'.drew row := ⟨h.os, h.tape, h.output, h.size, h.block⟩

theorem kfold_le (p : Bool → Bool → Bool) : ∀ (ys : List Bd) (st : Ks), (ys.foldl (kstep p) st).1.length ≤ st.1.length + ys.length
  | [], st => by simp
  | y :: ys, st => by
    have h := kfold_le p ys (kstep p st y)
    have h2 : (kstep p st y).1.length ≤ st.1.length + 1 := by
      unfold kstep
      split
      · omega
      · split <;> simp
    simp only [List.foldl_cons, List.length_cons]
    omega
theorem kfold_len (p : Bool → Bool → Bool) (ys : List Bd) : (kfold p ys).1.length ≤ ys.length := by
  have := kfold_le p ys ([], 0, false)
  simpa [kfold] using this

theorem RgAt.kept {rs : List Rg} {ao : Option Addr} {W W' : World} {row : Option Nat} (h : RgAt rs ao W) (hg : W.grownBy W' row) (hr : ∀ r, row = some r → ∃ o : Obj, W.heap[r]? = some o ∧ o.isCells = false) : RgAt rs ao W' := fun i r hi => by
  obtain ⟨b, off, h0, h1, h2, h3⟩ := h i r hi
  exact ⟨b, off, h0, Nat.lt_of_lt_of_le h1 hg.size, cell_kept h2 hg hr, cell_kept h3 hg hr⟩

theorem ke_start (w : World) (pf : Nat) (x y : Value) {W0 : World} (hW0 : (((((w.alloc (Obj.cells #[Value.func (Fn.func pf) #[] #[]] 43)).alloc (Obj.cells #[Value.slice none 0 0] 22)).alloc (Obj.cells #[Value.int IntKind.i64 0] 3)).alloc (Obj.cells #[Value.bool false] 4)).alloc (Obj.cells #[x] 22)).alloc (Obj.cells #[y] 22) = W0) :
    Below w.heap.size w W0 ∧ W0.heap.size = w.heap.size + 6 ∧ W0.cell? ⟨w.heap.size + 1 + 1 + 1 + 1, 0, none⟩ = some x ∧ W0.cell? ⟨w.heap.size + 1 + 1 + 1 + 1 + 1, 0, none⟩ = some y ∧ KeB w.heap.size pf (.slice none 0 0) 0 false W0 := by
  subst hW0
  have hh : ((((((w.alloc (Obj.cells #[Value.func (Fn.func pf) #[] #[]] 43)).alloc (Obj.cells #[Value.slice none 0 0] 22)).alloc (Obj.cells #[Value.int IntKind.i64 0] 3)).alloc (Obj.cells #[Value.bool false] 4)).alloc (Obj.cells #[x] 22)).alloc (Obj.cells #[y] 22)).heap =
    (((((w.heap.push (Obj.cells #[Value.func (Fn.func pf) #[] #[]] 43)).push (Obj.cells #[Value.slice none 0 0] 22)).push (Obj.cells #[Value.int IntKind.i64 0] 3)).push (Obj.cells #[Value.bool false] 4)).push (Obj.cells #[x] 22)).push (Obj.cells #[y] 22) := rfl
  refine ⟨(((((((Below.refl _ _).alloc (Nat.le_refl _) _).alloc (by simp) _).alloc (by simp <;> omega) _).alloc (by simp <;> omega) _).alloc (by simp <;> omega) _).alloc (by simp <;> omega) _), by simp, ?_, ?_, ⟨?_, ?_, ?_, ?_⟩⟩
  · rw [cell_of_row _ _ 0 #[x] 22 (0, 0) (by rw [hh]; simp [Array.getElem_push])]; rfl
  · rw [cell_of_row _ _ 0 #[y] 22 (0, 0) (by rw [hh]; simp [Array.getElem_push])]; rfl
  all_goals
    rw [hh]
    simp [Array.getElem_push, Nat.add_assoc]

set_option maxRecDepth 100000 in
set_option maxHeartbeats 2000000 in
theorem keep_in (n : Nat) (hn : 4 ≤ n) (a b : List Rg) (ao bo : Option Addr) (cap dap : Nat) (pf : Nat) (p : Bool → Bool → Bool) (w : World) (hoa : ∀ r ∈ a, RgOk r) (hob : ∀ r ∈ b, RgOk r) (hla : a.length ≤ 1000000) (hlb : b.length ≤ 1000000) (ha : RgAt a ao w) (hb : RgAt b bo w)
    (hpp : p false false = false) (eg : ∀ args w, (callFunc pf args).run Try.prog w = .ok (.enter pf args) w)
    (hp : ∀ x y W, Calls Try.prog pf #[.agg #[.bool x, .bool y]] W fun e w' => e = .returned (.bool (p x y)) ∧ w' = W.alloc (.cells #[.bool x, .bool y] 42)) :
    CallsIn Fence.wide n Try.prog 32 #[.slice ao a.length cap, .slice bo b.length dap, .func (.func pf) #[] #[]] w fun e w' => ∃ ro rc rs, e = .returned (.slice ro (List.length rs) rc) ∧ RgAt rs ro w' ∧ Below w.heap.size w w' ∧
      Fit rs ∧ (∀ x, hasL rs x = p (hasL a x) (hasL b x)) ∧ rs.length ≤ 2 * (a.length + b.length) := by
  have h1 : 1 ≤ n := by omega
  refine callsIn_of_wp_marks Try.func32 rfl trivial ?_ rfl
  simp only [Try.ntmps32, List.size_toArray, List.length_cons, List.length_nil, Nat.reduceAdd, Nat.reduceSub, Array.replicate_succ, Array.replicate_zero, List.push_toArray, List.append_toArray, List.nil_append, List.cons_append]
  gi_wp2_with fail
  refine ⟨trivial, ?_⟩
  refine (callsIn_wide.2 (borders_any _ _ _ _ _ _ _)).mono ?_
  rintro e w1 ⟨rfl, rfl⟩
  gi_wp2
  obtain ⟨W0, hW0⟩ : ∃ W0, (((((w.alloc (Obj.cells #[Value.func (Fn.func pf) #[] #[]] 43)).alloc (Obj.cells #[Value.slice none 0 0] 22)).alloc (Obj.cells #[Value.int IntKind.i64 0] 3)).alloc (Obj.cells #[Value.bool false] 4)).alloc (Obj.cells #[Value.slice ao a.length cap] 22)).alloc (Obj.cells #[Value.slice bo b.length dap] 22) = W0 := ⟨_, rfl⟩
  obtain ⟨hB0, hsz, hcA, hcB, hKe⟩ := ke_start w pf _ _ hW0
  rw [hW0]
  clear hW0
  refine wpIn_range_all h1 (gf := 43) (lb := #[.pointer (some ⟨w.heap.size + 1 + 1 + 1 + 1, 0, none⟩), .pointer (some ⟨w.heap.size + 1 + 1 + 1 + 1 + 1, 0, none⟩)]) rfl (enters_of Try.func43 (by kernel_rfl) rfl)
    (borders_gives (n - 1) (by omega) _ _ a b ao bo cap dap hoa hob hla hlb W0 hcA hcB (ha.next hB0) (hb.next hB0)) (Below.refl _ _) (fun _ => rfl)
    (KeI w.heap.size W0.heap.size pf p w) (KeI.abide (by omega)) ⟨⟨_, hKe, OwnR.nil _ _⟩, hB0, Nat.le_refl _⟩
    (fun y a' W => ∃ Bx, (W.cell? ⟨Bx, 0, none⟩ = some (.bool y.2.1) ∧ W.cell? ⟨Bx, 1, none⟩ = some (.bool y.2.2) ∧ W.heap[Bx]? = some (.cells #[.bool y.2.1, .bool y.2.2] 42 (0, 0))) ∧ a' = { tmps := #[.slice ao a.length cap, .slice bo b.length dap, .func (.func pf) #[] #[], undef, undef, .pointer (some ⟨w.heap.size, 0, none⟩), .slice none 0 0, .pointer (some ⟨w.heap.size + 1, 0, none⟩), .pointer (some ⟨w.heap.size + 1 + 1, 0, none⟩), .pointer (some ⟨w.heap.size + 1 + 1 + 1, 0, none⟩), .int .i64 y.1, .pointer (some ⟨Bx, 0, none⟩), .slice ao a.length cap, .slice bo b.length dap, .func (.func 43) #[] #[.pointer (some ⟨w.heap.size + 1 + 1 + 1 + 1, 0, none⟩), .pointer (some ⟨w.heap.size + 1 + 1 + 1 + 1 + 1, 0, none⟩)], .int .i64 y.1, .agg #[.bool y.2.1, .bool y.2.2], undef, undef, undef, undef, undef, undef, undef, undef, undef, undef, undef, undef, undef, undef, undef, undef], defers := [] })
    ?hax ?assign ?body ?done
  case hax =>
    rintro y a' _ X Y row ⟨Bx, ⟨h1, h2, h3⟩, h4⟩ hg hr
    have hb : Y.heap[Bx]? = X.heap[Bx]? := hg.block Bx (Array.getElem?_eq_some_iff.1 h3).1 (fun e => by
      obtain ⟨_, o, ho, ha⟩ := hr Bx e.symm
      rw [h3] at ho
      cases ho
      rcases ha with ha | ⟨cs, fr, ha⟩
      · cases ha
      · cases ha)
    exact ⟨Bx, ⟨(World.cell?_of_block hb).trans h1, (World.cell?_of_block hb).trans h2, hb.trans h3⟩, h4⟩
  case assign =>
    rintro l pre y W K hI hK
    gi_wp2
    exact hK _ _ ((KeepsOthers.alloc _ _).from _) (Kp65.alloc _ _) (KeI.abide (by omega) _ _ _ none hI (World.grownBy_alloc _ _ none) (fun _ e => by cases e)) ⟨W.heap.size, ⟨by go_simp, by go_simp, World.alloc_heap_new _ _⟩, rfl⟩
  case body =>
    rintro l pre y a' W ⟨⟨v, hK, hO⟩, hB, hsz0⟩ ⟨Bx, ⟨b0, b1, b2⟩, rfl⟩ hlt
    have HE : Hid (kfold p (pre ++ [y]) = kstep p (kfold p pre) y) := kfold_snoc p pre y
    have hlen : (kfold p pre).1.length ≤ pre.length := kfold_len p pre
    obtain ⟨c1, c2, c3, c4, f1, f2, f3⟩ := hK.cells
    have hKlt := hK.lt
    have HK : Hid (KeB w.heap.size pf v (kfold p pre).2.1 (kfold p pre).2.2 W) := hK
    have HO : Hid (OwnR W0.heap.size (kfold p pre).1 v W) := hO
    clear hK
    obtain ⟨q, hq⟩ : ∃ q, p y.2.1 y.2.2 = q := ⟨_, rfl⟩
    generalize hst : kfold p pre = st at *
    obtain ⟨rs, f, o⟩ := st
    simp only at c3 c4 hlen
    obtain ⟨i0, hi, hz0, hz1, hz2⟩ := info_parts info29
    have hd : 1 ≤ n - 1 - 1 := by omega
    have HSZ : Hid (W0.heap.size = w.heap.size + 6) := hsz
    have hmx : Try.prog.follows .mixedOrders = true := by kernel_rfl
    have hpW := fun W => hp y.2.1 y.2.2 W
    rw [hq] at hpW
    clear hp
    -- behind the test
    have hK1 : KeB w.heap.size pf v f o (W.alloc (Obj.cells #[Value.bool y.2.1, Value.bool y.2.2] 42)).drew := KeB.kept (B := w.heap.size + 4) (W' := (W.alloc (Obj.cells #[Value.bool y.2.1, Value.bool y.2.2] 42)).drew) (row := none) HK.out (grown_drew (World.grownBy_alloc W _ none)) (Nat.le_refl _) (fun _ e => by cases e)
    have hO1 : OwnR W0.heap.size rs v (W.alloc (Obj.cells #[Value.bool y.2.1, Value.bool y.2.2] 42)).drew := (World.ownsRow.alloc HO.out _).drew
    have hB1 : Below w.heap.size w (W.alloc (Obj.cells #[Value.bool y.2.1, Value.bool y.2.2] 42)).drew := (hB.alloc hB.size _).drew
    have hF1 : KeepsFrom W0.heap.size W (W.alloc (Obj.cells #[Value.bool y.2.1, Value.bool y.2.2] 42)).drew := ((KeepsOthers.alloc W _).trans (KeepsOthers.drew _)).from _
    have hP1 : Kp65 W (W.alloc (Obj.cells #[Value.bool y.2.1, Value.bool y.2.2] 42)).drew := (Kp65.alloc W _).trans (kp_drew _)
    have hsz1 : W0.heap.size ≤ (W.alloc (Obj.cells #[Value.bool y.2.1, Value.bool y.2.2] 42)).drew.heap.size := by
      show W0.heap.size ≤ (W.alloc _).heap.size
      simp
      omega
    have HF1 : Hid (KeepsFrom W0.heap.size W (W.alloc (Obj.cells #[Value.bool y.2.1, Value.bool y.2.2] 42)).drew) := hF1
    have HP1 : Hid (Kp65 W (W.alloc (Obj.cells #[Value.bool y.2.1, Value.bool y.2.2] 42)).drew) := hP1
    obtain ⟨r, hr⟩ : ∃ r, (q == o) = r := ⟨_, rfl⟩
    clear hsz hcA hcB hKe hB0 hO hoa hob ha hb hF1 hP1
    gi_wp2
    refine wpIn_mono (Q := fun e a' W' => e = .normal ∧ a' = { tmps := #[.slice ao a.length cap, .slice bo b.length dap, .func (.func pf) #[] #[], undef, undef, .pointer (some ⟨w.heap.size, 0, none⟩), .slice none 0 0, .pointer (some ⟨w.heap.size + 1, 0, none⟩), .pointer (some ⟨w.heap.size + 1 + 1, 0, none⟩), .pointer (some ⟨w.heap.size + 1 + 1 + 1, 0, none⟩), .int .i64 y.1, .pointer (some ⟨Bx, 0, none⟩), .slice ao a.length cap, .slice bo b.length dap, .func (.func 43) #[] #[.pointer (some ⟨w.heap.size + 1 + 1 + 1 + 1, 0, none⟩), .pointer (some ⟨w.heap.size + 1 + 1 + 1 + 1 + 1, 0, none⟩)], .int .i64 y.1, .agg #[.bool y.2.1, .bool y.2.2], .func (.func pf) #[] #[], .agg #[.bool y.2.1, .bool y.2.2], .bool q, .bool o, .bool r, undef, undef, undef, undef, undef, undef, undef, undef, undef, undef, undef], defers := [] } ∧ W' = (W.alloc (Obj.cells #[Value.bool y.2.1, Value.bool y.2.2] 42)).drew) ?_ ?_
    · gi_region_with_o (refine ⟨trivial, ?_⟩; refine (CallsIn.inRound l (callsIn_wide.2 (hpW _))).mono ?_; rintro e w' ⟨rfl, rfl⟩)
      all_goals exact ⟨rfl, rfl, rfl⟩
    rintro e a' W' ⟨rfl, rfl, rfl⟩
    obtain ⟨d1, d2, d3, d4, g1, g2, g3⟩ := hK1.cells
    clear c1 c2 c3 c4 f1 f2 f3 b0 b1 b2 HK HO hpW
    generalize (W.alloc (Obj.cells #[Value.bool y.2.1, Value.bool y.2.2] 42)).drew = W1 at *
    by_cases hqo : q = o
    · subst hqo
      have HS : Hid (kfold p (pre ++ [y]) = (rs, f, q)) := by show _ = _; rw [HE.out, kstep, if_pos hq]
      obtain rfl : r = true := by rw [← hr]; simp
      gi_wp2
      exact ⟨HF1.out, HP1.out, ⟨v, by rw [HS.out]; exact hK1, by rw [HS.out]; exact hO1⟩, hB1, hsz1⟩
    · obtain rfl : r = false := by rw [← hr]; simpa using hqo
      cases o with
      | false =>
        obtain rfl : q = true := by simpa using hqo
        have HS : Hid (kfold p (pre ++ [y]) = (rs, y.1, true)) := by show _ = _; rw [HE.out, kstep, if_neg (by simp [hq])]; simp
        gi_wp2
        gi_region_with_o (fail)
        all_goals
          gi_wp2
          have hfin := ke_fin hK1 hO1 hB1 (by rw [HSZ.out]; omega) hsz1 HF1.out HP1.out y.1 true rfl
          unfold KeI
          rw [HS.out]
          exact hfin
      | true =>
        obtain rfl : q = false := by simpa using hqo
        have HS : Hid (kfold p (pre ++ [y]) = (rs ++ [(f, y.1)], y.1, false)) := by show _ = _; rw [HE.out, kstep, if_neg (by simp [hq])]; simp
        gi_wp2_with (gi_at_builtin; refine wpListIn_append_own _ rfl _ _ 22 rfl W0.heap.size 29 i0 _ 2 16 Try.underlying22 hi hz0 hz1 hz2 rfl (by decide) _ _ _ rfl (World.ownsRow.alloc hO1 _) ⟨W1.heap.size, 0, none⟩ 1 1 (encR (f, y.1)) rfl rfl (cells2 _ _ _) (encR_one _) (by unfold maxLen; omega) (by omega) (by simp; omega) ?_)
        intro v' w2 hown' hgrow _
        obtain ⟨g', c', rfl⟩ := ownsRow_succ hown'
        obtain ⟨w3, hw3, hK3, hO3, hB3, hF3, hP3, hsz3, e1, e2⟩ := ke_app hK1 hO1 hB1 (by rw [HSZ.out]; omega) hsz1 HF1.out HP1.out hown' hgrow
        have HF3 : Hid (KeepsFrom W0.heap.size W w3) := hF3
        have HP3 : Hid (Kp65 W w3) := hP3
        clear hown' hgrow hF3 hP3 hK1 hO1 hB1
        gi_wp2
        obtain ⟨d1, d2, d3, d4, g1, g2, g3⟩ := hK3.cells
        gi_region_with_o (fail)
        all_goals
          gi_wp2
          have hfin := ke_fin hK3 hO3 hB3 (by rw [HSZ.out]; omega) hsz3 HF3.out HP3.out y.1 false rfl
          unfold KeI
          rw [HS.out]
          exact hfin
  case done =>
    rintro D ys W hD ⟨hBd, hyl⟩ ⟨⟨v, hK, hO⟩, hB, _⟩ hDf
    obtain ⟨hfit, hhas, hlen⟩ := keep_fit hpp hBd
    obtain ⟨ro, rc, rfl, hrg, _⟩ := OwnR.at_ hO
    have HH : Hid (Fit (kfold p ys).1 ∧ ∀ x, hasL (kfold p ys).1 x = p (hasL a x) (hasL b x)) := ⟨hfit, hhas⟩
    obtain ⟨c1, c2, c3, c4, f1, f2, f3⟩ := hK.cells
    have hrg2 : RgAt (kfold p ys).1 ro (W.putObj D (.deferred none)) := hrg.kept (grownBy_putObj' W D (.deferred none)) (fun r e => by cases e; exact ⟨_, hDf, rfl⟩)
    have hB2 : Below w.heap.size w (W.putObj D (.deferred none)) := hB.trans (belowK_b (w := w) (Nat.le_refl _) W D _ _ (by omega) hDf rfl rfl)
    clear hfit hhas hK hO hrg hp
    gi_wp2
    refine ⟨by simp, .inl ⟨_, _, rfl, run_takeDeferred hDf, ?_⟩⟩
    exact ⟨_, results_tmp rfl _ _ _, ro, rc, (kfold p ys).1, rfl, hrg2, hB2, HH.out.1, HH.out.2, by omega⟩

/-- What a function on sets hands back: a slice that holds a normal form. -/
def GivesSet (P : Prop) (e : Ending) (w w' : World) (f : Int → Bool) (N : Nat) : Prop :=
  P ∧ ∃ ro rc rs, e = .returned (.slice ro (List.length rs) rc) ∧ RgAt rs ro w' ∧ Below w.heap.size w w' ∧ Fit rs ∧ (∀ r ∈ rs, RgOk r) ∧ (∀ x, hasL rs x = f x) ∧ rs.length ≤ N

/-- What is made of ranges of int is ranges of int. -/
theorem ok_of {rs a b : List Rg} {p : Bool → Bool → Bool} (hf : Fit rs) (hpp : p false false = false) (hh : ∀ x, hasL rs x = p (hasL a x) (hasL b x)) (hoa : ∀ r ∈ a, RgOk r) (hob : ∀ r ∈ b, RgOk r) : ∀ r ∈ rs, RgOk r := by
  intro r hr
  have h0 := hf.1 r hr
  have h1 : hasL rs (r.2 - 1) = true := hasL_iff.2 ⟨r, hr, by omega, by omega, by omega⟩
  rw [hh] at h1
  have h2 : hasL a (r.2 - 1) = true ∨ hasL b (r.2 - 1) = true := by
    rcases ha : hasL a (r.2 - 1) with _ | _ <;> rcases hb : hasL b (r.2 - 1) with _ | _ <;> simp_all
  have h3 : ∃ s : Rg, RgOk s ∧ r.2 - 1 < s.2 := by
    rcases h2 with h2 | h2
    · obtain ⟨s, hs, _, _, k⟩ := hasL_iff.1 h2; exact ⟨s, hoa s hs, k⟩
    · obtain ⟨s, hs, _, _, k⟩ := hasL_iff.1 h2; exact ⟨s, hob s hs, k⟩
  obtain ⟨s, hs, hk⟩ := h3
  unfold RgOk at hs ⊢
  omega

theorem keep_any (a b : List Rg) (ao bo : Option Addr) (cap dap : Nat) (pf : Nat) (p : Bool → Bool → Bool) (w : World) (hoa : ∀ r ∈ a, RgOk r) (hob : ∀ r ∈ b, RgOk r) (hla : a.length ≤ 1000000) (hlb : b.length ≤ 1000000) (ha : RgAt a ao w) (hb : RgAt b bo w)
    (hpp : p false false = false) (eg : ∀ args w, (callFunc pf args).run Try.prog w = .ok (.enter pf args) w)
    (hp : ∀ x y W, Calls Try.prog pf #[.agg #[.bool x, .bool y]] W fun e w' => e = .returned (.bool (p x y)) ∧ w' = W.alloc (.cells #[.bool x, .bool y] 42)) :
    Calls Try.prog 32 #[.slice ao a.length cap, .slice bo b.length dap, .func (.func pf) #[] #[]] w fun e w' => GivesSet True e w w' (fun x => p (hasL a x) (hasL b x)) (2 * (a.length + b.length)) :=
  (callsIn_wide.1 (keep_in 4 (Nat.le_refl _) a b ao bo cap dap pf p w hoa hob hla hlb ha hb hpp eg hp)).mono fun _ _ ⟨ro, rc, rs, h1, h2, h3, h4, h5, h6⟩ =>
    ⟨trivial, ro, rc, rs, h1, h2, h3, h4, ok_of h4 hpp h5 hoa hob, h5, h6⟩

set_option maxHeartbeats 400000 in
theorem norm1 (x y : Bool) (W : World) : Calls Try.prog 33 #[.agg #[.bool x, .bool y]] W fun e w' => e = .returned (.bool x) ∧ w' = W.alloc (.cells #[.bool x, .bool y] 42) := by
  go_enter Try.func33, Try.ntmps33
  go_wp2
  go_ret
  exact ⟨rfl, rfl⟩
set_option maxHeartbeats 400000 in
theorem join1 (x y : Bool) (W : World) : Calls Try.prog 34 #[.agg #[.bool x, .bool y]] W fun e w' => e = .returned (.bool (x || y)) ∧ w' = W.alloc (.cells #[.bool x, .bool y] 42) := by
  cases x
  all_goals
    go_enter Try.func34, Try.ntmps34
    go_wp2
    go_ret
    exact ⟨rfl, rfl⟩
set_option maxHeartbeats 400000 in
theorem meet1 (x y : Bool) (W : World) : Calls Try.prog 35 #[.agg #[.bool x, .bool y]] W fun e w' => e = .returned (.bool (x && y)) ∧ w' = W.alloc (.cells #[.bool x, .bool y] 42) := by
  cases x
  all_goals
    go_enter Try.func35, Try.ntmps35
    go_wp2
    go_ret
    exact ⟨rfl, rfl⟩
set_option maxHeartbeats 400000 in
theorem less1 (x y : Bool) (W : World) : Calls Try.prog 36 #[.agg #[.bool x, .bool y]] W fun e w' => e = .returned (.bool (x && !y)) ∧ w' = W.alloc (.cells #[.bool x, .bool y] 42) := by
  cases x
  all_goals
    go_enter Try.func36, Try.ntmps36
    go_wp2
    go_ret
    exact ⟨rfl, rfl⟩

set_option maxHeartbeats 400000 in
theorem norm_any (a : List Rg) (ao : Option Addr) (cap : Nat) (w : World) (hoa : ∀ r ∈ a, RgOk r) (hla : a.length ≤ 1000000) (ha : RgAt a ao w) :
    Calls Try.prog 11 #[.slice ao a.length cap] w fun e w' => GivesSet True e w w' (fun x => hasL a x) (2 * a.length) := by
  have hk := keep_any a [] ao none cap 0 33 (fun x _ => x) w hoa (by simp) hla (by simp) ha (RgAt.nil _ _) rfl (enters_of Try.func33 (by kernel_rfl) rfl) norm1
  go_enter Try.func11, Try.ntmps11
  go_wp2_with fail
  refine hk.mono ?_
  rintro e w1 ⟨_, ro, rc, rs, rfl, h⟩
  go_wp2
  go_ret
  exact ⟨trivial, ro, rc, rs, rfl, by simpa using h⟩
set_option maxHeartbeats 400000 in
theorem join_any (a b : List Rg) (ao bo : Option Addr) (cap dap : Nat) (w : World) (hoa : ∀ r ∈ a, RgOk r) (hob : ∀ r ∈ b, RgOk r) (hla : a.length ≤ 1000000) (hlb : b.length ≤ 1000000) (ha : RgAt a ao w) (hb : RgAt b bo w) :
    Calls Try.prog 15 #[.slice ao a.length cap, .slice bo b.length dap] w fun e w' => GivesSet True e w w' (fun x => hasL a x || hasL b x) (2 * (a.length + b.length)) := by
  have hk := keep_any a b ao bo cap dap 34 (fun x y => x || y) w hoa hob hla hlb ha hb rfl (enters_of Try.func34 (by kernel_rfl) rfl) join1
  go_enter Try.func15, Try.ntmps15
  go_wp2_with fail
  refine hk.mono ?_
  rintro e w1 ⟨_, ro, rc, rs, rfl, h⟩
  go_wp2
  go_ret
  exact ⟨trivial, ro, rc, rs, rfl, h⟩
set_option maxHeartbeats 400000 in
theorem meet_any (a b : List Rg) (ao bo : Option Addr) (cap dap : Nat) (w : World) (hoa : ∀ r ∈ a, RgOk r) (hob : ∀ r ∈ b, RgOk r) (hla : a.length ≤ 1000000) (hlb : b.length ≤ 1000000) (ha : RgAt a ao w) (hb : RgAt b bo w) :
    Calls Try.prog 17 #[.slice ao a.length cap, .slice bo b.length dap] w fun e w' => GivesSet True e w w' (fun x => hasL a x && hasL b x) (2 * (a.length + b.length)) := by
  have hk := keep_any a b ao bo cap dap 35 (fun x y => x && y) w hoa hob hla hlb ha hb rfl (enters_of Try.func35 (by kernel_rfl) rfl) meet1
  go_enter Try.func17, Try.ntmps17
  go_wp2_with fail
  refine hk.mono ?_
  rintro e w1 ⟨_, ro, rc, rs, rfl, h⟩
  go_wp2
  go_ret
  exact ⟨trivial, ro, rc, rs, rfl, h⟩
set_option maxHeartbeats 400000 in
theorem less_any (a b : List Rg) (ao bo : Option Addr) (cap dap : Nat) (w : World) (hoa : ∀ r ∈ a, RgOk r) (hob : ∀ r ∈ b, RgOk r) (hla : a.length ≤ 1000000) (hlb : b.length ≤ 1000000) (ha : RgAt a ao w) (hb : RgAt b bo w) :
    Calls Try.prog 19 #[.slice ao a.length cap, .slice bo b.length dap] w fun e w' => GivesSet True e w w' (fun x => hasL a x && !hasL b x) (2 * (a.length + b.length)) := by
  have hk := keep_any a b ao bo cap dap 36 (fun x y => x && !y) w hoa hob hla hlb ha hb rfl (enters_of Try.func36 (by kernel_rfl) rfl) less1
  go_enter Try.func19, Try.ntmps19
  go_wp2_with fail
  refine hk.mono ?_
  rintro e w1 ⟨_, ro, rc, rs, rfl, h⟩
  go_wp2
  go_ret
  exact ⟨trivial, ro, rc, rs, rfl, h⟩
end Go.Proofs.Ytdkgeeimhjffdaa
