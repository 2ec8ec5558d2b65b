/- The reader of programs: what it does, as functions on lists; how it lies in a world. -/
import Derived.Test.YtggehnnbgeffpaaDoorPrint
import Derived.Laws.EntriesVeiled
import Derived.RangeFuncNested
import Derived.OneCell
namespace Go.Proofs.YtggehnnbgeffpaaDoor
open Go.Shelf Go.RowKit Go.Lib Go.Proofs

inductive Tk where
  | op | x | y | z
deriving DecidableEq
def Tk.f : Tk → Nat
  | .op => 18
  | .x => 48
  | .y => 49
  | .z => 50
structure Rd where
  prog : List Ins
  last : List Int
  want : List Tk

def numV (w : List UInt8) (least : Int) : Option Int :=
  match Lib.atoiAll w with
  | .ok v => if Lib.itoa v = w ∧ least ≤ v ∧ v ≤ 255 then some v else none
  | _ => none
def kindN (w : List UInt8) : Option Nat := (List.range 8).find? fun k => wordL k == w
def takersN (k : Nat) : List Tk := (if useX k then [.x] else []) ++ (if useY k then [.y] else []) ++ (if useZ k then [.z] else [])
def updL (p : List Ins) (f : Ins → Ins) : List Ins :=
  match p.getLast? with
  | none => p
  | some i => p.dropLast ++ [f i]
def lastX (p : List Ins) : Int := match p.getLast? with
  | none => 0
  | some i => i.x
theorem updL_snoc (p : List Ins) (i : Ins) (f : Ins → Ins) : updL (p ++ [i]) f = p ++ [f i] := by simp [updL]
theorem lastX_snoc (p : List Ins) (i : Ins) : lastX (p ++ [i]) = i.x := by simp [lastX]
def tkN (t : Tk) (r : Rd) (w : List UInt8) : Int × Rd :=
  match t with
  | .op => match kindN w with
    | none => (10, r)
    | some k => if r.prog.length = 64 then (15, r) else (0, ⟨r.prog ++ [⟨k, 0, 0, 0⟩], r.last ++ [0], takersN k⟩)
  | .x => match numV w 0 with
    | none => (10, r)
    | some v => (0, { r with prog := updL r.prog fun i => { i with x := v } })
  | .y => match numV w (lastX r.prog) with
    | none => (10, r)
    | some v => (0, { r with prog := updL r.prog fun i => { i with y := v } })
  | .z => match numV w 0 with
    | none => (10, r)
    | some v => (0, { r with prog := updL r.prog fun i => { i with z := v } })
def takeN (r : Rd) (a : Int) (w : List UInt8) : Int × Rd :=
  match r.want with
  | [] => if w = [59] then (0, { r with want := [.op] }) else (10, r)
  | t :: l =>
    let (e, r') := tkN t { r with want := l } w
    if e = 0 then (0, { r' with last := r'.last.dropLast ++ [a] }) else (e, r')

/-- What the reader says of a world's turn: below n0, and all but rows of operations, of numbers and readers, lie as they lay. -/
structure RStep (n0 : Nat) (W W' : World) : Prop where
  below : Below n0 W W'
  kept : ∀ (k : Nat) (o : Obj), W.heap[k]? = some o → (∀ cs fr, o ≠ .cells cs 39 fr ∧ o ≠ .cells cs 3 fr ∧ o ≠ .cells cs 46 fr) → W'.heap[k]? = some o
theorem RStep.refl (n0 : Nat) (W : World) : RStep n0 W W := ⟨Below.refl _ _, fun _ _ h _ => h⟩
theorem RStep.trans {n0 : Nat} {A B C : World} (h : RStep n0 A B) (k : RStep n0 B C) : RStep n0 A C :=
  ⟨h.below.trans k.below, fun i o hi ho => k.kept i o (h.kept i o hi ho) ho⟩
theorem RStep.of_below {n0 : Nat} {W W' : World} (hb : Below W.heap.size W W') (hn : n0 ≤ W.heap.size) : RStep n0 W W' :=
  ⟨hb.mono hn, fun k _ hk _ => (hb.block k (Array.getElem?_eq_some_iff.1 hk).1).trans hk⟩
theorem RStep.of_grown {n0 : Nat} {W W' : World} {row : Option Nat} (hg : W.grownBy W' row) (hn : n0 ≤ W.heap.size) (hr : ∀ k, row = some k → n0 ≤ k ∧ ∃ cs fr, W.heap[k]? = some (.cells cs 39 fr) ∨ W.heap[k]? = some (.cells cs 3 fr) ∨ W.heap[k]? = some (.cells cs 46 fr)) : RStep n0 W W' :=
  ⟨(Below.refl n0 W).grown hg hn (fun k e => (hr k e).1), fun k o hk ho => by
    refine (hg.block k (Array.getElem?_eq_some_iff.1 hk).1 fun e => ?_).trans hk
    obtain ⟨_, cs, fr, h⟩ := hr k e.symm
    rw [hk] at h
    have := ho cs fr
    simp_all⟩

/-- What is wanted, as it lies: a slice of functions. -/
def WantAt (v : Value) (l : List Tk) (W : World) : Prop :=
  ∃ ao c, v = .slice ao l.length c ∧ l.length ≤ c ∧ ∀ (i : Nat) (t : Tk), l[i]? = some t → ∃ b off cs fr, ao = some ⟨b, off, none⟩ ∧ W.heap[b]? = some (.cells cs 77 fr) ∧ W.cell? ⟨b, off + i, none⟩ = some (.func (.func t.f) #[] #[])
theorem WantAt.kept {v : Value} {l : List Tk} {W W' : World} (h : WantAt v l W) (hk : ∀ (k : Nat) (cs : Array Value) (fr : Nat × Nat), W.heap[k]? = some (Obj.cells cs 77 fr) → W'.heap[k]? = some (Obj.cells cs 77 fr)) : WantAt v l W' := by
  obtain ⟨ao, c, rfl, hc, hh⟩ := h
  refine ⟨ao, c, rfl, hc, fun i t ht => ?_⟩
  obtain ⟨b, off, cs, fr, h1, h2, h3⟩ := hh i t ht
  refine ⟨b, off, cs, fr, h1, hk b cs fr h2, ?_⟩
  rw [World.cell?_of_block (w := W) (w' := W') (a := ⟨b, off + i, none⟩) ((hk b cs fr h2).trans h2.symm)]
  exact h3
theorem WantAt.step {n0 : Nat} {v : Value} {l : List Tk} {W W' : World} (h : WantAt v l W) (hs : RStep n0 W W') : WantAt v l W' :=
  h.kept fun k cs fr hk => hs.kept k _ hk (fun _ _ => ⟨by simp, by simp, by simp⟩)

/-- The reader, as it lies. -/
structure RAt (n0 B : Nat) (r : Rd) (W : World) : Prop where
  nB : n0 ≤ B
  len : r.last.length = r.prog.length
  le : r.prog.length ≤ 64
  ex : ∃ vp vl vw, W.heap[B]? = some (.cells #[vp, vl, vw] 46 (0, 0)) ∧ W.ownsRow n0 39 4 vp r.prog.length (r.prog.flatMap encI) ∧ W.ownsRow n0 3 1 vl r.last.length (r.last.map (.int .i64)) ∧ WantAt vw r.want W

theorem cell_of_obj {W : World} {B : Nat} {cs : Array Value} {t : TypeId} (h : W.heap[B]? = some (.cells cs t (0, 0))) (j : Nat) : W.cell? ⟨B, j, none⟩ = cs[j]? := by
  rw [cell_of_row W B j cs t (0, 0) h]
theorem RAt.next {n0 B : Nat} {r : Rd} {W W' : World} (h : RAt n0 B r W) (hb : Below W.heap.size W W') : RAt n0 B r W' := by
  obtain ⟨h1, h2, h3, vp, vl, vw, hB, hp, hl, hw⟩ := h
  exact ⟨h1, h2, h3, vp, vl, vw, (hb.block B (Array.getElem?_eq_some_iff.1 hB).1).trans hB, own_next hp hb, own_next hl hb, hw.kept fun k cs fr hk => (hb.block k (Array.getElem?_eq_some_iff.1 hk).1).trans hk⟩
theorem owns_type {W : World} {base n g : Nat} {e : TypeId} {size : Nat} {v : Value} {xs : List Value} (h : W.ownsRow base e size v n xs) (hv : v.ownBlock = some g) : ∃ cur, W.heap[g]? = some (.cells cur e (0, 0)) ∧ base ≤ g := by
  rcases h.2 with ⟨rfl, _⟩ | ⟨g', cap, cur, rfl, hb, hg, _⟩
  · simp [Value.ownBlock] at hv
  · simp [Value.ownBlock] at hv
    subst hv
    exact ⟨cur, hg, hb⟩
/-- A row abides the turn of a block of another type. -/
theorem owns_other {W W' : World} {base n k : Nat} {e t : TypeId} {size : Nat} {v : Value} {xs : List Value} (h : W.ownsRow base e size v n xs) (hg : W.grownBy W' (some k)) {cs : Array Value} {fr : Nat × Nat} (hk : W.heap[k]? = some (.cells cs t fr)) (hne : e ≠ t) : W'.ownsRow base e size v n xs := by
  refine h.kept hg ?_
  cases hv : v.ownBlock with
  | none => exact .inl rfl
  | some g =>
    refine .inr fun e' => ?_
    cases e'
    obtain ⟨cur, h1, _⟩ := owns_type h hv
    rw [hk] at h1
    cases h1
    exact hne rfl
end Go.Proofs.YtggehnnbgeffpaaDoor
