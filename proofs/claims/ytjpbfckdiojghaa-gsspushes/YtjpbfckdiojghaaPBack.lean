/- Stacks: the program's New, leadsBack, behind, Back. -/
import Derived.Test.YtjpbfckdiojghaaPPush2
namespace Go.Proofs.Ytjpbfckdiojghaa
open Go.RowKit

set_option maxRecDepth 100000 in
set_option maxHeartbeats 800000 in
theorem new_any (n : Int) (w : World) (hn : i64B n) : Calls Try.prog 15 #[.int .i64 n] w fun e w' => ∃ v, e = .returned (.agg #[v]) ∧ SlN (newG n) v w' ∧ Below w.heap.size w w' := by
  have B0 := below_box w (.slice none 0 0) 24
  have b0 : (w.alloc (Obj.cells #[.slice none 0 0] 24)).heap[w.heap.size]? = some (Obj.cells #[.slice none 0 0] 24) := heap_alloc_new _ _
  have HC := canBe_any n (w.alloc (Obj.cells #[.slice none 0 0] 24))
  go_enter Try.func15, Try.ntmps15
  go_wp2_with fail
  generalize w.alloc (Obj.cells #[.slice none 0 0] 24) = w0 at *
  have c0 : w0.cell? ⟨w.heap.size, 0, none⟩ = some (.slice none 0 0) := by rw [Lib.cell_of_heap b0]; rfl
  have f0 : w0.frozen? ⟨w.heap.size, 0, none⟩ = false := Lib.frozen_of_heap b0 _
  refine HC.mono ?_
  rintro e w1 ⟨rfl, rfl⟩
  cases hb : numB n with
  | false =>
    have HV : Hid (newG n = []) := by show _ = _; unfold newG; rw [hb]; rfl
    have z : (w1.setCell ⟨w.heap.size, 0, none⟩ (.slice none 0 0)).heap[w.heap.size]? = some (Obj.cells #[.slice none 0 0] 24) := by
      have := blk_set (o := 0) b0 (.slice none 0 0)
      simpa using this
    have HB : Hid (Below w.heap.size w (w1.setCell ⟨w.heap.size, 0, none⟩ (.slice none 0 0))) := B0.setCell (by simp) _
    clear HC B0 hb
    go_wp2_with fail
    refine bodyPost_ret (results_cell1 rfl _ _ _ rfl (run_loadVar_row _ _ _ _ _ _ _ z Try.underlying24 rfl (by kernel_rfl))) rfl ?_
    exact ⟨_, rfl, by rw [HV.out]; exact SlN.nil _, HB.out⟩
  | true =>
    have HV : Hid (newG n = [⟨n, 0, []⟩]) := by show _ = _; unfold newG; rw [hb]; rfl
    have ba : Below w1.heap.size w1 (w1.alloc (Obj.cells #[.int .i64 n, .int .i64 0, .slice none 0 0] 35)) := (Below.refl _ _).alloc (Nat.le_refl _) _
    have ca : (w1.alloc (Obj.cells #[.int .i64 n, .int .i64 0, .slice none 0 0] 35)).cell? ⟨w.heap.size, 0, none⟩ = some (.slice none 0 0) := (ba.cell (p := ⟨w.heap.size, 0, none⟩) (blk_lt b0)).trans c0
    have bb := (ba.block _ (blk_lt b0)).trans b0
    have fa : (w1.alloc (Obj.cells #[.int .i64 n, .int .i64 0, .slice none 0 0] 35)).frozen? ⟨w.heap.size, 0, none⟩ = false := Lib.frozen_of_heap bb _
    have z : ((w1.alloc (Obj.cells #[.int .i64 n, .int .i64 0, .slice none 0 0] 35)).setCell ⟨w.heap.size, 0, none⟩ (.slice (some ⟨w1.heap.size, 0, none⟩) 1 1)).heap[w.heap.size]? = some (Obj.cells #[.slice (some ⟨w1.heap.size, 0, none⟩) 1 1] 24) := by
      have := blk_set (o := 0) bb (.slice (some ⟨w1.heap.size, 0, none⟩) 1 1)
      simpa using this
    have pn : ((w1.alloc (Obj.cells #[.int .i64 n, .int .i64 0, .slice none 0 0] 35)).setCell ⟨w.heap.size, 0, none⟩ (.slice (some ⟨w1.heap.size, 0, none⟩) 1 1)).heap[w1.heap.size]? = some (Obj.cells #[.int .i64 n, .int .i64 0, .slice none 0 0] 35) := set_blk (heap_alloc_new _ _) (by have := blk_lt b0; omega)
    have HB : Hid (Below w.heap.size w ((w1.alloc (Obj.cells #[.int .i64 n, .int .i64 0, .slice none 0 0] 35)).setCell ⟨w.heap.size, 0, none⟩ (.slice (some ⟨w1.heap.size, 0, none⟩) 1 1))) := (B0.trans (ba.mono B0.size)).setCell (by simp) _
    have HS : Hid (SlN [⟨n, 0, []⟩] (.slice (some ⟨w1.heap.size, 0, none⟩) 1 1) ((w1.alloc (Obj.cells #[.int .i64 n, .int .i64 0, .slice none 0 0] 35)).setCell ⟨w.heap.size, 0, none⟩ (.slice (some ⟨w1.heap.size, 0, none⟩) 1 1))) := by
      refine ⟨some ⟨w1.heap.size, 0, none⟩, 1, rfl, fun i x hx => ?_, fun e => (by cases e), Nat.le_refl _, by simp⟩
      rcases i with _ | i
      · simp at hx
        subst hx
        refine ⟨w1.heap.size, 0, .slice none 0 0, rfl, blk_lt pn, ?_, ?_, ?_, ⟨none, 0, rfl, RowAt.nil _ _ _, fun _ => rfl, Nat.le_refl _, fun _ h => (by cases h)⟩, hn, by unfold i64B; simp only; omega, by simp⟩
        · rw [Lib.cell_of_heap pn]; rfl
        · rw [Lib.cell_of_heap pn]; rfl
        · rw [Lib.cell_of_heap pn]; rfl
      · simp at hx
    clear HC B0 hb ba bb pn
    go_wp2_with fail
    refine bodyPost_ret (results_cell1 rfl _ _ _ rfl (run_loadVar_row _ _ _ _ _ _ _ z Try.underlying24 rfl (by kernel_rfl))) rfl ?_
    exact ⟨_, rfl, by rw [HV.out]; exact HS.out, HB.out⟩

def leadB (l : List Gn) (node n : Int) : Bool := decide (0 ≤ node ∧ node < l.length ∧ 0 ≤ n ∧ n ≤ 64)
set_option maxRecDepth 100000 in
set_option maxHeartbeats 800000 in
theorem leadsBack_any (la : Option Addr) (l : List Gn) (lc : Nat) (node n : Int) (w : World) : Calls Try.prog 33 #[.agg #[.slice la l.length lc], .int .i64 node, .int .i64 n] w fun e w' => e = .returned (.bool (leadB l node n)) ∧ Below w.heap.size w w' := by
  have B0 := below_box w (.slice la l.length lc) 24
  have HB : Hid (Below w.heap.size w ((w.alloc (Obj.cells #[.slice la l.length lc] 24)).alloc (Obj.cells #[.slice la l.length lc] 24))) := B0.alloc (by simp) _
  have HC := has_any la l lc node (w.alloc (Obj.cells #[.slice la l.length lc] 24))
  cases hh : hasB l node with
  | false =>
    have HV : Hid (leadB l node n = false) := by show _ = _; unfold leadB; unfold hasB at hh; simp at hh ⊢; omega
    rw [hh] at HC
    go_enter Try.func33, Try.ntmps33
    go_wp2_with fail
    refine HC.mono ?_
    rintro e w1 ⟨rfl, rfl⟩
    clear HC
    go_wp2_with fail
    go_ret
    exact ⟨by rw [HV.out]; rfl, HB.out⟩
  | true =>
    rw [hh] at HC
    by_cases h0 : n ≥ 0
    · have d0 : decide (n ≥ 0) = true := decide_eq_true h0
      have HV : Hid (leadB l node n = decide (n ≤ 64)) := by
        show _ = _
        unfold leadB
        unfold hasB at hh
        rw [decide_eq_true_eq] at hh
        rw [Bool.eq_iff_iff, decide_eq_true_eq, decide_eq_true_eq]
        omega
      go_enter Try.func33, Try.ntmps33
      go_wp2_with fail
      refine HC.mono ?_
      rintro e w1 ⟨rfl, rfl⟩
      clear HC
      go_wp2_with fail
      go_ret
      exact ⟨by rw [HV.out]; rfl, HB.out⟩
    · have d0 : decide (n ≥ 0) = false := decide_eq_false h0
      have HV : Hid (leadB l node n = false) := by show _ = _; unfold leadB; simp; omega
      go_enter Try.func33, Try.ntmps33
      go_wp2_with fail
      refine HC.mono ?_
      rintro e w1 ⟨rfl, rfl⟩
      clear HC
      go_wp2_with fail
      go_ret
      exact ⟨by rw [HV.out]; rfl, HB.out⟩

/-! What is met, as a row of Bools. -/
def marksB (xs : List Int) (M : List Bool) : List Bool := xs.foldl (fun m x => m.set x.toNat true) M
theorem marks_len (xs : List Int) : ∀ (M : List Bool), (marksB xs M).length = M.length := by
  induction xs with
  | nil => intro M; rfl
  | cons x xs ih => intro M; show (marksB xs (M.set x.toNat true)).length = _; rw [ih]; simp
theorem marks_get (xs : List Int) : ∀ (M : List Bool) (k : Nat) (_ : k < M.length) (_ : ∀ x ∈ xs, 0 ≤ x), ((marksB xs M)[k]? = some true ↔ M[k]? = some true ∨ (k : Int) ∈ xs) := by
  induction xs with
  | nil => intro M k _ _; simp [marksB]
  | cons x xs ih =>
    intro M k hk hx
    show (marksB xs (M.set x.toNat true))[k]? = some true ↔ _
    rw [ih _ k (by simpa using hk) (fun y hy => hx y (by simp [hy])), List.getElem?_set]
    have h0 := hx x (by simp)
    by_cases e : x.toNat = k
    · simp [e, hk]; right; left; omega
    · simp [e]
      have : (k : Int) ≠ x := by omega
      simp [this]
def gathB : List Bool → Nat → List Int
  | [], _ => []
  | b :: M, k => (if b then [(k : Int)] else []) ++ gathB M (k + 1)
theorem gath_mem : ∀ (M : List Bool) (k : Nat) (y : Int), y ∈ gathB M k ↔ ∃ j : Nat, M[j]? = some true ∧ y = ((k + j : Nat) : Int)
  | [], k, y => by simp [gathB]
  | b :: M, k, y => by
    rw [gathB, List.mem_append, gath_mem M (k + 1) y]
    constructor
    · rintro (h | ⟨j, h1, h2⟩)
      · cases b <;> simp at h
        exact ⟨0, by simp, by simpa using h⟩
      · exact ⟨j + 1, by simpa using h1, by rw [h2]; congr 1; omega⟩
    · rintro ⟨j, h1, h2⟩
      cases j with
      | zero => simp at h1; subst h1; left; simpa using h2
      | succ j => right; exact ⟨j, by simpa using h1, by rw [h2]; congr 1; omega⟩
theorem gath_up : ∀ (M : List Bool) (k : Nat), UpL (gathB M k)
  | [], k => by simp [gathB, UpL]
  | b :: M, k => by
    have ih := gath_up M (k + 1)
    unfold UpL at *
    rw [gathB]
    cases b
    · simpa using ih
    · simp only [if_true, List.singleton_append, List.pairwise_cons]
      refine ⟨fun y hy => ?_, ih⟩
      obtain ⟨j, _, h2⟩ := (gath_mem M (k + 1) y).1 hy
      rw [h2]; omega
theorem up_ext : ∀ {a b : List Int}, UpL a → UpL b → (∀ y, y ∈ a ↔ y ∈ b) → a = b
  | [], [], _, _, _ => rfl
  | [], y :: b, _, _, h => by have := (h y).2 (by simp); simp at this
  | x :: a, [], _, _, h => by have := (h x).1 (by simp); simp at this
  | x :: a, y :: b, ha, hb, h => by
    obtain ⟨ha1, ha2⟩ := List.pairwise_cons.1 ha
    obtain ⟨hb1, hb2⟩ := List.pairwise_cons.1 hb
    have hxy : x = y := by
      rcases List.mem_cons.1 ((h x).1 (by simp)) with e | e
      · exact e
      · rcases List.mem_cons.1 ((h y).2 (by simp)) with e' | e'
        · exact e'.symm
        · have := hb1 x e; have := ha1 y e'; omega
    subst hxy
    rw [up_ext ha2 hb2 (fun z => ?_)]
    have hz := h z
    simp only [List.mem_cons] at hz
    constructor
    · intro hm
      rcases hz.1 (.inr hm) with e | e
      · subst e; have := ha1 z hm; omega
      · exact e
    · intro hm
      rcases hz.2 (.inr hm) with e | e
      · subst e; have := hb1 z hm; omega
      · exact e
theorem putAll_mem {y : Int} : ∀ {xs l : List Int}, y ∈ putAll xs l ↔ y ∈ l ∨ y ∈ xs
  | [], l => by simp [putAll]
  | x :: xs, l => by
    rw [putAll_cons, putAll_mem, mem_putL, List.mem_cons]
    constructor
    · rintro ((h | h) | h)
      · exact .inr (.inl h)
      · exact .inl h
      · exact .inr (.inr h)
    · rintro (h | h | h)
      · exact .inl (.inr h)
      · exact .inl (.inl h)
      · exact .inr h
theorem putAll_up : ∀ {xs l : List Int}, UpL l → UpL (putAll xs l)
  | [], l, h => h
  | x :: xs, l, h => by rw [putAll_cons]; exact putAll_up (up_putL h)
theorem stepN_mem {l : List Gn} {y : Int} : ∀ {c acc : List Int}, y ∈ stepN l c acc ↔ y ∈ acc ∨ ∃ k ∈ c, y ∈ lksAt l k
  | [], acc => by simp [stepN]
  | x :: c, acc => by
    rw [stepN_cons, stepN_mem, putAll_mem]
    constructor
    · rintro ((h | h) | ⟨k, hk, h⟩)
      · exact .inl h
      · exact .inr ⟨x, by simp, h⟩
      · exact .inr ⟨k, by simp [hk], h⟩
    · rintro (h | ⟨k, hk, h⟩)
      · exact .inl (.inl h)
      · rcases List.mem_cons.1 hk with rfl | hk
        · exact .inl (.inr h)
        · exact .inr ⟨k, hk, h⟩
theorem stepN_up {l : List Gn} : ∀ {c acc : List Int}, UpL acc → UpL (stepN l c acc)
  | [], acc, h => h
  | x :: c, acc, h => by rw [stepN_cons]; exact stepN_up (putAll_up h)
/-- What behind tells. -/
theorem gath_step {l : List Gn} (hin : LinksIn l) (c : List Int) (M : List Bool) (hM : M.length = l.length) (hm : ∀ k : Nat, k < l.length → (M[k]? = some true ↔ ∃ x ∈ c, (k : Int) ∈ lksAt l x)) : gathB M 0 = stepN l c [] := by
  have hlk : ∀ x y, y ∈ lksAt l x → 0 ≤ y ∧ y < l.length := fun x y hy => by
    unfold lksAt at hy
    cases hx : l[x.toNat]? with
    | none => rw [hx] at hy; simp at hy
    | some g => rw [hx] at hy; exact hin g (List.mem_of_getElem? hx) y hy
  refine up_ext (gath_up _ _) (stepN_up List.Pairwise.nil) (fun y => ?_)
  rw [gath_mem, stepN_mem]
  constructor
  · rintro ⟨j, h1, rfl⟩
    have hj : j < l.length := by rw [← hM]; exact (List.getElem?_eq_some_iff.1 h1).1
    rw [Nat.zero_add]
    exact .inr ((hm j hj).1 h1)
  · rintro (h | ⟨k, hk, h⟩)
    · simp at h
    · have := hlk k y h
      refine ⟨y.toNat, (hm y.toNat (by omega)).2 ⟨k, hk, by rw [Int.toNat_of_nonneg this.1]; exact h⟩, by omega⟩

def OwnB (B : Nat) (l : List Bool) (v : Value) (W : World) : Prop := W.ownsRow B 4 1 v l.length (l.map encB)
theorem infoB : (Try.prog.info? 4).map (fun i => (i.zero, i.size, i.bytes)) = some (some (.bool false), 1, 1) := by kernel_rfl
theorem gathB_take {M : List Bool} {i : Nat} (h : i < M.length) : gathB M 0 = gathB (M.take i) 0 ++ gathB (M.drop i) i := by
  have key : ∀ (a b : List Bool) (k : Nat), gathB (a ++ b) k = gathB a k ++ gathB b (k + a.length) := by
    intro a
    induction a with
    | nil => intro b k; rfl
    | cons x a ih => intro b k; rw [List.cons_append, gathB, gathB, ih, List.append_assoc, List.length_cons]; congr 3; omega
  conv => lhs; rw [← List.take_append_drop i M]
  rw [key, List.length_take, Nat.zero_add, Nat.min_eq_left (by omega)]
theorem gathB_succ {M : List Bool} {i : Nat} (h : i < M.length) : gathB (M.take (i + 1)) 0 = gathB (M.take i) 0 ++ (if M[i] then [(i : Int)] else []) := by
  have key : ∀ (a b : List Bool) (k : Nat), gathB (a ++ b) k = gathB a k ++ gathB b (k + a.length) := by
    intro a
    induction a with
    | nil => intro b k; rfl
    | cons x a ih => intro b k; rw [List.cons_append, gathB, gathB, ih, List.append_assoc, List.length_cons]; congr 3; omega
  rw [List.take_succ_eq_append_getElem h, key, List.length_take, Nat.zero_add, Nat.min_eq_left (by omega)]
  simp [gathB]
set_option maxRecDepth 100000 in
set_option maxHeartbeats 1600000 in
theorem behind_any (l : List Gn) (v fv : Value) (c : List Int) (w : World) (hl : SlN l v w) (hc : SlI c fv w) (hin : LinksIn l) (hcn : InL l.length c) (hlen : l.length ≤ 4096) (hcl : c.length ≤ 4096) (hok : okS l) :
    Calls Try.prog 37 #[.agg #[v], fv] w fun e w' => ∃ v', e = .returned v' ∧ SlI (stepN l c []) v' w' ∧ Below w.heap.size w w' := by
  obtain ⟨ib, hib, hb0, hb1, hb2⟩ := info_parts infoB
  have HL : Hid (∀ W, Below w.heap.size w W → SlN l v W ∧ SlI c fv W) := fun W hb => ⟨hl.next hb, hc.next hb⟩
  have HIN : Hid (LinksIn l ∧ InL l.length c) := ⟨hin, hcn⟩
  clear hin hcn
  obtain ⟨la, lc, rfl, hgn, _⟩ := hl
  obtain ⟨ca, cc, rfl, _⟩ := hc
  have HLJ : Hid (∀ j (hj : j < l.length), ∃ b o u, la = some ⟨b, o, none⟩ ∧ ∀ W, Below w.heap.size w W → W.cell? ⟨b, o + j * 3 + 2, none⟩ = some u ∧ SlI l[j].links u W) := fun j hj => by
    obtain ⟨b, o, u, e, hb, _, _, q, hs, _⟩ := hgn.at (Below.refl _ _) hj
    exact ⟨b, o, u, e, fun W hW => ⟨(hW.cell (p := ⟨b, o + j * 3 + 2, none⟩) hb).trans q, hs.next hW⟩⟩
  clear hgn
  have B0 := below_box w (.slice la l.length lc) 24
  have k0 : (w.alloc (Obj.cells #[.slice la l.length lc] 24)).heap[w.heap.size]? = some (Obj.cells #[.slice la l.length lc] 24) := heap_alloc_new _ _
  have hs0 : (w.alloc (Obj.cells #[.slice la l.length lc] 24)).heap.size = w.heap.size + 1 := by simp
  go_enter Try.func37, Try.ntmps37
  go_wp2_with (at_make; refine wpList_make_full _ rfl _ _ 89 rfl (w.heap.size + 1) 4 ib _ 1 Try.underlying89 hib hb0 hb1 _ _ _ _ l.length rfl rfl rfl rfl (by rw [hb2]; omega) (by unfold maxLen; omega) (by simp) ?_)
  generalize w.alloc (Obj.cells #[.slice la l.length lc] 24) = w0 at *
  rintro w2 hown hg2
  have hown' : OwnB (w.heap.size + 1) (List.replicate l.length false) (.slice (some ⟨w.heap.size + 1, 0, none⟩) l.length l.length) w2 := by
    unfold OwnB
    simp only [List.length_replicate, List.map_replicate]
    have : (madeCells #[Value.bool false] l.length).toList = List.replicate l.length (encB false) := toList_madeCells_one _ _
    rw [← this]
    simpa using hown
  have HO0 : Hid (OwnB (w.heap.size + 1) (List.replicate l.length false) (.slice (some ⟨w.heap.size + 1, 0, none⟩) l.length l.length) w2) := hown'
  have B2 : Below w.heap.size w w2 := B0.grown hg2 B0.size (fun k e => by cases e)
  have k2 : w2.heap[w.heap.size]? = some (Obj.cells #[.slice la l.length lc] 24) := (hg2.block _ (blk_lt k0) (fun e => by cases e)).trans k0
  have HT : Hid (∀ W, But (fun k => k = w.heap.size + 1) w2 W → W.cell? ⟨w.heap.size, 0, none⟩ = some (.slice la l.length lc) ∧ SlN l (.slice la l.length lc) W ∧ SlI c (.slice ca c.length cc) W ∧ Below w.heap.size w W) := fun W hW => by
    have hb := B2.trans (hW.below B2.size (fun k e => by omega))
    exact ⟨by rw [Lib.cell_of_heap (but_blk hW k2 (by omega))]; rfl, (HL.out W hb).1, (HL.out W hb).2, hb⟩
  clear hown hown' hg2 B0 B2 k0 k2 hs0 HL
  go_wp2_with fail
  go_loopw [19] (fun iv wr => ∃ (i : Nat) (M : List Bool), iv = .int .i64 i ∧ i ≤ c.length ∧ Hid (M.length = l.length) ∧ Hid (OwnB (w.heap.size + 1) M (.slice (some ⟨w.heap.size + 1, 0, none⟩) l.length l.length) wr) ∧ Hid (∀ k : Nat, k < l.length → (M[k]? = some true ↔ ∃ x ∈ c.take i, (k : Int) ∈ lksAt l x)) ∧ But (fun k => k = w.heap.size + 1) w2 wr) (fun i _ => c.length - (intOf i).toNat)
  case atStart => exact ⟨0, _, rfl, Nat.zero_le _, by show _ = _; simp, HO0, fun k hk => by simp [List.getElem?_replicate], But.refl _ _⟩
  case round =>
  obtain ⟨i, M, rfl, hi, HML, HOM, HMM, BR⟩ := hrel
  by_cases hlt : i < c.length
  case neg =>
    obtain rfl : i = c.length := by omega
    have HG : Hid (gathB M 0 = stepN l c []) := gath_step HIN.out.1 c M HML.out (by have := HMM.out; rwa [List.take_length] at this)
    clear HMM HO0
    go_wp2_with fail
    obtain ⟨wo, hwo⟩ : ∃ wo, wo = wr := ⟨_, rfl⟩
    subst hwo
    go_loopw [10, 44] (fun tv kv w3 => ∃ (k : Nat) (P : List Int), kv = .int .i64 k ∧ k ≤ l.length ∧ Hid (P = gathB (M.take k) 0) ∧ P.length ≤ k ∧ Hid (OwnI wo.heap.size P tv w3) ∧ Below wo.heap.size wo w3) (fun _ k _ => l.length - (intOf k).toNat)
    case atStart => exact ⟨0, [], rfl, Nat.zero_le _, by show _ = _; simp [gathB], Nat.le_refl _, World.ownsRow_nil _ _ _ _, Below.refl _ _⟩
    case round =>
    obtain ⟨k, P, rfl, hk, HP, hPl, HOP, BW⟩ := hrel
    obtain ⟨pa, pc, rfl⟩ := slice_of_own HOP.out.own
    by_cases hkt : k < l.length
    case neg =>
      obtain rfl : k = l.length := by omega
      have HV : Hid (SlI (stepN l c []) (.slice pa P.length pc) wr ∧ Below w.heap.size w wr) := by
        have e : P = stepN l c [] := by rw [HP.out, List.take_of_length_le (by have := HML.out; omega), HG.out]
        refine ⟨?_, (HT.out _ BR).2.2.2.trans (BW.mono (HT.out _ BR).2.2.2.size)⟩
        rw [← e]
        refine HOP.out.sl (fun y hy => ?_)
        rw [HP.out] at hy
        obtain ⟨j, h1, h2⟩ := (gath_mem _ _ _).1 hy
        have := (List.getElem?_eq_some_iff.1 h1).1
        simp at this
        rw [h2]; unfold i64B; omega
      clear HOP HOM HT HG HP
      go_wp2_with fail
      go_ret
      exact ⟨_, rfl, HV.out⟩
    have hkM : k < M.length := by rw [HML.out]; exact hkt
    have HOM2 : Hid (OwnB (w.heap.size + 1) M (.slice (some ⟨w.heap.size + 1, 0, none⟩) l.length l.length) wr) := ownsRow_below4 HOM.out BW
    have cM : wr.cell? ⟨w.heap.size + 1, k, none⟩ = some (.bool M[k]) := by
      have h1 := HOM2.out
      unfold OwnB at h1
      rw [HML.out] at h1
      rw [World.ownsRow.cellAt h1 k (by omega)]
      simp [hkM, encB]
    have HGS : Hid (gathB (M.take (k + 1)) 0 = gathB (M.take k) 0 ++ (if M[k] then [(k : Int)] else [])) := gathB_succ hkM
    generalize M[k] = mk at *
    cases mk with
    | false =>
      have HP2 : Hid (P = gathB (M.take (k + 1)) 0) := by show _ = _; rw [HGS.out, HP.out]; simp
      clear HOM2 HOM HGS HP HT HG
      go_wp2_with fail
      exact ⟨⟨k + 1, P, by go_num, by omega, HP2, by omega, HOP, BW⟩, by simp [intOf]; omega⟩
    | true =>
      have HP2 : Hid (P ++ [(k : Int)] = gathB (M.take (k + 1)) 0) := by show _ = _; rw [HGS.out, HP.out]; simp
      have hsI : SlI [(k : Int)] (.slice (some ⟨wr.heap.size, 0, none⟩) 1 1) (wr.alloc (Obj.cells #[.int .i64 k] 3)) := slI_one (by unfold i64B; omega) (Below.refl _ _)
      have HOA : Hid (OwnI wo.heap.size P (.slice pa P.length pc) (wr.alloc (Obj.cells #[.int .i64 k] 3))) := World.ownsRow.alloc HOP.out _
      have BA : Below wo.heap.size wo (wr.alloc (Obj.cells #[.int .i64 k] 3)) := BW.alloc BW.size _
      clear HOM2 HOM HGS HP HT HG
      go_wp2_with (at_builtin; refine wpList_append_sl rfl (.tmp 50) (.tmp 52) rfl wo.heap.size P [(k : Int)] _ _ rfl rfl HOA.out hsI (by simp; omega) BA.size ?_)
      intro v' w3 ho3 hg3 _
      have HR : Hid (OwnI wo.heap.size (P ++ [(k : Int)]) v' w3 ∧ Below wo.heap.size wo w3) := ⟨ho3, BA.grown hg3 BA.size (fun k e => (World.ownsRow.lt HOA.out.own k e).1)⟩
      obtain ⟨sa, sc, rfl⟩ := slice_of_own ho3.own
      clear ho3 hg3 HOA BA hsI HOP BW
      go_wp2_with fail
      exact ⟨⟨k + 1, P ++ [(k : Int)], by go_num, by omega, HP2, by simp; omega, HR.out.1, HR.out.2⟩, by simp [intOf]; omega⟩
  obtain ⟨d0, ⟨_, _, e0, hal, _⟩, ⟨_, _, e1, hcr, _⟩, _⟩ := HT.out wr BR
  cases e0
  cases e1
  obtain ⟨b1, o1, rfl, hb1', p0⟩ := hcr.at (Below.refl _ _) hlt
  have HCI : Hid (0 ≤ c[i] ∧ c[i] < l.length) := HIN.out.2 _ (List.getElem_mem hlt)
  have hci := HCI.out
  have HTK : Hid (c.take (i + 1) = c.take i ++ [c[i]]) := List.take_succ_eq_append_getElem hlt
  simp only [encI] at p0
  generalize c[i] = ci at *
  obtain ⟨j0, rfl⟩ : ∃ j0 : Nat, ci = j0 := ⟨ci.toNat, by omega⟩
  have hj0 : j0 < l.length := by omega
  obtain ⟨b2, o2, u, rfl, HQU⟩ := HLJ.out j0 hj0
  have HQ : Hid (∀ W, But (fun k => k = w.heap.size + 1) w2 W → W.cell? ⟨b2, o2 + j0 * 3 + 2, none⟩ = some u ∧ SlI l[j0].links u W) := fun W hW => HQU W (HT.out W hW).2.2.2
  have HXL : Hid (l[j0].links.length ≤ 1000000) := hok _ (List.getElem_mem hj0)
  have HLK : Hid (lksAt l j0 = l[j0].links ∧ InL l.length l[j0].links) := ⟨lksAt_eq rfl hj0, HIN.out.1 _ (List.getElem_mem hj0)⟩
  clear HQU hal hcr
  obtain ⟨q2, hsx⟩ := HQ.out wr BR
  generalize l[j0].links = xs at *
  obtain ⟨xa, xc, rfl⟩ : ∃ xa xc, u = .slice xa xs.length xc := hsx.imp fun _ h => h.imp fun _ h => h.1
  have hxl : xs.length ≤ 1000000 := HXL.out
  clear hsx HLJ
  go_wp2_with fail
  go_loopw [30] (fun jv w3 => ∃ (j : Nat) (M3 : List Bool), jv = .int .i64 j ∧ j ≤ xs.length ∧ Hid (M3.length = l.length) ∧ Hid (OwnB (w.heap.size + 1) M3 (.slice (some ⟨w.heap.size + 1, 0, none⟩) l.length l.length) w3) ∧ Hid (∀ k : Nat, k < l.length → (M3[k]? = some true ↔ M[k]? = some true ∨ (k : Int) ∈ xs.take j)) ∧ But (fun k => k = w.heap.size + 1) w2 w3) (fun j _ => xs.length - (intOf j).toNat)
  case atStart => exact ⟨0, M, rfl, Nat.zero_le _, HML, HOM, fun k hk => by simp, BR⟩
  case round =>
  obtain ⟨j, M3, rfl, hj, HML3, HOM3, HMM3, BR3⟩ := hrel
  clear d0 q2 p0
  obtain ⟨d0, _, _, _⟩ := HT.out wr BR3
  obtain ⟨_, ⟨_, _, e3, hxr, _⟩⟩ := HQ.out wr BR3
  cases e3
  by_cases hjt : j < xs.length
  case neg =>
    obtain rfl : j = xs.length := by omega
    have HF : Hid (∀ k : Nat, k < l.length → (M3[k]? = some true ↔ ∃ x ∈ c.take (i + 1), (k : Int) ∈ lksAt l x)) := fun k hk => by
      rw [HMM3.out k hk, List.take_length, HMM.out k hk, HTK.out]
      constructor
      · rintro (⟨x, hx, h⟩ | h)
        · exact ⟨x, by simp [hx], h⟩
        · exact ⟨j0, by simp, by rw [HLK.out.1]; exact h⟩
      · rintro ⟨x, hx, h⟩
        rcases List.mem_append.1 hx with hx | hx
        · exact .inl ⟨x, hx, h⟩
        · simp at hx; subst hx; rw [HLK.out.1] at h; exact .inr h
    clear HMM HMM3 HOM HLK HTK HQ hxr
    go_wp2_with fail
    exact ⟨⟨i + 1, M3, by go_num, by omega, HML3, HOM3, HF, BR3⟩, by simp [intOf]; omega⟩
  obtain ⟨b3, o3, rfl, hb3, p3⟩ := hxr.at (Below.refl _ _) hjt
  have HY : Hid (0 ≤ xs[j] ∧ xs[j] < l.length) := HLK.out.2 _ (List.getElem_mem hjt)
  have hy := HY.out
  have HTJ : Hid (xs.take (j + 1) = xs.take j ++ [xs[j]]) := List.take_succ_eq_append_getElem hjt
  have HCH := has_any (some ⟨b2, o2, none⟩) l lc xs[j] wr
  have HHB : Hid (hasB l xs[j] = true) := by show _ = _; unfold hasB; simpa using hy
  rw [HHB.out] at HCH
  simp only [encI] at p3
  generalize xs[j] = y at *
  obtain ⟨yk, rfl⟩ : ∃ yk : Nat, y = yk := ⟨y.toNat, by omega⟩
  have hyk : yk < l.length := by omega
  have BA3 : But (fun k => k = w.heap.size + 1) w2 (wr.alloc (Obj.cells #[.slice (some ⟨b2, o2, none⟩) l.length lc] 24)) := BR3.trans (But.of_next ((Below.refl _ _).alloc (Nat.le_refl _) _))
  have HOA : Hid ((wr.alloc (Obj.cells #[.slice (some ⟨b2, o2, none⟩) l.length lc] 24)).ownsRow (w.heap.size + 1) 4 1 (.slice (some ⟨w.heap.size + 1, 0, none⟩) l.length l.length) l.length (M3.map encB)) := by
    have := World.ownsRow.alloc HOM3.out (Obj.cells #[.slice (some ⟨b2, o2, none⟩) l.length lc] 24)
    rwa [HML3.out] at this
  have cM : (wr.alloc (Obj.cells #[.slice (some ⟨b2, o2, none⟩) l.length lc] 24)).cell? ⟨w.heap.size + 1, yk, none⟩ = some (.bool (M3[yk]'(by rw [HML3.out]; exact hyk))) := by
    rw [World.ownsRow.cellAt HOA.out yk (by omega)]
    simp [HML3.out, hyk, encB]
  have fM := World.ownsRow.frozenAt HOA.out yk
  have HS := (World.ownsRow.stored HOA.out yk (.bool true)).1
  have HR : Hid ((M3.set yk true).length = l.length ∧ OwnB (w.heap.size + 1) (M3.set yk true) (.slice (some ⟨w.heap.size + 1, 0, none⟩) l.length l.length) ((wr.alloc (Obj.cells #[.slice (some ⟨b2, o2, none⟩) l.length lc] 24)).setCell ⟨w.heap.size + 1, yk, none⟩ (.bool true)) ∧ (∀ k : Nat, k < l.length → ((M3.set yk true)[k]? = some true ↔ M[k]? = some true ∨ (k : Int) ∈ xs.take (j + 1))) ∧ But (fun k => k = w.heap.size + 1) w2 ((wr.alloc (Obj.cells #[.slice (some ⟨b2, o2, none⟩) l.length lc] 24)).setCell ⟨w.heap.size + 1, yk, none⟩ (.bool true))) := by
    refine ⟨by rw [List.length_set]; exact HML3.out, ?_, fun k hk => ?_, BA3.setCell _ _ (.inr rfl)⟩
    · unfold OwnB
      rw [List.length_set, HML3.out, List.map_set]
      exact HS
    · rw [HTJ.out, List.getElem?_set]
      by_cases e : yk = k
      · subst e
        simp [HML3.out, hyk]
      · rw [if_neg e, HMM3.out k hk]
        have : (k : Int) ≠ yk := by omega
        simp [this]
  generalize wr.alloc (Obj.cells #[.slice (some ⟨b2, o2, none⟩) l.length lc] 24) = wa at *
  clear HS HOA BA3 HMM HMM3 HOM HLK HTK HQ hxr HOM3 HTJ HHB
  go_wp2_with fail
  refine HCH.mono ?_
  rintro e w4 ⟨rfl, rfl⟩
  clear HCH
  go_wp2_with fail
  exact ⟨⟨j + 1, _, by go_num, by omega, HR.out.1, HR.out.2.1, HR.out.2.2.1, HR.out.2.2.2⟩, by simp [intOf]; omega⟩

theorem backN_succ (l : List Gn) : ∀ (n : Nat) (c : List Int), backN l (n + 1) c = stepN l (backN l n c) []
  | 0, c => rfl
  | n + 1, c => by show backN l (n + 1) (stepN l c []) = _; rw [backN_succ l n (stepN l c [])]; rfl
theorem backN_in {l : List Gn} (hin : LinksIn l) : ∀ (n : Nat) (c : List Int), UpL c → InL l.length c → UpL (backN l n c) ∧ InL l.length (backN l n c)
  | 0, c, h1, h2 => ⟨h1, h2⟩
  | n + 1, c, h1, h2 => by
    rw [backN_succ]
    refine ⟨stepN_up List.Pairwise.nil, fun y hy => ?_⟩
    rcases stepN_mem.1 hy with h | ⟨k, _, h⟩
    · simp at h
    · unfold lksAt at h
      cases hx : l[k.toNat]? with
      | none => rw [hx] at h; simp at h
      | some g => rw [hx] at h; exact hin g (List.mem_of_getElem? hx) y h
set_option maxRecDepth 100000 in
set_option maxHeartbeats 1600000 in
theorem back_any (l : List Gn) (v : Value) (node n : Int) (w : World) (hl : SlN l v w) (hf : fitP l) :
    Calls Try.prog 18 #[.agg #[v], .int .i64 node, .int .i64 n] w fun e w' => ∃ v', e = .returned v' ∧ SlI (backF l node n) v' w' ∧ Below w.heap.size w w' := by
  have HL : Hid (∀ W, Below w.heap.size w W → SlN l v W) := fun W hb => hl.next hb
  have HFT : Hid (fitP l) := hf
  have hlen := hf.1
  clear hf
  obtain ⟨la, lc, rfl, _⟩ := hl
  have B0 := below_box w (.slice la l.length lc) 24
  have k0 : (w.alloc (Obj.cells #[.slice la l.length lc] 24)).heap[w.heap.size]? = some (Obj.cells #[.slice la l.length lc] 24) := heap_alloc_new _ _
  have HC := leadsBack_any la l lc node n (w.alloc (Obj.cells #[.slice la l.length lc] 24))
  have HV : Hid (backF l node n = if leadB l node n then backN l n.toNat [node] else []) := by
    show _ = _
    unfold backF leadB
    by_cases h : 0 ≤ node ∧ node < l.length ∧ 0 ≤ n ∧ n ≤ 64 <;> simp [h]
  have HLB : Hid (leadB l node n = true → 0 ≤ node ∧ node < l.length ∧ 0 ≤ n ∧ n ≤ 64) := fun h => by unfold leadB at h; simpa using h
  generalize leadB l node n = LB at *
  go_enter Try.func18, Try.ntmps18
  go_wp2_with fail
  generalize w.alloc (Obj.cells #[.slice la l.length lc] 24) = w0 at *
  refine HC.mono ?_
  rintro e w1 ⟨rfl, hb1⟩
  clear HC
  have B1 : Below w.heap.size w w1 := B0.trans (hb1.mono B0.size)
  cases LB with
  | false =>
    have HV2 : Hid (backF l node n = []) := by show _ = _; rw [HV.out]; rfl
    clear HV HL hb1 B0
    go_wp2_with fail
    go_ret
    exact ⟨_, rfl, by rw [HV2.out]; exact ⟨none, 0, rfl, RowAt.nil _ _ _, fun _ => rfl, Nat.le_refl _, by simp⟩, B1⟩
  | true =>
    obtain ⟨g1, g2, g3, g4⟩ := HLB.out rfl
    obtain ⟨N, rfl⟩ : ∃ N : Nat, n = N := ⟨n.toNat, by omega⟩
    have HV2 : Hid (backF l node N = backN l N [node]) := by show _ = _; rw [HV.out]; rfl
    have k1 : (w1.alloc (Obj.cells #[.int .i64 node] 3)).heap[w.heap.size]? = some (Obj.cells #[.slice la l.length lc] 24) := blk_new ((hb1.block _ (blk_lt k0)).trans k0)
    have HS0 : Hid (SlI [node] (.slice (some ⟨w1.heap.size, 0, none⟩) 1 1) (w1.alloc (Obj.cells #[.int .i64 node] 3))) := slI_one (by unfold i64B; omega) (Below.refl _ _)
    have B2 : Below w.heap.size w (w1.alloc (Obj.cells #[.int .i64 node] 3)) := B1.alloc B1.size _
    have HIN1 : Hid (InL l.length [node]) := fun y hy => by simp at hy; subst hy; exact ⟨g1, g2⟩
    clear HV HLB hb1 B0 k0 B1 g1 g2
    go_wp2_with fail
    obtain ⟨fb, hfb⟩ : ∃ fb, fb = w1.heap.size := ⟨_, rfl⟩
    rw [← hfb] at HS0 ⊢
    generalize w1.alloc (Obj.cells #[.int .i64 node] 3) = w2 at *
    clear hfb
    have HT : Hid (∀ W, Below w2.heap.size w2 W → W.cell? ⟨w.heap.size, 0, none⟩ = some (.slice la l.length lc) ∧ SlN l (.slice la l.length lc) W ∧ Below w.heap.size w W) := fun W hW => ⟨(hW.cell (p := ⟨w.heap.size, 0, none⟩) (blk_lt k1)).trans (by rw [Lib.cell_of_heap k1]; rfl), HL.out W (B2.trans (hW.mono B2.size)), B2.trans (hW.mono B2.size)⟩
    clear k1 B2 HL
    go_loopw [7, 16] (fun tv iv wr => ∃ (i : Nat), iv = .int .i64 i ∧ i ≤ N ∧ Hid (SlI (backN l i [node]) tv wr) ∧ Below w2.heap.size w2 wr) (fun _ i _ => N - (intOf i).toNat)
    case atStart => exact ⟨0, rfl, Nat.zero_le _, HS0, Below.refl _ _⟩
    case round =>
    obtain ⟨i, rfl, hi, HS, BR⟩ := hrel
    obtain ⟨c0, hsl, QB⟩ := HT.out wr BR
    have HBI : Hid (UpL (backN l i [node]) ∧ InL l.length (backN l i [node])) := backN_in HFT.out.links i _ (List.pairwise_singleton _ _) HIN1.out
    have hcl := up_len HBI.out.1 HBI.out.2
    obtain ⟨ta, tc, rfl⟩ : ∃ aa ac, u7 = .slice aa (backN l i [node]).length ac := HS.out.imp fun _ h => h.imp fun _ h => h.1
    by_cases hlt : i < N
    case neg =>
      obtain rfl : i = N := by omega
      clear HT hsl
      go_wp2_with fail
      go_ret
      exact ⟨_, rfl, by rw [HV2.out]; exact HS.out, QB⟩
    have HC := behind_any l (.slice la l.length lc) _ (backN l i [node]) wr hsl HS.out HFT.out.links HBI.out.2 hlen (by omega) HFT.out.okS
    rw [← backN_succ] at HC
    obtain ⟨bn, HBN⟩ : ∃ bn, Hid (backN l (i + 1) [node] = bn) := ⟨_, rfl⟩
    rw [HBN.out] at HC
    clear hsl HBI HS
    generalize backN l i [node] = bo at *
    go_wp2_with fail
    refine HC.mono ?_
    rintro e w4 ⟨v4, rfl, hs4, hb4⟩
    have HR : Hid (SlI bn v4 w4 ∧ Below w2.heap.size w2 w4) := ⟨hs4, BR.trans (hb4.mono BR.size)⟩
    obtain ⟨sa, sc, rfl⟩ : ∃ aa ac, v4 = .slice aa bn.length ac := hs4.imp fun _ h => h.imp fun _ h => h.1
    clear HC hs4 hb4
    go_wp2_with fail
    exact ⟨⟨i + 1, by go_num, by omega, (by rw [HBN.out]; exact HR.out.1), HR.out.2⟩, by simp [intOf]; omega⟩
end Go.Proofs.Ytjpbfckdiojghaa
