/- Texts joined: DSeen, DRun. -/
import Derived.Test.YtdalomibilicfaaDAlong
/- Machines in one state: the program's Seen. -/
namespace Go.Proofs.Ytdalomibilicfaa
open Go.RowKit Go.Shelf
attribute [local go_sem] Oper.semAt_some

def mark (d : Nat) : Deferred := { target := .collected d, args := #[] }
def Mk (Ds : List Nat) (W : World) : Prop := Ds.Nodup ∧ ∀ d ∈ Ds, W.heap[d]? = some (.deferred (some []))
theorem leaves_marksC {F : Fence} {n : Nat} {P : Program} {fn : Func} {tmps : Array Value} {Rw : World → Prop} {R : Ending → World → Prop} {v : Value} (hres : ∀ W, Rw W → (results fn tmps).run P W = .ok v W) (D0 : Nat → Prop)
    (hR : ∀ W d, D0 d → W.heap[d]? = some (.deferred (some [])) → Rw W → Rw (W.putObj d (.deferred none))) (hfin : ∀ W, Rw W → R (.returned v) W) :
    ∀ (Ds : List Nat) (W : World), Mk Ds W → (∀ d ∈ Ds, D0 d) → Rw W → LeavesInM F n P fn tmps R (Ds.map mark) .returning W
  | [], W, _, _, h => ⟨v, hres W h, hfin W h⟩
  | d :: Ds, W, hM, hD, h => by
    have hd := hM.2 d (by simp)
    have hn := List.nodup_cons.1 hM.1
    refine ⟨by simp, .inl ⟨d, _, rfl, run_takeDeferred hd, ?_⟩⟩
    refine leaves_marksC hres D0 hR hfin Ds _ ⟨hn.2, fun e he => ?_⟩ (fun e he => hD e (by simp [he])) (hR W d (hD d (by simp)) hd h)
    exact (World.putObj_heap_other (fun h' => hn.1 (by rw [← h']; exact he))).trans (hM.2 e (by simp [he]))
theorem blk_new {W : World} {k : Nat} {ob o : Obj} (h : W.heap[k]? = some ob) : (W.alloc o).heap[k]? = some ob := (((Below.refl _ W).alloc (Nat.le_refl _) o).block k (blk_lt h)).trans h
theorem alongL_le (d : List Ds) : ∀ (w : List Int) (n : Int) (k : Nat), ∀ x ∈ alongL d n k w, (k : Int) ≤ x.1 ∧ x.1 ≤ k + w.length ∧ isD d x.2 = true
  | [], n, k, x, h => by
    unfold alongL at h
    split at h
    · simp at h; subst h; exact ⟨Int.le_refl _, by simp, by assumption⟩
    · simp at h
  | c :: w, n, k, x, h => by
    unfold alongL at h
    split at h
    · rcases List.mem_cons.1 h with rfl | h
      · exact ⟨Int.le_refl _, by simp; omega, by assumption⟩
      · have := alongL_le d w _ _ x h
        simp only [List.length_cons]
        refine ⟨by omega, by omega, this.2.2⟩
    · simp at h
/-- What is kept between two rounds: blocks with what they hold. -/
structure XInv (w : World) (C : List (Int × Int) → Nat → Obj → Prop) (A : Nat → Prop) (pre : List (Int × Int)) (V : World) : Prop where
  bel : Below w.heap.size w V
  has : ∀ k o, C pre k o → V.heap[k]? = some o ∧ ¬ A k
  low : ∀ k, A k → w.heap.size ≤ k ∧ k < V.heap.size
theorem XInv.keep {w : World} {v : Value} {s : ByteArray} {Bd Bs : Nat} {C : List (Int × Int) → Nat → Obj → Prop} (h1 : ∀ pre, C pre Bd (Obj.cells #[v] 24)) (h2 : ∀ pre, C pre Bs (Obj.cells #[.string s] 9)) : KeepJ (FxA w v s Bd Bs) (XInv w C) (fun _ _ => False) := by
  refine ⟨?_, ?_, ?_, ?_, ?_, ?_⟩
  · intro A pre V V' h hb
    refine ⟨h.bel.trans (hb.below h.bel.size (fun k hk => (h.low k hk).1)), fun k o hC => ?_, fun k hk => ?_⟩
    · have := h.has k o hC
      refine ⟨but_blk hb this.1 this.2, fun e => e.elim this.2 (fun e => ?_)⟩
      have := blk_lt this.1
      omega
    · have := h.bel.size
      have := hb.size
      rcases hk with hk | hk
      · have := h.low k hk; omega
      · omega
  · intro A pre V k h hk
    exact (h.low k hk).2
  · intro A B pre V h hB
    exact ⟨h.bel, fun k o hC => ⟨(h.has k o hC).1, fun e => (h.has k o hC).2 (hB _ e)⟩, fun k hk => h.low k (hB _ hk)⟩
  · intro A pre V h
    exact ⟨h.bel, (h.has _ _ (h1 pre)).1, (h.has _ _ (h2 pre)).1⟩
  · intro A B V h
    exact h.elim
  · intro A V V' h
    exact h.elim

def farL (xs : List (Int × Int)) : Int := xs.foldl (fun _ x => x.1) 0
theorem farL_snoc (xs : List (Int × Int)) (x : Int × Int) : farL (xs ++ [x]) = x.1 := by unfold farL; rw [List.foldl_append]; rfl
theorem farL_le {d : List Ds} {w : List Int} {n : Int} {xs : List (Int × Int)} (h : ∀ x ∈ xs, x ∈ alongL d n 0 w) : 0 ≤ farL xs ∧ farL xs ≤ w.length := by
  rcases List.eq_nil_or_concat xs with rfl | ⟨ys, y, rfl⟩
  · exact ⟨Int.le_refl _, by unfold farL; simp⟩
  · rw [List.concat_eq_append, farL_snoc]
    have := alongL_le d w n 0 y (h y (by simp))
    omega
def seenD (d : List Ds) (w : List Int) : Int := if farL (alongL d 0 0 w) + 1 ≤ w.length then farL (alongL d 0 0 w) + 1 else w.length
def CSeen (v : Value) (s : ByteArray) (fb Bd Bs : Nat) (pre : List (Int × Int)) (k : Nat) (o : Obj) : Prop := (k = fb ∧ o = Obj.cells #[.int .i64 (farL pre)] 3) ∨ (k = Bd ∧ o = Obj.cells #[v] 24) ∨ (k = Bs ∧ o = Obj.cells #[.string s] 9)

set_option maxRecDepth 100000 in
set_option maxHeartbeats 3200000 in
theorem seen_any (d : List Ds) (v : Value) (s : ByteArray) (w : World) (hl : SlD d v w) (hu : ∀ x ∈ d, upA x.arcs 0 ∧ x.arcs.length ≤ 1000000) (hs : s.size ≤ 1000000) :
    Calls Try.prog 16 #[.agg #[v], .string s] w fun e w' => e = .returned (.int .i64 (seenD d (bsZ s))) ∧ Below w.heap.size w w' := by
  have HGV : Hid (∀ Bd Bs V, GivesT 4 Try.prog 40 #[.pointer (some ⟨Bd, 0, none⟩), .pointer (some ⟨Bs, 0, none⟩)] encP (fun xs _ => xs = alongL d 0 0 (bsZ s)) (fun _ _ _ => True) (fun xs => xs <+: alongL d 0 0 (bsZ s)) (fun _ => False) (FxA w v s Bd Bs) V) := fun Bd Bs V => along_gives 4 d v s Bd Bs w V hl hu hs
  obtain ⟨va, vc, rfl, _⟩ := hl
  clear hu
  have HC := along_any (.slice va d.length vc) s ⟨_, _, _, rfl⟩ ((w.alloc (Obj.cells #[.slice va d.length vc] 24)).alloc (Obj.cells #[.int .i64 0] 3))
  have hz2 : ((w.alloc (Obj.cells #[.slice va d.length vc] 24)).alloc (Obj.cells #[.int .i64 0] 3)).heap.size = w.heap.size + 2 := by simp
  have b2 : Below w.heap.size w ((w.alloc (Obj.cells #[.slice va d.length vc] 24)).alloc (Obj.cells #[.int .i64 0] 3)) := ((Below.refl _ _).alloc (Nat.le_refl _) _).alloc (by simp) _
  have f2 : ((w.alloc (Obj.cells #[.slice va d.length vc] 24)).alloc (Obj.cells #[.int .i64 0] 3)).heap[w.heap.size + 1]? = some (Obj.cells #[.int .i64 0] 3) := by
    have := heap_alloc_new (w.alloc (Obj.cells #[.slice va d.length vc] 24)) (Obj.cells #[.int .i64 0] 3)
    simpa using this
  have H2 : Hid (((w.alloc (Obj.cells #[.slice va d.length vc] 24)).alloc (Obj.cells #[.int .i64 0] 3)).heap.size = w.heap.size + 2 ∧ Below w.heap.size w ((w.alloc (Obj.cells #[.slice va d.length vc] 24)).alloc (Obj.cells #[.int .i64 0] 3)) ∧ ((w.alloc (Obj.cells #[.slice va d.length vc] 24)).alloc (Obj.cells #[.int .i64 0] 3)).heap[w.heap.size + 1]? = some (Obj.cells #[.int .i64 0] 3)) := ⟨hz2, b2, f2⟩
  clear hz2 b2 f2
  refine (callsIn_wide (n := 5)).1 ?_
  refine callsIn_of_wp_marks Try.func16 rfl trivial ?_ rfl
  simp only [Try.ntmps16, List.size_toArray, List.length_cons, List.length_nil, Nat.reduceAdd, Nat.reduceSub, Array.replicate_succ, Array.replicate_zero, List.push_toArray, List.append_toArray, List.nil_append, List.cons_append]
  gi_wp2_with fail
  refine ⟨trivial, (callsIn_wide.2 HC).mono ?_⟩
  rintro e w3 ⟨rfl, hw3⟩
  generalize (w.alloc (Obj.cells #[.slice va d.length vc] 24)).alloc (Obj.cells #[.int .i64 0] 3) = w2 at *
  have HW3 : Hid (w3.heap.size = w.heap.size + 4 ∧ Below w.heap.size w w3 ∧ w3.heap[w.heap.size + 1]? = some (Obj.cells #[.int .i64 0] 3) ∧ w3.heap[w2.heap.size]? = some (Obj.cells #[.slice va d.length vc] 24) ∧ w3.heap[w2.heap.size + 1]? = some (Obj.cells #[.string s] 9)) := by
    have B3 : Below w2.heap.size w2 w3 := by rw [hw3]; exact ((Below.refl _ _).alloc (Nat.le_refl _) _).alloc (by simp) _
    obtain ⟨z2, z3, z4⟩ := H2.out
    refine ⟨by rw [hw3]; simp; omega, z3.trans (B3.mono z3.size), (B3.block _ (blk_lt z4)).trans z4, ?_, ?_⟩
    · rw [hw3]; exact blk_new (heap_alloc_new _ _)
    · rw [hw3]
      have := heap_alloc_new (w2.alloc (Obj.cells #[.slice va d.length vc] 24)) (Obj.cells #[.string s] 9)
      simpa using this
  have HD2 : Hid (w2.heap.size = w.heap.size + 2) := H2.out.1
  clear HC hw3 H2
  gi_wp2_with fail
  refine wpIn_range_T (α := Int × Int) (by omega) (gf := 40) (lb := #[.pointer (some ⟨w2.heap.size, 0, none⟩), .pointer (some ⟨w2.heap.size + 1, 0, none⟩)]) rfl (enters_of Try.func40 (by kernel_rfl) rfl) (encs := encP) (S := fun xs _ => xs = alongL d 0 0 (bsZ s)) (Ok := fun _ _ _ => True) (Pf := fun xs => xs <+: alongL d 0 0 (bsZ s)) (A0 := fun _ => False) (Fx := FxA w (.slice va d.length vc) s w2.heap.size (w2.heap.size + 1)) (fun _ => rfl) (fun q hq => hq.elim) (fun V _ => HGV.out _ _ V) (fun _ _ _ _ _ _ _ _ => trivial) (fun ys V V' h1 _ => h1)
    (XInv w (CSeen (.slice va d.length vc) s (w.heap.size + 1) w2.heap.size (w2.heap.size + 1))) (fun _ _ => False) (XInv.keep (fun _ => .inr (.inl ⟨rfl, rfl⟩)) (fun _ => .inr (.inr ⟨rfl, rfl⟩))) (fun V h1 h2 => ?init)
    (fun x a' => a' = { tmps := #[.agg #[.slice va d.length vc], .string s, .pointer (some ⟨w.heap.size, 0, none⟩), undef, .int .i64 0, .pointer (some ⟨w.heap.size + 1, 0, none⟩), .int .i64 x.1, .agg #[.slice va d.length vc], .string s, .func (.func 40) #[] #[.pointer (some ⟨w2.heap.size, 0, none⟩), .pointer (some ⟨w2.heap.size + 1, 0, none⟩)], .int .i64 x.1, .int .i64 x.2, undef, undef, undef, undef, undef, undef], defers := [] })
    ?assign ?body ?done (fun V h => h.elim)
  case init =>
    obtain ⟨z1, z2, z3, z4, z5⟩ := HW3.out
    have z6 := HD2.out
    refine ⟨below_then z2 h1 z2.size, fun k o hC => ?_, fun k hk => ?_⟩
    · have key : w3.heap[k]? = some o := by
        rcases hC with ⟨rfl, rfl⟩ | ⟨rfl, rfl⟩ | ⟨rfl, rfl⟩
        · exact z3
        · exact z4
        · exact z5
      have hk := blk_lt key
      refine ⟨(h1.block _ hk).trans key, fun h => ?_⟩
      rcases h with h | h | h
      · exact h
      · omega
      · omega
    · rcases hk with h | h | h
      · exact h.elim
      · omega
      · omega
  case assign =>
    intro l' x V K hK
    simp only [encP]
    have HK : Hid _ := hK
    clear hK
    gi_wp2_with fail
    exact HK.out _ rfl
  case body =>
    rintro l' A' pre ⟨x1, x2⟩ a' V hI rfl _ hPf
    obtain ⟨c0, nA⟩ := hI.has _ _ (.inl ⟨rfl, rfl⟩)
    have cc : V.cell? ⟨w.heap.size + 1, 0, none⟩ = some (.int .i64 (farL pre)) := by rw [Lib.cell_of_heap c0]; rfl
    have cf : V.frozen? ⟨w.heap.size + 1, 0, none⟩ = false := Lib.frozen_of_heap c0 _
    have HE : Hid (XInv w (CSeen (.slice va d.length vc) s (w.heap.size + 1) w2.heap.size (w2.heap.size + 1)) (fun k => A' k ∨ k = w3.heap.size ∨ k = w3.heap.size + 1) (pre ++ [(x1, x2)]) (V.setCell ⟨w.heap.size + 1, 0, none⟩ (.int .i64 x1)) ∧ But (fun k => ¬ (A' k ∨ k = w3.heap.size ∨ k = w3.heap.size + 1)) V (V.setCell ⟨w.heap.size + 1, 0, none⟩ (.int .i64 x1))) := by
      have B : But (fun k => k = w.heap.size + 1) V (V.setCell ⟨w.heap.size + 1, 0, none⟩ (.int .i64 x1)) := (But.refl _ _).setCell _ _ (.inr rfl)
      refine ⟨⟨hI.bel.trans (B.below hI.bel.size (fun k hk => by omega)), fun k o hC => ?_, fun k hk => ?_⟩, B.mono (fun k _ h h2 => nA (by rw [← h]; exact h2))⟩
      · have z6 := HD2.out
        rcases hC with ⟨rfl, rfl⟩ | ⟨rfl, rfl⟩ | ⟨rfl, rfl⟩
        · rw [farL_snoc]
          exact ⟨by simpa using blk_set (o := 0) c0 (.int .i64 x1), nA⟩
        · obtain ⟨e1, e2⟩ := hI.has _ _ (.inr (.inl ⟨rfl, rfl⟩))
          exact ⟨but_blk B e1 (fun e => by omega), e2⟩
        · obtain ⟨e1, e2⟩ := hI.has _ _ (.inr (.inr ⟨rfl, rfl⟩))
          exact ⟨but_blk B e1 (fun e => by omega), e2⟩
      · have := hI.low k hk
        have := B.size
        omega
    clear hI hPf c0 nA
    gi_wp2
    have HE' := HE.out
    simp only [not_or] at HE'
    exact HE'
  case done =>
    intro xs V hS hI hd
    obtain ⟨c0, nA⟩ := hI.has _ _ (.inl ⟨rfl, rfl⟩)
    have cc : V.cell? ⟨w.heap.size + 1, 0, none⟩ = some (.int .i64 (farL xs)) := by rw [Lib.cell_of_heap c0]; rfl
    have hfl : 0 ≤ farL xs ∧ farL xs ≤ s.size := by
      have := farL_le (d := d) (w := bsZ s) (n := 0) (xs := xs) (fun x hx => by rw [← hS]; exact hx)
      rw [bsZ_len] at this
      exact this
    have HV : Hid (seenD d (bsZ s) = if farL xs + 1 ≤ s.size then farL xs + 1 else (s.size : Int)) := by show _ = _; unfold seenD; rw [← hS, bsZ_len]
    have HI : Hid (Below w.heap.size w V) := hI.bel
    clear hI hS c0 nA
    generalize farL xs = fl at *
    gi_wp2
    · rw [HV.out, if_neg (by omega)]
      exact leaves_marksC (Rw := fun W => Below w.heap.size w W) (v := .int .i64 s.size) (fun W _ => (results_tmp (t := 4) rfl _ _ _).trans (by rfl)) (fun q => w.heap.size ≤ q) (fun W q h1 h2 h3 => h3.trans ((But.putObj W q (.deferred none)).below h3.size (fun k hk => by omega))) (fun W h => ⟨rfl, h⟩) [w3.heap.size] V ⟨by simp, fun q hq => by simp at hq; subst hq; exact hd⟩ (fun q hq => by simp at hq; subst hq; have := HW3.out.1; omega) HI.out
    · rw [HV.out, if_pos (by omega)]
      exact leaves_marksC (Rw := fun W => Below w.heap.size w W) (v := .int .i64 (fl + 1)) (fun W _ => (results_tmp (t := 4) rfl _ _ _).trans (by rfl)) (fun q => w.heap.size ≤ q) (fun W q h1 h2 h3 => h3.trans ((But.putObj W q (.deferred none)).below h3.size (fun k hk => by omega))) (fun W h => ⟨rfl, h⟩) [w3.heap.size] V ⟨by simp, fun q hq => by simp at hq; subst hq; exact hd⟩ (fun q hq => by simp at hq; subst hq; have := HW3.out.1; omega) HI.out
end Go.Proofs.Ytdalomibilicfaa
/- Machines in one state: the program's Run. -/
namespace Go.Proofs.Ytdalomibilicfaa
open Go.RowKit Go.Shelf
attribute [local go_sem] Oper.semAt_some

def stepR (d : List Ds) (p x : Int × Int) : Int × Int := if accD d x.2 = -1 then p else (x.1, accD d x.2)
def runL (d : List Ds) (xs : List (Int × Int)) : Int × Int := xs.foldl (stepR d) (0, -1)
theorem runL_snoc (d : List Ds) (xs : List (Int × Int)) (x : Int × Int) : runL d (xs ++ [x]) = stepR d (runL d xs) x := by unfold runL; rw [List.foldl_append]; rfl
/-- How far, and what is accepted there. -/
def runD (d : List Ds) (w : List Int) : Int × Int := runL d (alongL d 0 0 w)
def CRun (d : List Ds) (v : Value) (s : ByteArray) (xb fb wb Bd Bs : Nat) (pre : List (Int × Int)) (k : Nat) (o : Obj) : Prop := (k = Bd ∧ o = Obj.cells #[v] 24) ∨ (k = Bs ∧ o = Obj.cells #[.string s] 9) ∨ (k = fb ∧ o = Obj.cells #[.int .i64 (runL d pre).1] 3) ∨ (k = wb ∧ o = Obj.cells #[.int .i64 (runL d pre).2] 3) ∨ (k = xb ∧ o = Obj.cells #[v] 24)

set_option maxRecDepth 100000 in
set_option maxHeartbeats 3200000 in
theorem run_any (d : List Ds) (v : Value) (s : ByteArray) (w : World) (hl : SlD d v w) (hu : ∀ x ∈ d, upA x.arcs 0 ∧ x.arcs.length ≤ 1000000) (hs : s.size ≤ 1000000) :
    Calls Try.prog 10 #[.agg #[v], .string s] w fun e w' => e = .returned (.tuple #[.int .i64 (runD d (bsZ s)).1, .int .i64 (runD d (bsZ s)).2]) ∧ Below w.heap.size w w' := by
  have HGV : Hid (∀ Bd Bs V, GivesT 4 Try.prog 40 #[.pointer (some ⟨Bd, 0, none⟩), .pointer (some ⟨Bs, 0, none⟩)] encP (fun xs _ => xs = alongL d 0 0 (bsZ s)) (fun _ _ _ => True) (fun xs => xs <+: alongL d 0 0 (bsZ s)) (fun _ => False) (FxA w v s Bd Bs) V) := fun Bd Bs V => along_gives 4 d v s Bd Bs w V hl hu hs
  have HL : Hid (∀ V, Below w.heap.size w V → SlD d v V) := fun V hV => hl.next hV
  obtain ⟨va, vc, rfl, _⟩ := hl
  clear hu
  have HC := along_any (.slice va d.length vc) s ⟨_, _, _, rfl⟩ (((w.alloc (Obj.cells #[.slice va d.length vc] 24)).alloc (Obj.cells #[.int .i64 0] 3)).alloc (Obj.cells #[.int .i64 (-1)] 3))
  have hz2 : (((w.alloc (Obj.cells #[.slice va d.length vc] 24)).alloc (Obj.cells #[.int .i64 0] 3)).alloc (Obj.cells #[.int .i64 (-1)] 3)).heap.size = w.heap.size + 3 := by simp
  have b2 : Below w.heap.size w (((w.alloc (Obj.cells #[.slice va d.length vc] 24)).alloc (Obj.cells #[.int .i64 0] 3)).alloc (Obj.cells #[.int .i64 (-1)] 3)) := (((Below.refl _ _).alloc (Nat.le_refl _) _).alloc (by simp) _).alloc (by simp; omega) _
  have x2 : (((w.alloc (Obj.cells #[.slice va d.length vc] 24)).alloc (Obj.cells #[.int .i64 0] 3)).alloc (Obj.cells #[.int .i64 (-1)] 3)).heap[w.heap.size]? = some (Obj.cells #[.slice va d.length vc] 24) := blk_new (blk_new (heap_alloc_new _ _))
  have f2 : (((w.alloc (Obj.cells #[.slice va d.length vc] 24)).alloc (Obj.cells #[.int .i64 0] 3)).alloc (Obj.cells #[.int .i64 (-1)] 3)).heap[w.heap.size + 1]? = some (Obj.cells #[.int .i64 0] 3) := blk_new (by simpa using heap_alloc_new (w.alloc (Obj.cells #[.slice va d.length vc] 24)) (Obj.cells #[.int .i64 0] 3))
  have t2 : (((w.alloc (Obj.cells #[.slice va d.length vc] 24)).alloc (Obj.cells #[.int .i64 0] 3)).alloc (Obj.cells #[.int .i64 (-1)] 3)).heap[w.heap.size + 1 + 1]? = some (Obj.cells #[.int .i64 (-1)] 3) := by
    have := heap_alloc_new ((w.alloc (Obj.cells #[.slice va d.length vc] 24)).alloc (Obj.cells #[.int .i64 0] 3)) (Obj.cells #[.int .i64 (-1)] 3)
    simpa using this
  have H2 : Hid ((((w.alloc (Obj.cells #[.slice va d.length vc] 24)).alloc (Obj.cells #[.int .i64 0] 3)).alloc (Obj.cells #[.int .i64 (-1)] 3)).heap.size = w.heap.size + 3 ∧ Below w.heap.size w (((w.alloc (Obj.cells #[.slice va d.length vc] 24)).alloc (Obj.cells #[.int .i64 0] 3)).alloc (Obj.cells #[.int .i64 (-1)] 3)) ∧ (((w.alloc (Obj.cells #[.slice va d.length vc] 24)).alloc (Obj.cells #[.int .i64 0] 3)).alloc (Obj.cells #[.int .i64 (-1)] 3)).heap[w.heap.size]? = some (Obj.cells #[.slice va d.length vc] 24) ∧ (((w.alloc (Obj.cells #[.slice va d.length vc] 24)).alloc (Obj.cells #[.int .i64 0] 3)).alloc (Obj.cells #[.int .i64 (-1)] 3)).heap[w.heap.size + 1]? = some (Obj.cells #[.int .i64 0] 3) ∧ (((w.alloc (Obj.cells #[.slice va d.length vc] 24)).alloc (Obj.cells #[.int .i64 0] 3)).alloc (Obj.cells #[.int .i64 (-1)] 3)).heap[w.heap.size + 1 + 1]? = some (Obj.cells #[.int .i64 (-1)] 3)) := ⟨hz2, b2, x2, f2, t2⟩
  clear hz2 b2 x2 f2 t2
  refine (callsIn_wide (n := 5)).1 ?_
  refine callsIn_of_wp_marks Try.func10 rfl trivial ?_ rfl
  simp only [Try.ntmps10, List.size_toArray, List.length_cons, List.length_nil, Nat.reduceAdd, Nat.reduceSub, Array.replicate_succ, Array.replicate_zero, List.push_toArray, List.append_toArray, List.nil_append, List.cons_append]
  gi_wp2_with fail
  refine ⟨trivial, (callsIn_wide.2 HC).mono ?_⟩
  rintro e w3 ⟨rfl, hw3⟩
  generalize (((w.alloc (Obj.cells #[.slice va d.length vc] 24)).alloc (Obj.cells #[.int .i64 0] 3)).alloc (Obj.cells #[.int .i64 (-1)] 3)) = w2 at *
  have HW3 : Hid (w3.heap.size = w.heap.size + 5 ∧ Below w.heap.size w w3 ∧ w3.heap[w.heap.size]? = some (Obj.cells #[.slice va d.length vc] 24) ∧ w3.heap[w.heap.size + 1]? = some (Obj.cells #[.int .i64 0] 3) ∧ w3.heap[w.heap.size + 1 + 1]? = some (Obj.cells #[.int .i64 (-1)] 3) ∧ w3.heap[w2.heap.size]? = some (Obj.cells #[.slice va d.length vc] 24) ∧ w3.heap[w2.heap.size + 1]? = some (Obj.cells #[.string s] 9)) := by
    have B3 : Below w2.heap.size w2 w3 := by rw [hw3]; exact ((Below.refl _ _).alloc (Nat.le_refl _) _).alloc (by simp) _
    obtain ⟨z2, z3, z4, z5, z6⟩ := H2.out
    refine ⟨by rw [hw3]; simp; omega, z3.trans (B3.mono z3.size), (B3.block _ (blk_lt z4)).trans z4, (B3.block _ (blk_lt z5)).trans z5, (B3.block _ (blk_lt z6)).trans z6, ?_, ?_⟩
    · rw [hw3]; exact blk_new (heap_alloc_new _ _)
    · rw [hw3]
      have := heap_alloc_new (w2.alloc (Obj.cells #[.slice va d.length vc] 24)) (Obj.cells #[.string s] 9)
      simpa using this
  have HD2 : Hid (w2.heap.size = w.heap.size + 3) := H2.out.1
  clear HC hw3 H2
  gi_wp2_with fail
  refine wpIn_range_T (α := Int × Int) (by omega) (gf := 40) (lb := #[.pointer (some ⟨w2.heap.size, 0, none⟩), .pointer (some ⟨w2.heap.size + 1, 0, none⟩)]) rfl (enters_of Try.func40 (by kernel_rfl) rfl) (encs := encP) (S := fun xs _ => xs = alongL d 0 0 (bsZ s)) (Ok := fun _ _ _ => True) (Pf := fun xs => xs <+: alongL d 0 0 (bsZ s)) (A0 := fun _ => False) (Fx := FxA w (.slice va d.length vc) s w2.heap.size (w2.heap.size + 1)) (fun _ => rfl) (fun q hq => hq.elim) (fun V _ => HGV.out _ _ V) (fun _ _ _ _ _ _ _ _ => trivial) (fun ys V V' h1 _ => h1)
    (XInv w (CRun d (.slice va d.length vc) s w.heap.size (w.heap.size + 1) (w.heap.size + 1 + 1) w2.heap.size (w2.heap.size + 1))) (fun _ _ => False) (XInv.keep (fun _ => .inl ⟨rfl, rfl⟩) (fun _ => .inr (.inl ⟨rfl, rfl⟩))) (fun V h1 h2 => ?init)
    (fun x a' => a' = { tmps := #[.agg #[.slice va d.length vc], .string s, .pointer (some ⟨w.heap.size, 0, none⟩), undef, .int .i64 0, .int .i64 0, .pointer (some ⟨w.heap.size + 1, 0, none⟩), .pointer (some ⟨w.heap.size + 1 + 1, 0, none⟩), .int .i64 x.1, .int .i64 x.2, undef, .agg #[.slice va d.length vc], .string s, .func (.func 40) #[] #[.pointer (some ⟨w2.heap.size, 0, none⟩), .pointer (some ⟨w2.heap.size + 1, 0, none⟩)], .int .i64 x.1, .int .i64 x.2, undef, undef, undef, undef, undef, undef, undef, undef, undef, undef, undef, undef], defers := [] })
    ?assign ?body ?done (fun V h => h.elim)
  case init =>
    obtain ⟨z1, z2, z3, z4, z5, z7, z8⟩ := HW3.out
    have z6 := HD2.out
    refine ⟨below_then z2 h1 z2.size, fun k o hC => ?_, fun k hk => ?_⟩
    · have key : w3.heap[k]? = some o := by
        rcases hC with ⟨rfl, rfl⟩ | ⟨rfl, rfl⟩ | ⟨rfl, rfl⟩ | ⟨rfl, rfl⟩ | ⟨rfl, rfl⟩
        · exact z7
        · exact z8
        · exact z4
        · exact z5
        · exact z3
      have hk := blk_lt key
      refine ⟨(h1.block _ hk).trans key, fun h => ?_⟩
      rcases h with h | h | h
      · exact h
      · omega
      · omega
    · rcases hk with h | h | h
      · exact h.elim
      · omega
      · omega
  case assign =>
    intro l' x V K hK
    simp only [encP]
    have HK : Hid _ := hK
    clear hK
    gi_wp2_with fail
    exact HK.out _ rfl
  case body =>
    rintro l' A' pre ⟨x1, x2⟩ a' V hI rfl _ hPf
    have hin : isD d x2 = true := (alongL_le d (bsZ s) 0 0 (x1, x2) (hPf.subset (by simp))).2.2
    unfold isD at hin
    have hin2 := of_decide_eq_true hin
    obtain ⟨k, rfl⟩ : ∃ k : Nat, x2 = k := ⟨x2.toNat, by omega⟩
    have hk : k < d.length := by omega
    obtain ⟨_, _, e0, hal, _⟩ := HL.out V hI.bel
    cases e0
    obtain ⟨b2, o2, u, rfl, hb2, q0, q1, _, hq64⟩ := hal.at (Below.refl _ _) hk
    have HAC : Hid (accD d k = d[k].acc) := (arcsD_mem hk).2
    generalize d[k].acc = ac at *
    obtain ⟨bx, _⟩ := hI.has _ _ (.inr (.inr (.inr (.inr ⟨rfl, rfl⟩))))
    obtain ⟨bf, nf⟩ := hI.has _ _ (.inr (.inr (.inl ⟨rfl, rfl⟩)))
    obtain ⟨bw, nw⟩ := hI.has _ _ (.inr (.inr (.inr (.inl ⟨rfl, rfl⟩))))
    have cx : V.cell? ⟨w.heap.size, 0, none⟩ = some (.slice (some ⟨b2, o2, none⟩) d.length vc) := by rw [Lib.cell_of_heap bx]; rfl
    clear hal hPf hin hin2
    by_cases ha : ac = -1
    · have d1 : (ac != -1) = false := by simpa using ha
      have HE : Hid (XInv w (CRun d (.slice (some ⟨b2, o2, none⟩) d.length vc) s w.heap.size (w.heap.size + 1) (w.heap.size + 1 + 1) w2.heap.size (w2.heap.size + 1)) (fun k => A' k ∨ k = w3.heap.size ∨ k = w3.heap.size + 1) (pre ++ [(x1, (k : Int))]) V ∧ But (fun k => ¬ (A' k ∨ k = w3.heap.size ∨ k = w3.heap.size + 1)) V V) := by
        refine ⟨⟨hI.bel, fun j o hC => hI.has j o ?_, hI.low⟩, But.refl _ _⟩
        unfold CRun at hC ⊢
        rw [runL_snoc, show stepR d (runL d pre) (x1, (k : Int)) = runL d pre by unfold stepR; rw [if_pos (by rw [HAC.out]; exact ha)]] at hC
        exact hC
      clear hI bx bf bw nf nw
      gi_wp2
      have HE' := HE.out
      simp only [not_or] at HE'
      exact HE'
    · have d1 : (ac != -1) = true := by simpa using ha
      have cf : V.cell? ⟨w.heap.size + 1, 0, none⟩ = some (.int .i64 (runL d pre).1) := by rw [Lib.cell_of_heap bf]; rfl
      have ff : V.frozen? ⟨w.heap.size + 1, 0, none⟩ = false := Lib.frozen_of_heap bf _
      have cw : V.cell? ⟨w.heap.size + 1 + 1, 0, none⟩ = some (.int .i64 (runL d pre).2) := by rw [Lib.cell_of_heap bw]; rfl
      have fw : V.frozen? ⟨w.heap.size + 1 + 1, 0, none⟩ = false := Lib.frozen_of_heap bw _
      have HE : Hid (XInv w (CRun d (.slice (some ⟨b2, o2, none⟩) d.length vc) s w.heap.size (w.heap.size + 1) (w.heap.size + 1 + 1) w2.heap.size (w2.heap.size + 1)) (fun k => A' k ∨ k = w3.heap.size ∨ k = w3.heap.size + 1) (pre ++ [(x1, (k : Int))]) ((V.setCell ⟨w.heap.size + 1, 0, none⟩ (.int .i64 x1)).setCell ⟨w.heap.size + 1 + 1, 0, none⟩ (.int .i64 ac)) ∧ But (fun k => ¬ (A' k ∨ k = w3.heap.size ∨ k = w3.heap.size + 1)) V ((V.setCell ⟨w.heap.size + 1, 0, none⟩ (.int .i64 x1)).setCell ⟨w.heap.size + 1 + 1, 0, none⟩ (.int .i64 ac))) := by
        have B1 : But (fun k => k = w.heap.size + 1 ∨ k = w.heap.size + 1 + 1) V (V.setCell ⟨w.heap.size + 1, 0, none⟩ (.int .i64 x1)) := (But.refl _ _).setCell _ _ (.inr (.inl rfl))
        have B : But (fun k => k = w.heap.size + 1 ∨ k = w.heap.size + 1 + 1) V ((V.setCell ⟨w.heap.size + 1, 0, none⟩ (.int .i64 x1)).setCell ⟨w.heap.size + 1 + 1, 0, none⟩ (.int .i64 ac)) := B1.setCell _ _ (.inr (.inr rfl))
        have z6 := HD2.out
        refine ⟨⟨hI.bel.trans (B.below hI.bel.size (fun k hk => by omega)), fun j o hC => ?_, fun j hj => ?_⟩, B.mono (fun j _ h h2 => h.elim (fun h => nf (by rw [← h]; exact h2)) (fun h => nw (by rw [← h]; exact h2)))⟩
        · unfold CRun at hC
          rw [runL_snoc, show stepR d (runL d pre) (x1, (k : Int)) = (x1, ac) by unfold stepR; rw [HAC.out, if_neg ha]] at hC
          rcases hC with ⟨rfl, rfl⟩ | ⟨rfl, rfl⟩ | ⟨rfl, rfl⟩ | ⟨rfl, rfl⟩ | ⟨rfl, rfl⟩
          · obtain ⟨e1, e2⟩ := hI.has _ _ (.inl ⟨rfl, rfl⟩)
            exact ⟨but_blk B e1 (fun e => by omega), e2⟩
          · obtain ⟨e1, e2⟩ := hI.has _ _ (.inr (.inl ⟨rfl, rfl⟩))
            exact ⟨but_blk B e1 (fun e => by omega), e2⟩
          · refine ⟨?_, nf⟩
            have h1 := blk_set (o := 0) bf (.int .i64 x1)
            exact set_blk (by simpa using h1) (by omega)
          · refine ⟨?_, nw⟩
            have h1 : (V.setCell ⟨w.heap.size + 1, 0, none⟩ (.int .i64 x1)).heap[w.heap.size + 1 + 1]? = _ := set_blk bw (by omega)
            have h2 := blk_set (o := 0) h1 (.int .i64 ac)
            simpa using h2
          · obtain ⟨e1, e2⟩ := hI.has _ _ (.inr (.inr (.inr (.inr ⟨rfl, rfl⟩))))
            exact ⟨but_blk B e1 (fun e => by omega), e2⟩
        · have := hI.low j hj
          have := B.size
          omega
      clear hI bx bf bw nf nw
      gi_wp2
      have HE' := HE.out
      simp only [not_or] at HE'
      exact HE'
  case done =>
    intro xs V hS hI hd
    obtain ⟨bf, _⟩ := hI.has _ _ (.inr (.inr (.inl ⟨rfl, rfl⟩)))
    obtain ⟨bw, _⟩ := hI.has _ _ (.inr (.inr (.inr (.inl ⟨rfl, rfl⟩))))
    have cf : V.cell? ⟨w.heap.size + 1, 0, none⟩ = some (.int .i64 (runL d xs).1) := by rw [Lib.cell_of_heap bf]; rfl
    have cw : V.cell? ⟨w.heap.size + 1 + 1, 0, none⟩ = some (.int .i64 (runL d xs).2) := by rw [Lib.cell_of_heap bw]; rfl
    have HV : Hid (runD d (bsZ s) = runL d xs) := by show _ = _; unfold runD; rw [← hS]
    have HI : Hid (Below w.heap.size w V.drew) := below_drewN hI.bel 1
    have HD : Hid (V.drew.heap[w3.heap.size]? = some (.deferred (some []))) := hd
    clear hI hS bf bw hd
    generalize runL d xs = p at *
    obtain ⟨p1, p2⟩ := p
    simp only at *
    gi_wp2
    have HS : V.drew.cell? ⟨w.heap.size + 1, 0, none⟩ = some (.int .i64 p1) ∧ V.drew.cell? ⟨w.heap.size + 1 + 1, 0, none⟩ = some (.int .i64 p2) := ⟨cf, cw⟩
    refine wpIn_wide.2 ?_
    refine wp_region_noPanic ?_
    refine wp_region_L (fun W => W.cell? ⟨w.heap.size + 1, 0, none⟩ = some (.int .i64 p1) ∧ W.cell? ⟨w.heap.size + 1 + 1, 0, none⟩ = some (.int .i64 p2)) 4 (by kernel_rfl) 4 rfl ?_
    refine wpAnyL_take' (i := 0) (v := ?_) (oi := { dst := some 26, op := Op.load 3 (Operand.tmp 6), type := 3, pos := "dfa.go:60", after := #[], guard := none }) rfl (by kernel_rfl) (by kernel_rfl) (by kernel_rfl) (by kernel_rfl) rfl (fun _ _ _ h => h) (Or.inl ⟨by rfl, ?_⟩) HS ?_
    rotate_left
    · intro W hSW
      go_simp
      try with_reducible rfl
    simp only [Act.put, List.setIfInBounds_toArray, List.set_cons_zero, List.set_cons_succ]
    refine wpAnyL_take' (i := 1) (v := ?_) (oi := { dst := some 27, op := Op.load 3 (Operand.tmp 7), type := 3, pos := "dfa.go:60", after := #[{ on := 2, ground := Ground.gcOnly Departure.lateStores }], guard := none }) rfl (by kernel_rfl) (by kernel_rfl) (by kernel_rfl) (by kernel_rfl) rfl (fun _ _ _ h => h) (Or.inl ⟨by rfl, ?_⟩) HS ?_
    rotate_left
    · intro W hSW
      go_simp
      try with_reducible rfl
    simp only [Act.put, List.setIfInBounds_toArray, List.set_cons_zero, List.set_cons_succ]
    refine wpAnyL_take' (i := 2) (v := ?_) (oi := { dst := some 4, op := Op.assign (Operand.tmp 26), type := 3, pos := "dfa.go:60", after := #[{ on := 0, ground := Ground.data }, { on := 0, ground := Ground.phase }, { on := 1, ground := Ground.textOnly Departure.lateStores }], guard := none }) rfl (by kernel_rfl) (by kernel_rfl) (by kernel_rfl) (by kernel_rfl) rfl (fun _ _ _ h => h) (Or.inl ⟨by rfl, ?_⟩) HS ?_
    rotate_left
    · intro W hSW
      go_simp
      try with_reducible rfl
    simp only [Act.put, List.setIfInBounds_toArray, List.set_cons_zero, List.set_cons_succ]
    refine wpAnyL_take' (i := 3) (v := ?_) (oi := { dst := some 5, op := Op.assign (Operand.tmp 27), type := 3, pos := "dfa.go:60", after := #[{ on := 1, ground := Ground.data }, { on := 2, ground := Ground.chain }, { on := 0, ground := Ground.phase }, { on := 1, ground := Ground.phase }, { on := 2, ground := Ground.phase }], guard := none }) rfl (by kernel_rfl) (by kernel_rfl) (by kernel_rfl) (by kernel_rfl) rfl (fun _ _ _ h => h) (Or.inl ⟨by rfl, ?_⟩) HS ?_
    rotate_left
    · intro W hSW
      go_simp
      try with_reducible rfl
    simp only [Act.put, List.setIfInBounds_toArray, List.set_cons_zero, List.set_cons_succ]
    refine wpAnyL_done (by kernel_rfl) ?_ _
    refine NoPanic.normal ?_
    clear HS
    gi_wp2
    exact leaves_marksC (Rw := fun W => Below w.heap.size w W) (v := .tuple #[.int .i64 p1, .int .i64 p2]) (fun W _ => (results_tmp2 (t := 4) (u := 5) rfl _ _ _).trans (by rfl)) (fun q => w.heap.size ≤ q) (fun W q h1 h2 h3 => h3.trans ((But.putObj W q (.deferred none)).below h3.size (fun k hk => by omega))) (fun W h => ⟨by rw [HV.out], h⟩) [w3.heap.size] _ ⟨by simp, fun q hq => by simp at hq; subst hq; exact HD.out⟩ (fun q hq => by simp at hq; subst hq; have := HW3.out.1; omega) HI.out
end Go.Proofs.Ytdalomibilicfaa
