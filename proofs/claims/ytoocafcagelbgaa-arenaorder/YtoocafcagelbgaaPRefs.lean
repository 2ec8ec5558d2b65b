/- fitRefs: how often each slot is referred to. -/
import Derived.Test.YtoocafcagelbgaaPFree
import Derived.Laws.MakeOwn
import Derived.Test.YtoocafcagelbgaaHeldTwo
namespace Go.Proofs.Ytoocafcagelbgaa
open Go.RowKit
attribute [local go_sem] Oper.semAt_some

theorem own_is_cells {W : World} {B n k : Nat} {e : TypeId} {v : Value} {xs : List Value} (h : W.ownsRow B e k v n xs) {j : Nat} (hj : v.ownBlock = some j) : ∃ cs, W.heap[j]? = some (Obj.cells cs e) := by
  rcases h.2 with ⟨rfl, _⟩ | ⟨g, cap, cur, rfl, _, hg, _⟩
  · cases hj
  · cases hj; exact ⟨_, hg⟩
/-- A row of n numbers of one's own. -/
structure RowF (B g n : Nat) (c : Nat → Int) (W : World) : Prop where
  own : W.ownsRow B 3 1 (.slice (some ⟨g, 0, none⟩) n n) n ((List.range n).map fun i => Value.int .i64 (c i))
theorem RowF.lt {B g n : Nat} {c : Nat → Int} {W : World} (h : RowF B g n c W) : B ≤ g ∧ g < W.heap.size := World.ownsRow.lt h.own g rfl
theorem RowF.but {B g n : Nat} {c : Nat → Int} {W W' : World} {D : Nat → Prop} (h : RowF B g n c W) (hb : But D W W') (hd : ¬ D g) : RowF B g n c W' := ⟨ownsRow_keep h.own hb (fun j hj => by cases hj; exact hd)⟩
theorem RowF.next {B g n : Nat} {c : Nat → Int} {W W' : World} (h : RowF B g n c W) (hb : Below W.heap.size W W') : RowF B g n c W' := h.but (D := fun _ => False) (But.of_next hb) (fun h => h)
theorem RowF.at {B g n : Nat} {c : Nat → Int} {W : World} (h : RowF B g n c W) {i : Nat} (hi : i < n) : W.cell? ⟨g, i, none⟩ = some (.int .i64 (c i)) := by
  have := World.ownsRow.cells h.own (g := g) rfl i (.int .i64 (c i)) (by simp [hi])
  rw [add_plain] at this
  simpa using this
theorem RowF.frozen {B g n : Nat} {c : Nat → Int} {W : World} (h : RowF B g n c W) (i : Nat) : W.frozen? ⟨g, i, none⟩ = false := by
  obtain ⟨cs, hcs⟩ := own_is_cells h.own (j := g) rfl
  exact Lib.frozen_of_heap hcs _
theorem range_set {n k : Nat} (f : Nat → Value) (v : Value) : ((List.range n).map f).set k v = (List.range n).map fun i => if i = k then v else f i := by
  refine List.ext_getElem (by simp) fun i h1 h2 => ?_
  rw [List.getElem_set]
  simp only [List.getElem_map, List.getElem_range]
  by_cases e : k = i
  · rw [if_pos e, if_pos e.symm]
  · rw [if_neg e, if_neg (fun h => e h.symm)]
theorem RowF.set {B g n : Nat} {c : Nat → Int} {W : World} (h : RowF B g n c W) (k : Nat) (x : Int) : RowF B g n (fun i => if i = k then x else c i) (W.setCell ⟨g, k, none⟩ (.int .i64 x)) := by
  have h1 := (World.ownsRow.stored h.own k (.int .i64 x)).1
  rw [range_set] at h1
  refine ⟨?_⟩
  have e : ((List.range n).map fun i => Value.int .i64 (if i = k then x else c i)) = (List.range n).map fun i => if i = k then Value.int .i64 x else Value.int .i64 (c i) := by
    refine List.map_congr_left fun i _ => ?_
    split <;> rfl
  rw [e]; exact h1
theorem RowF.same {B g n : Nat} {c d : Nat → Int} {W : World} (h : RowF B g n c W) (e : ∀ i, i < n → c i = d i) : RowF B g n d W := ⟨by
  have : ((List.range n).map fun i => Value.int .i64 (d i)) = (List.range n).map fun i => Value.int .i64 (c i) := List.map_congr_left fun i hi => by rw [e i (by simpa using hi)]
  rw [this]; exact h.own⟩
theorem RowF.made {B g n : Nat} {W : World} (h : W.ownsRow B 3 1 (.slice (some ⟨g, 0, none⟩) n n) n (madeCells (Value.int .i64 0).cells (n * 1)).toList) : RowF B g n (fun _ => 0) W := ⟨by
  have h1 : (madeCells (Value.int .i64 0).cells (n * 1)).toList = List.replicate n (Value.int .i64 0) := by rw [Nat.mul_one]; exact toList_madeCells_one _ _
  have h2 : ((List.range n).map fun _ => Value.int .i64 0) = List.replicate n (Value.int .i64 0) := by
    rw [List.map_const']; simp
  rw [h2, ← h1]; exact h⟩

/- How often. -/
def cntS (l : List Sl) (i : Nat) : Nat := (l.map fun s => s.kids.count (i : Int)).sum
def cntR (l : List Sl) (roots : List Int) (i : Nat) : Nat := cntS l i + roots.count (i : Int)
theorem cntS_take {l : List Sl} {j : Nat} (h : j < l.length) (i : Nat) : cntS (l.take (j + 1)) i = cntS (l.take j) i + l[j].kids.count (i : Int) := by
  unfold cntS
  rw [List.take_succ_eq_append_getElem h, List.map_append, List.sum_append]
  simp
theorem count_take {xs : List Int} {j : Nat} (h : j < xs.length) (i : Int) : (xs.take (j + 1)).count i = (xs.take j).count i + if xs[j] = i then 1 else 0 := by
  rw [List.take_succ_eq_append_getElem h, List.count_append]
  congr 1
  simp [List.count_cons]
theorem cntS_le (l : List Sl) (M : Nat) (h : ∀ s ∈ l, s.kids.length ≤ M) (i : Nat) : cntS l i ≤ l.length * M := by
  induction l with
  | nil => simp [cntS]
  | cons s l ih =>
    have h1 := ih (fun s hs => h s (by simp [hs]))
    have h2 := h s (by simp)
    have h3 : s.kids.count (i : Int) ≤ s.kids.length := List.count_le_length
    unfold cntS at h1 ⊢
    rw [List.map_cons, List.sum_cons, List.length_cons, Nat.succ_mul]
    omega
def refsB (l : List Sl) (roots : List Int) : Bool := (List.range l.length).all fun i => decide (((l.getD i ⟨.mk ⟨⟨#[]⟩, false, ⟨#[]⟩, 0, 0, 0⟩ [], [], 0, 0⟩).refs) = (cntR l roots i : Int))
theorem refsB_iff (l : List Sl) (roots : List Int) : refsB l roots = true ↔ ∀ (i : Nat) s, l[i]? = some s → s.refs = (cntR l roots i : Int) := by
  unfold refsB
  rw [List.all_eq_true]
  constructor
  · intro h i s hs
    have hi := (List.getElem?_eq_some_iff.1 hs).1
    have := h i (by simpa using hi)
    rw [List.getD_eq_getElem?_getD, hs] at this
    simpa using this
  · intro h i hi
    have hi : i < l.length := by simpa using hi
    rw [List.getD_eq_getElem?_getD, List.getElem?_eq_getElem hi]
    simpa using h i _ (List.getElem?_eq_getElem hi)
theorem refsB_not {l : List Sl} {roots : List Int} {i : Nat} {s : Sl} (hs : l[i]? = some s) (h : s.refs ≠ (cntR l roots i : Int)) : refsB l roots = false := by
  rw [Bool.eq_false_iff]
  intro hb
  exact h ((refsB_iff _ _).1 hb i s hs)
theorem bump_eq (x : Int) (hx : 0 ≤ x) (h : x < 1000000000000000) : IntKind.i64.wrap (x + 1) = x + 1 := IntWalk.i64_in _ (by omega)

set_option maxRecDepth 100000 in
set_option maxHeartbeats 6400000 in
theorem fitRefs_any (a : Ar) (v : Value) (w : World) (h : ArV a v w) (hlen : a.slots.length ≤ 4096) (hkl : ∀ s ∈ a.slots, s.kids.length ≤ 1000000) (hrl2 : a.roots.length ≤ 1000000) (hka : ∀ s ∈ a.slots, areB a.slots.length s.kids = true) (hra : rootsB a.slots.length a.roots = true) :
    Calls Try.prog 59 #[v] w fun e w' => e = .returned (.bool (refsB a.slots a.roots)) ∧ Below w.heap.size w w' := by
  obtain ⟨ii, hii, hz0, hz1, hz2⟩ := info_parts info3
  obtain ⟨sv, rv, rfl, ⟨ao, cap, rfl, hs, _, _, hlb⟩, hr, hfi, hrl⟩ := h
  have HR : Hid (∀ W, Below w.heap.size w W → SlI a.roots rv W) := fun W hb => hr.next hb
  obtain ⟨ra, rc, rfl, _⟩ := hr
  generalize a.slots = l at *
  generalize a.roots = roots at *
  generalize a.free = fr at *
  have HKA : Hid (∀ s ∈ l, areB l.length s.kids = true ∧ s.kids.length ≤ 1000000) := fun s h => ⟨hka s h, hkl s h⟩
  have HRA : Hid (∀ p ∈ roots, rootB l.length p = true) := List.all_eq_true.1 hra
  have hCS : ∀ j i, cntS (l.take j) i ≤ 4096 * 1000000 := fun j i => by
    refine Nat.le_trans (cntS_le _ 1000000 (fun s hs => hkl s (List.mem_of_mem_take hs)) i) (Nat.mul_le_mul_right _ ?_)
    rw [List.length_take]; omega
  have HCS : Hid (∀ j i, cntS (l.take j) i ≤ 4096 * 1000000) := hCS
  obtain ⟨n, HN⟩ : ∃ n, Hid (l.length = n) := ⟨_, rfl⟩
  obtain ⟨rn, HRN⟩ : ∃ rn, Hid (roots.length = rn) := ⟨_, rfl⟩
  rw [HN.out] at hlb hlen ⊢
  rw [HRN.out] at hrl hrl2 HR ⊢
  have B0 : Below w.heap.size w (w.alloc (Obj.cells #[.slice ao n cap, .int .i64 fr, .slice ra rn rc] 25)) := (Below.refl _ _).alloc (Nat.le_refl _) _
  have b0 : ArBox w.heap.size ao n cap fr (.slice ra rn rc) (w.alloc (Obj.cells #[.slice ao n cap, .int .i64 fr, .slice ra rn rc] 25)) := ⟨by simp, by simp, by simp⟩
  have HS : Hid (∀ W, Below w.heap.size w W → SlotsAt l ao W) := fun W hb => hs.next hb
  clear hs hka hkl hra hCS
  go_enter Try.func59, Try.ntmps59
  go_upto_region 1 with fail
  generalize w.alloc (Obj.cells #[.slice ao n cap, .int .i64 fr, .slice ra rn rc] 25) = w0 at *
  obtain ⟨wm, hm1, hm2, hm3⟩ := run_makeSlice_full (P := Try.prog) w0 w0.heap.size 23 3 ii _ 1 Try.underlying23 hii hz0 hz1 .i64 .i64 n (by omega) (by rw [hz2]; omega) (by unfold maxLen; omega) (Nat.le_refl _)
  have HM : Hid (RowF w0.heap.size w0.heap.size n (fun _ => 0) wm) := RowF.made hm2
  have BM : Below w0.heap.size w0 wm := ((But.refl (fun _ => False) w0).grown hm3 (fun r h => by cases h)).below (Nat.le_refl _) (fun _ h => h.elim)
  obtain ⟨c0, c1, c2⟩ := b0
  obtain ⟨g, hg⟩ : ∃ g, w0.heap.size = g := ⟨_, rfl⟩
  have HG : Hid (w0.heap.size = g) := hg
  have HB0 : Hid (Below w.heap.size w w0) := B0
  have HBX : Hid (∀ W, Below w0.heap.size w0 W → ArBox w.heap.size ao n cap fr (.slice ra rn rc) W) := fun W hb => ArBox.next ⟨c0, c1, c2⟩ hb
  obtain ⟨d0, d1, d2⟩ := HBX.out wm BM
  rw [hg] at hm1 HM BM
  have HB1 : Hid (Below g w0 wm) := BM
  clear hg hm2 hm3 B0 BM
  go_wp2_with fail
  go_loopw [19] (fun iv wr => ∃ (i : Nat), iv = .int .i64 i ∧ i ≤ n ∧ Hid (RowF g g n (fun k => (cntS (l.take i) k : Int)) wr ∧ Below g w0 wr)) (fun i _ => n - (intOf i).toNat)
  case atStart => exact ⟨0, rfl, Nat.zero_le _, HM.out.same (fun i _ => by simp [cntS]), HB1.out⟩
  case round =>
  obtain ⟨i, rfl, hi, HF⟩ := hrel
  have hgw : g = w0.heap.size := HG.out.symm
  obtain ⟨d0, d1, d2⟩ := HBX.out wr (by rw [← hgw] ; exact HF.out.2)
  clear hgw
  by_cases hlt : i < n
  · have hlt2 : i < l.length := by rw [HN.out]; exact hlt
    have HBW : Hid (Below w.heap.size w wr) := below_next HB0.out (by rw [HG.out]; exact HF.out.2)
    obtain ⟨b, off, ka, kc, gv, rfl, hb, hrow0, _, hks, _⟩ := (HS.out w (Below.refl _ _)).at (Below.refl _ _) hlt2
    have hrow := hrow0.next HBW.out hb
    clear hrow0 hb
    have hk0 := HKA.out l[i] (List.getElem_mem hlt2)
    have HT : Hid (∀ k, cntS (l.take (i + 1)) k = cntS (l.take i) k + l[i].kids.count (k : Int)) := cntS_take hlt2
    generalize l[i] = s at *
    have HKS : Hid (∀ W, Below w.heap.size w W → SlI s.kids gv W) := fun W hb => hks.next hb
    obtain ⟨ga, gc, rfl, _⟩ := hks
    obtain ⟨⟨⟨nk, nn, nf, nr, nt, nb⟩, nks⟩, ks, rf, nx⟩ := s
    obtain ⟨⟨e0, e1, e2, e3, e4, e5, e6⟩, e7, e8, e9⟩ := hrow
    simp only [Nd.h, Nd.kids] at e0 e1 e2 e3 e4 e5 e6 e7 e8 e9 HT hk0 HKS
    obtain ⟨hka, hkl⟩ := hk0
    have HKI : Hid (∀ p ∈ ks, isSl n p = true) := by rw [HN.out] at hka; exact List.all_eq_true.1 hka
    have HBX1 : Hid (Below wr.heap.size wr (wr.alloc (Obj.cells #[.string nk, .bool nn, .string nf, .int .i64 nr, .int .i64 nt, .int .i64 nb, .slice ka nks.length kc, .slice ga ks.length gc, .int .i64 rf, .int .i64 nx] 60))) := (Below.refl _ _).alloc (Nat.le_refl _) _
    obtain ⟨kn, HKN⟩ : ∃ kn, Hid (ks.length = kn) := ⟨_, rfl⟩
    rw [HKN.out] at e7 hkl HBX1
    clear hka
    go_wp2_with fail
    generalize wr.alloc (Obj.cells #[.string nk, .bool nn, .string nf, .int .i64 nr, .int .i64 nt, .int .i64 nb, .slice ka nks.length kc, .slice ga kn gc, .int .i64 rf, .int .i64 nx] 60) = wx at *
    have HFX : Hid (RowF g g n (fun k => (cntS (l.take i) k : Int)) wx ∧ Below g w0 wx) := ⟨HF.out.1.next HBX1.out, HF.out.2.trans (HBX1.out.mono (by have := HF.out.1.lt; omega))⟩
    go_loopw [26] (fun jv wq => ∃ (j : Nat), jv = .int .i64 j ∧ j ≤ kn ∧ Hid (RowF g g n (fun k => (cntS (l.take i) k : Int) + ((ks.take j).count (k : Int) : Int)) wq ∧ But (fun k => k = g) wx wq)) (fun j _ => kn - (intOf j).toNat)
    case atStart => exact ⟨0, rfl, Nat.zero_le _, HFX.out.1.same (fun i _ => by simp), But.refl _ _⟩
    case round =>
    obtain ⟨j, rfl, hj, HQ⟩ := hrel
    have HRW : Hid (RowF g g n (fun k => (cntS (l.take i) k : Int) + ((ks.take j).count (k : Int) : Int)) wr) := HQ.out.1
    have HQB : Hid (But (fun k => k = g) wx wr) := HQ.out.2
    have HBQ : Hid (Below g w0 wr) := HFX.out.2.trans (HQB.out.below (by have := HFX.out.1.lt; omega) (fun k hk => by omega))
    have HBQ2 : Hid (Below w.heap.size w wr) := below_next HB0.out (by rw [HG.out]; exact HBQ.out)
    obtain ⟨_, _, e0', hkr, _⟩ := HKS.out wr HBQ2.out
    cases e0'
    by_cases hjl : j < kn
    · have hjl2 : j < ks.length := by rw [HKN.out]; exact hjl
      obtain ⟨b3, o3, rfl, hb3, p3⟩ := hkr.at (Below.refl _ _) hjl2
      have hsl := HKI.out ks[j] (List.getElem_mem hjl2)
      have HCT : Hid (∀ k : Nat, (ks.take (j + 1)).count (k : Int) = (ks.take j).count (k : Int) + if ks[j] = (k : Int) then 1 else 0) := fun k => count_take hjl2 _
      simp only [encI] at p3
      generalize ks[j] = y at *
      obtain ⟨y, rfl, hy⟩ := isSl_in hsl
      have g0 := HRW.out.at hy
      have f0 := HRW.out.frozen y
      have hc1 := HCS.out i y
      have hc2 : (ks.take j).count (y : Int) ≤ 1000000 := Nat.le_trans List.count_le_length (by rw [List.length_take]; omega)
      obtain ⟨x, hx⟩ : ∃ x : Int, (cntS (l.take i) y : Int) + ((ks.take j).count (y : Int) : Int) = x := ⟨_, rfl⟩
      have hx1 : IntKind.i64.wrap (x + 1) = x + 1 := bump_eq x (by omega) (by omega)
      have HX : Hid (RowF g g n (fun k => (cntS (l.take i) k : Int) + ((ks.take (j + 1)).count (k : Int) : Int)) (wr.setCell ⟨g, y, none⟩ (.int .i64 (x + 1)))) := by
        refine (HRW.out.set y (x + 1)).same (fun k hk => ?_)
        show (if k = y then x + 1 else _) = _
        rw [HCT.out k]
        by_cases e : k = y
        · subst e; rw [if_pos rfl, if_pos rfl]; omega
        · rw [if_neg e, if_neg (by omega)]; omega
      have HXB : Hid (But (fun k => k = g) wx (wr.setCell ⟨g, y, none⟩ (.int .i64 (x + 1)))) := HQB.out.setCell _ _ (.inr rfl)
      rw [hx] at g0
      clear HCT HQ HRW hkr hsl hc1 hc2 hx
      go_wp2_with fail
      exact ⟨⟨j + 1, by go_num, by omega, HX.out, HXB.out⟩, by simp [intOf]; omega⟩
    · obtain rfl : j = kn := by omega
      have HX : Hid (RowF g g n (fun k => (cntS (l.take (i + 1)) k : Int)) wr) := by
        refine HRW.out.same (fun k hk => ?_)
        have e : ks.take j = ks := List.take_of_length_le (by rw [HKN.out]; omega)
        rw [HT.out k, e]; omega
      clear HQ HRW hkr
      go_wp2_with fail
      exact ⟨⟨i + 1, by go_num, by omega, HX.out, HBQ.out⟩, by simp [intOf]; omega⟩
  · obtain rfl : i = n := by omega
    have HF2 : Hid (RowF g g i (fun k => (cntS l k : Int)) wr ∧ Below g w0 wr) := by rw [← HN.out, List.take_length] at HF; rw [← HN.out]; exact HF
    clear HF
    have HRW0 : Hid (RowF g g i (fun k => (cntS l k : Int)) wr) := HF2.out.1
    have HBW0 : Hid (Below g w0 wr) := HF2.out.2
    have HCL : Hid (∀ k, cntS l k ≤ 4096 * 1000000) := fun k => by
      have := HCS.out l.length k
      rwa [List.take_length] at this
    clear HF2 HCS
    go_wp2_with fail
    go_loopw [41] (fun jv wq => ∃ (j : Nat), jv = .int .i64 j ∧ j ≤ rn ∧ Hid (RowF g g i (fun k => (cntS l k : Int) + ((roots.take j).count (k : Int) : Int)) wq ∧ Below g w0 wq)) (fun j _ => rn - (intOf j).toNat)
    case atStart => exact ⟨0, rfl, Nat.zero_le _, HRW0.out.same (fun i _ => by simp), HBW0.out⟩
    case round =>
    obtain ⟨j, rfl, hj, HQ⟩ := hrel
    have HRW : Hid (RowF g g i (fun k => (cntS l k : Int) + ((roots.take j).count (k : Int) : Int)) wr) := HQ.out.1
    have HBQ : Hid (Below g w0 wr) := HQ.out.2
    have HBQ2 : Hid (Below w.heap.size w wr) := below_next HB0.out (by rw [HG.out]; exact HBQ.out)
    obtain ⟨_, _, e0', hkr, _⟩ := HR.out wr HBQ2.out
    simp only [Value.slice.injEq] at e0'
    obtain ⟨rfl, -, rfl⟩ := e0'
    obtain ⟨d0, d1, d2⟩ := HBX.out wr (by rw [HG.out]; exact HBQ.out)
    clear HQ
    by_cases hjl : j < rn
    · have hjl2 : j < roots.length := by rw [HRN.out]; exact hjl
      obtain ⟨b3, o3, rfl, hb3, p3⟩ := hkr.at (Below.refl _ _) hjl2
      have hrb := HRA.out roots[j] (List.getElem_mem hjl2)
      have HCT : Hid (∀ k : Nat, (roots.take (j + 1)).count (k : Int) = (roots.take j).count (k : Int) + if roots[j] = (k : Int) then 1 else 0) := fun k => count_take hjl2 _
      simp only [encI] at p3
      generalize roots[j] = y at *
      by_cases hy1 : y = -1
      · subst hy1
        have d5 : ((-1 : Int) != -1) = false := rfl
        have HX : Hid (RowF g g i (fun k => (cntS l k : Int) + ((roots.take (j + 1)).count (k : Int) : Int)) wr) := HRW.out.same (fun k hk => by
          rw [HCT.out k, if_neg (by omega)]; omega)
        clear HCT HRW hkr hrb
        go_wp2_with fail
        exact ⟨⟨j + 1, by go_num, by omega, HX.out, HBQ.out⟩, by simp [intOf]; omega⟩
      · have d5 : (y != -1) = true := by simpa using hy1
        obtain ⟨y, rfl, hy⟩ := isSl_in (show isSl l.length y = true by unfold rootB at hrb; simpa [hy1] using hrb)
        rw [HN.out] at hy
        have g0 := HRW.out.at hy
        have f0 := HRW.out.frozen y
        have hc1 := HCL.out y
        have hc2 : (roots.take j).count (y : Int) ≤ 1000000 := Nat.le_trans List.count_le_length (by rw [List.length_take, HRN.out]; omega)
        obtain ⟨x, hx⟩ : ∃ x : Int, (cntS l y : Int) + ((roots.take j).count (y : Int) : Int) = x := ⟨_, rfl⟩
        have hx1 : IntKind.i64.wrap (x + 1) = x + 1 := bump_eq x (by omega) (by omega)
        have HX : Hid (RowF g g i (fun k => (cntS l k : Int) + ((roots.take (j + 1)).count (k : Int) : Int)) (wr.setCell ⟨g, y, none⟩ (.int .i64 (x + 1)))) := by
          refine (HRW.out.set y (x + 1)).same (fun k hk => ?_)
          show (if k = y then x + 1 else _) = _
          rw [HCT.out k]
          by_cases e : k = y
          · subst e; rw [if_pos rfl, if_pos rfl]; omega
          · rw [if_neg e, if_neg (by omega)]; omega
        have HXB : Hid (Below g w0 (wr.setCell ⟨g, y, none⟩ (.int .i64 (x + 1)))) := HBQ.out.trans (((But.refl (fun k => k = g) wr).setCell _ _ (.inr rfl)).below (by have := HRW.out.lt; omega) (fun k hk => by omega))
        rw [hx] at g0
        clear HCT HRW hkr hc1 hc2 hx hrb hy1
        go_wp2_with fail
        exact ⟨⟨j + 1, by go_num, by omega, HX.out, HXB.out⟩, by simp [intOf]; omega⟩
    · obtain rfl : j = rn := by omega
      have HX : Hid (RowF g g i (fun k => (cntR l roots k : Int)) wr) := by
        refine HRW.out.same (fun k hk => ?_)
        have e : roots.take j = roots := List.take_of_length_le (by rw [HRN.out]; omega)
        rw [e]; unfold cntR; omega
      have HBX0 : Hid (Below g w0 wr) := HBQ.out
      clear HRW hkr HRW0 HBW0 HBQ2
      go_wp2_with fail
      go_loopw [57] (fun qv wq => ∃ (q : Nat), qv = .int .i64 q ∧ q ≤ i ∧ Hid (RowF g g i (fun k => (cntR l roots k : Int)) wq ∧ Below g w0 wq ∧ ∀ (k : Nat) s, k < q → l[k]? = some s → s.refs = (cntR l roots k : Int))) (fun q _ => i - (intOf q).toNat)
      case atStart => exact ⟨0, rfl, Nat.zero_le _, HX.out, HBX0.out, fun k s h => by omega⟩
      case round =>
      obtain ⟨q, rfl, hq, HQ⟩ := hrel
      have HBQ2 : Hid (Below w.heap.size w wr) := below_next HB0.out (by rw [HG.out]; exact HQ.out.2.1)
      obtain ⟨d0, d1, d2⟩ := HBX.out wr (by rw [HG.out]; exact HQ.out.2.1)
      by_cases hql : q < i
      · have hql2 : q < l.length := by rw [HN.out]; exact hql
        obtain ⟨b, off, ka, kc, gv, rfl, hb, hrow, _, hks, _⟩ := (HS.out wr HBQ2.out).at (Below.refl _ _) hql2
        obtain ⟨ga, gc, rfl, _⟩ := hks
        have g0 := HQ.out.1.at hql
        have HSQ : Hid (l[q]? = some l[q]) := List.getElem?_eq_getElem hql2
        generalize l[q] = s at *
        have HAL : Hid (s.refs = (cntR l roots q : Int) → ∀ (k : Nat) s, k < q + 1 → l[k]? = some s → s.refs = (cntR l roots k : Int)) := fun h k s' hk hs' => by
          rcases Nat.lt_or_ge k q with hk2 | hk2
          · exact HQ.out.2.2 k s' hk2 hs'
          · obtain rfl : k = q := by omega
            rw [HSQ.out] at hs'
            cases hs'; exact h
        have HNT : Hid (s.refs ≠ (cntR l roots q : Int) → refsB l roots = false) := fun h => refsB_not HSQ.out h
        have HBX1 : Hid (∀ x y, Below wr.heap.size wr (wr.alloc (Obj.cells x y))) := fun x y => (Below.refl _ _).alloc (Nat.le_refl _) _
        have g1 : ∀ x y, (wr.alloc (Obj.cells x y)).cell? ⟨g, q, none⟩ = some (.int .i64 (cntR l roots q : Int)) := fun x y => ((HBX1.out x y).cell (p := ⟨g, q, none⟩) (HQ.out.1.lt.2)).trans g0
        have HN1 : Hid (∀ x y, RowF g g i (fun k => (cntR l roots k : Int)) (wr.alloc (Obj.cells x y)) ∧ Below g w0 (wr.alloc (Obj.cells x y))) := fun x y => ⟨HQ.out.1.next (HBX1.out x y), HQ.out.2.1.trans ((HBX1.out x y).mono (by have := HQ.out.1.lt; omega))⟩
        obtain ⟨⟨⟨nk, nn, nf, nr, nt, nb⟩, nks⟩, ks, rf, nx⟩ := s
        obtain ⟨⟨e0, e1, e2, e3, e4, e5, e6⟩, e7, e8, e9⟩ := hrow
        simp only [Nd.h, Nd.kids] at e0 e1 e2 e3 e4 e5 e6 e7 e8 e9 HAL HNT
        generalize (cntR l roots q : Int) = cq at *
        clear HQ HSQ g0
        by_cases hrq : rf = cq
        · have d7 : (rf != cq) = false := by simp [hrq]
          have HAL2 := HAL.out hrq
          have HA3 : Hid (∀ (k : Nat) s, k < q + 1 → l[k]? = some s → s.refs = (cntR l roots k : Int)) := HAL2
          clear HAL HNT HAL2
          go_wp2_with fail
          go_quiet (fail)
          go_wp2_with fail
          exact ⟨⟨q + 1, by go_num, by omega, (HN1.out _ _).1.next (below_drewN (Below.refl _ _) _), below_drewN (HN1.out _ _).2 _, HA3.out⟩, by simp [intOf]; omega⟩
        · have d7 : (rf != cq) = true := by simpa using hrq
          have HV : Hid (refsB l roots = false) := HNT.out hrq
          clear HAL HNT
          go_wp2_with fail
          go_quiet (fail)
          go_wp2_with fail
          go_ret
          exact ⟨by rw [HV.out]; rfl, below_next HBQ2.out (below_drewN (HBX1.out _ _) _)⟩
      · obtain rfl : q = i := by omega
        have HV : Hid (refsB l roots = true) := (refsB_iff _ _).2 fun k s hs => HQ.out.2.2 k s (by rw [← HN.out]; exact (List.getElem?_eq_some_iff.1 hs).1) hs
        clear HQ
        go_wp2_with fail
        go_ret
        exact ⟨by rw [HV.out]; rfl, HBQ2.out⟩
end Go.Proofs.Ytoocafcagelbgaa
