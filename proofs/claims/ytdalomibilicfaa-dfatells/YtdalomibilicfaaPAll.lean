/- Things in the order in which they are met: all. -/
import Derived.Test.YtdalomibilicfaaRangeN
import Derived.Test.YtdalomibilicfaaPSettled
namespace Go.Proofs.Ytdalomibilicfaa
open Go.RowKit Go.Shelf
attribute [local go_sem] Oper.semAt_some

/-- A place, and the things as they are then. -/
abbrev Pl := Nat × List Int
def encPl (x : Pl) : Array Value := #[.int .i64 (x.2.getD x.1 0)]
def okPl (B o : Nat) (_ : Nat → Prop) (x : Pl) (W : World) : Prop := x.1 < x.2.length ∧ ∃ mb sv, OrdI B o mb sv x.2 W
def FxO (B o Bo : Nat) (V : World) : Prop := V.heap[Bo]? = some (Obj.cells #[.pointer (some ⟨o, 0, none⟩)] 99) ∧ ∃ mb sv L, OrdI B o mb sv L V ∧ L.length ≤ 1000000
def pfPl (xs : List Pl) : Prop := ∀ (i : Nat) x, xs[i]? = some x → x.1 = i
def allPl (B o : Nat) (xs : List Pl) (W : World) : Prop := pfPl xs ∧ ∃ mb sv L, OrdI B o mb sv L W ∧ L.length ≤ xs.length
theorem OrdI.loop {B o mb : Nat} {sv : Value} {L : List Int} {W W' : World} (h : OrdI B o mb sv L W) {k : Nat} {r : Loop} (hk : W.heap[k]? = some (.loop r)) (hb : But (fun j => j = k) W W') : OrdI B o mb sv L W' := by
  refine h.but hb (fun j hj e => ?_)
  subst e
  rcases hj with rfl | rfl | hj
  · rw [h.box] at hk; cases hk
  · obtain ⟨D, ⟨es, clock, h9, _⟩, _⟩ := h.map.own
    rw [h9] at hk; cases hk
  · obtain ⟨cs, hc⟩ := own_is_cells h.row hj
    rw [hc] at hk; cases hk
theorem OrdI.one {B B' o mb mb' : Nat} {sv sv' : Value} {L L' : List Int} {W : World} (h : OrdI B o mb sv L W) (h' : OrdI B' o mb' sv' L' W) : L = L' ∧ mb = mb' ∧ sv = sv' := by
  have e := h.box
  rw [h'.box] at e
  simp at e
  obtain ⟨rfl, rfl⟩ := e
  refine ⟨?_, rfl, rfl⟩
  obtain ⟨ao, cap, h0, h1, _⟩ := (show Own1 3 encI B L sv' W from h.row).at_
  obtain ⟨ao', cap', h0', h1', _⟩ := (show Own1 3 encI B' L' sv' W from h'.row).at_
  rw [h0] at h0'
  simp at h0'
  obtain ⟨rfl, hl, rfl⟩ := h0'
  apply List.ext_getElem hl
  intro i hi hi'
  obtain ⟨b, off, e1, _, c1⟩ := h1 i _ (List.getElem?_eq_getElem hi)
  obtain ⟨b', off', e2, _, c2⟩ := h1' i _ (List.getElem?_eq_getElem hi')
  rw [e1] at e2
  simp at e2
  obtain ⟨rfl, rfl⟩ := e2
  rw [c1] at c2
  simpa [encI] using c2

set_option maxRecDepth 100000 in
set_option maxHeartbeats 800000 in
theorem all_any (o : Nat) (w : World) : Calls Try.prog 68 #[.pointer (some ⟨o, 0, none⟩)] w fun e w' => e = .returned (.func (.func 70) #[] #[.pointer (some ⟨w.heap.size, 0, none⟩)]) ∧ w' = w.alloc (Obj.cells #[.pointer (some ⟨o, 0, none⟩)] 99) := by
  go_enter Try.func68, Try.ntmps68
  go_wp2_with fail
  go_ret
  exact ⟨rfl, rfl⟩

set_option maxRecDepth 100000 in
set_option maxHeartbeats 1600000 in
theorem all_gives (n B o Bo : Nat) (N : Nat) (W : World) :
    GivesT n Try.prog 70 #[.pointer (some ⟨Bo, 0, none⟩)] encPl (allPl B o) (okPl B o) (fun xs => pfPl xs) (fun _ => False) (fun V => FxO B o Bo V ∧ ∀ mb sv L, OrdI B o mb sv L V → L.length ≤ N) W := by
  intro yl J St hF hJ
  show CallsIn Fence.wide n Try.prog 70 #[.func (.yield yl) #[] #[], .pointer (some ⟨Bo, 0, none⟩)] W _
  have HF : Hid (FeedsT (n - 1) Try.prog yl encPl (okPl B o) (fun xs => pfPl xs) (fun V => FxO B o Bo V ∧ ∀ mb sv L, OrdI B o mb sv L V → L.length ≤ N) J St) := hF
  have HJ : Hid (J (fun _ => False) [] W) := hJ
  clear hF hJ
  refine callsIn_of_wp Try.func70 rfl trivial ?_ rfl
  simp only [Try.ntmps70, List.size_toArray, List.length_cons, List.length_nil, Nat.reduceAdd, Nat.reduceSub, Array.replicate_succ, Array.replicate_zero, List.push_toArray, List.append_toArray, List.nil_append, List.cons_append]
  gi_wp2
  gi_loopw [3] (fun iv wr => ∃ (j : Nat) (xs : List Pl), iv = .int .i64 j ∧ j ≤ N ∧ Hid (xs.length = j ∧ pfPl xs ∧ J (fun _ => False) xs wr)) (fun i _ => N - (intOf i).toNat)
  case atStart => exact ⟨0, [], rfl, Nat.zero_le _, rfl, fun i x hx => (by simp at hx), HJ.out⟩
  case round =>
    obtain ⟨j, xs, rfl, hj, HX⟩ := hrel
    clear HJ
    obtain ⟨⟨f1, mb, sv, L, hO, hL⟩, f2⟩ := HF.out.fx _ _ _ HX.out.2.2
    have hLN := f2 _ _ _ hO
    obtain ⟨sa, sc, rfl⟩ := slice_of_ownK hO.row
    have c0 : wr.cell? ⟨Bo, 0, none⟩ = some (.pointer (some ⟨o, 0, none⟩)) := by rw [Lib.cell_of_heap f1]; rfl
    have c1 : wr.cell? ⟨o, 1, none⟩ = some (.slice sa L.length sc) := by rw [Lib.cell_of_heap hO.box]; rfl
    clear f1 f2
    by_cases hlt : j < L.length
    case neg =>
      have d0 : decide ((j : Int) < L.length) = false := decide_eq_false (by omega)
      have HE : Hid (∃ xs, allPl B o xs wr ∧ J (fun _ => False) xs wr) := ⟨xs, ⟨HX.out.2.1, mb, _, L, hO, by rw [HX.out.1]; omega⟩, HX.out.2.2⟩
      clear HX HF hO
      gi_wp2
      go_end0
      exact ⟨⟨_, rfl⟩, .inl HE.out⟩
    have d0 : decide ((j : Int) < L.length) = true := decide_eq_true (by omega)
    obtain ⟨ao, cap, h0, h1, _⟩ := (show Own1 3 encI B L (.slice sa L.length sc) wr from hO.row).at_
    simp at h0
    obtain ⟨rfl, rfl⟩ := h0
    obtain ⟨b, off, rfl, hb, cj⟩ := h1.at (Below.refl _ _) hlt
    have HPF : Hid (pfPl (xs ++ [(j, L)]) ∧ (xs ++ [(j, L)]).length = j + 1) := by
      refine ⟨fun i x hx => ?_, by simp [HX.out.1]⟩
      by_cases hi : i < xs.length
      · rw [List.getElem?_append_left hi] at hx
        exact HX.out.2.1 i x hx
      · rw [List.getElem?_append_right (by omega)] at hx
        have h9 := (List.getElem?_eq_some_iff.1 hx).1
        simp at h9
        have h8 := HX.out.1
        have : i - xs.length = 0 := by omega
        rw [this] at hx
        simp at hx
        subst hx
        show j = i
        omega
    obtain ⟨fn, tmps, assign, body, hyl, hR⟩ := yield_any (m' := n - 1) (HF.out.yield (fun _ => False) xs (j, L) _ HX.out.2.2 ⟨hlt, mb, _, hO⟩ HPF.out.1)
    have hen : encPl (j, L) = #[.int .i64 L[j]] := by unfold encPl; simp [List.getD, List.getElem?_eq_getElem hlt]
    rw [hen] at hyl
    have cj2 : wr.cell? ⟨b, off + j, none⟩ = some (.int .i64 L[j]) := cj
    generalize L[j] = q at *
    clear HX hO h1 cj hen
    gi_wp2
    refine ⟨fun h => (by cases h), hR.mono ?_⟩
    rintro e W3 (⟨rfl, hJ3, _⟩ | ⟨rfl, hSt, _⟩)
    case inr =>
      have HE : Hid (St (fun _ => False) W3) := hSt
      clear hR hyl hSt HF HPF
      gi_wp2
      refine bodyPost_ret (results_none rfl _ _ _) rfl ?_
      exact ⟨⟨_, rfl⟩, .inr HE.out⟩
    have HE : Hid ((xs ++ [(j, L)]).length = j + 1 ∧ pfPl (xs ++ [(j, L)]) ∧ J (fun _ => False) (xs ++ [(j, L)]) W3) := ⟨HPF.out.2, HPF.out.1, hJ3⟩
    clear hR hyl hJ3 HF HPF
    gi_wp2
    go_roundw
    case rel => exact ⟨j + 1, _, by go_num, by omega, HE⟩
    case measure => simp [intOf]; omega
end Go.Proofs.Ytdalomibilicfaa
