/- Texts joined: PBackR, PApart0. -/
import Derived.Test.YtdalomibilicfaaJPClone
import Derived.Laws.IdiomStrings
/- slices.Backward of rows; classOf. -/
namespace Go.Proofs.Ytdalomibilicfaa
open Go.RowKit Go.Shelf
attribute [local go_sem] Oper.semAt_some

/-- What is handed out, the last one first. -/
def bkT (VV : List Value) : Nat → List (Nat × Value)
  | 0 => []
  | k + 1 => (k, VV[k]?.getD undef) :: bkT VV k
def encBk (x : Nat × Value) : Array Value := #[.int .i64 x.1, x.2]
def FxB (w : World) (v : Value) (Bx : Nat) (V : World) : Prop := Below w.heap.size w V ∧ V.heap[Bx]? = some (Obj.cells #[v] 53)
def VAt (VV : List Value) (ao : Option Addr) (W : World) : Prop := ∀ (i : Nat) (u : Value), VV[i]? = some u → ∃ b off, ao = some ⟨b, off, none⟩ ∧ b < W.heap.size ∧ W.cell? ⟨b, off + i, none⟩ = some u
theorem VAt.next {VV : List Value} {ao : Option Addr} {W W' : World} (h : VAt VV ao W) (hb : Below W.heap.size W W') : VAt VV ao W' := fun i u hu => by
  obtain ⟨b, off, e, h1, h2⟩ := h i u hu
  exact ⟨b, off, e, Nat.lt_of_lt_of_le h1 hb.size, (hb.cell (p := ⟨b, off + i, none⟩) h1).trans h2⟩

set_option maxHeartbeats 400000 in
theorem backR_any (v : Value) (w : World) (hv : ∃ a n c, v = .slice a n c) :
    Calls Try.prog 48 #[v] w fun e w' => e = .returned (.func (.func 66) #[] #[.pointer (some ⟨w.heap.size, 0, none⟩)]) ∧ w' = w.alloc (.cells #[v] 53) := by
  obtain ⟨a, n, c, rfl⟩ := hv
  go_enter Try.func48, Try.ntmps48
  go_wp2
  go_ret
  exact ⟨rfl, rfl⟩

set_option maxRecDepth 100000 in
set_option maxHeartbeats 1600000 in
theorem backR_gives (n : Nat) (VV : List Value) (ao : Option Addr) (cap Bx : Nat) (w W : World) (hV : VAt VV ao w) (hl : VV.length ≤ 100000) :
    GivesT n Try.prog 66 #[.pointer (some ⟨Bx, 0, none⟩)] encBk (fun xs _ => xs = bkT VV VV.length) (fun _ _ _ => True) (fun xs => xs <+: bkT VV VV.length) (fun _ => False) (FxB w (.slice ao VV.length cap) Bx) W := by
  intro yl J St hF hJ
  show CallsIn Fence.wide n Try.prog 66 #[.func (.yield yl) #[] #[], .pointer (some ⟨Bx, 0, none⟩)] W _
  have HF : Hid (FeedsT (n - 1) Try.prog yl encBk (fun _ _ _ => True) (fun xs => xs <+: bkT VV VV.length) (FxB w (.slice ao VV.length cap) Bx) J St) := hF
  have HJ : Hid (J (fun _ => False) [] W) := hJ
  have cW : W.cell? ⟨Bx, 0, none⟩ = some (.slice ao VV.length cap) := by rw [Lib.cell_of_heap (hF.fx _ _ _ hJ).2]; rfl
  have hw0 : IntKind.i64.wrap ((VV.length : Int) - 1) = (VV.length : Int) - 1 := IntWalk.i64_in _ (by omega)
  clear hF hJ
  refine callsIn_of_wp Try.func66 rfl trivial ?_ rfl
  simp only [Try.ntmps66, List.size_toArray, List.length_cons, List.length_nil, Nat.reduceAdd, Nat.reduceSub, Array.replicate_succ, Array.replicate_zero, List.push_toArray, List.append_toArray, List.nil_append, List.cons_append]
  gi_wp2
  gi_loopw [3] (fun iv wr => ∃ (k : Nat) (xs : List (Nat × Value)), iv = .int .i64 ((k : Int) - 1) ∧ k ≤ VV.length ∧ Hid (bkT VV VV.length = xs ++ bkT VV k) ∧ Hid (J (fun _ => False) xs wr)) (fun i _ => (intOf i + 1).toNat)
  case atStart => exact ⟨VV.length, [], rfl, Nat.le_refl _, by show _ = _; simp, HJ⟩
  case round =>
    obtain ⟨k, xs, rfl, hk, HX, HJs⟩ := hrel
    clear HJ cW
    have fx := HF.out.fx _ _ _ HJs.out
    have cd : wr.cell? ⟨Bx, 0, none⟩ = some (.slice ao VV.length cap) := by rw [Lib.cell_of_heap fx.2]; rfl
    cases k with
    | zero =>
      have HE : Hid (xs = bkT VV VV.length ∧ J (fun _ => False) xs wr) := ⟨by rw [HX.out]; simp [bkT], HJs.out⟩
      clear HX HJs HF fx
      gi_wp2
      go_end0
      exact ⟨⟨_, rfl⟩, .inl ⟨xs, HE.out⟩⟩
    | succ i =>
      have hil : i < VV.length := by omega
      obtain ⟨b, off, rfl, hb, c0⟩ := (hV.next fx.1) i VV[i] (List.getElem?_eq_getElem hil)
      have hvi : VV[i]?.getD undef = VV[i] := by rw [List.getElem?_eq_getElem hil]; rfl
      have HPF : Hid ((xs ++ [(i, VV[i])]) <+: bkT VV VV.length) := by
        show _ <+: _
        rw [HX.out]
        exact ⟨bkT VV i, by simp [bkT, hvi]⟩
      have HX2 : Hid (bkT VV VV.length = (xs ++ [(i, VV[i])]) ++ bkT VV i) := by
        show _ = _
        rw [HX.out]
        simp [bkT, hvi]
      obtain ⟨fn, tmps, assign, body, hyl, hR⟩ := yield_any (m' := n - 1) (HF.out.yield (fun _ => False) xs (i, VV[i]) _ HJs.out trivial HPF.out)
      unfold encBk at hyl
      simp only at hyl
      have e1 : ((i + 1 : Nat) : Int) - 1 = (i : Int) := by omega
      rw [e1]
      clear HX HJs HPF fx e1 hvi
      generalize VV[i] = u at *
      gi_wp2
      refine ⟨fun h => (by cases h), hR.mono ?_⟩
      rintro e W3 (⟨rfl, hJ3, _⟩ | ⟨rfl, hSt, _⟩)
      case inr =>
        have HE : Hid (St (fun _ => False) W3) := hSt
        clear hR hyl hSt HX2 HF
        gi_wp2
        refine bodyPost_ret (results_none rfl _ _ _) rfl ?_
        exact ⟨⟨_, rfl⟩, .inr HE.out⟩
      have HJ3 : Hid (J (fun _ => False) (xs ++ [(i, u)]) W3) := hJ3
      have hw1 : IntKind.i64.wrap ((i : Int) - 1) = (i : Int) - 1 := IntWalk.i64_in _ (by omega)
      clear hR hyl hJ3 HF cd c0
      gi_wp2
      go_roundw
      case rel => exact ⟨i, xs ++ [(i, u)], rfl, by omega, HX2, HJ3⟩
      case measure => simp [intOf]

set_option maxRecDepth 100000 in
set_option maxHeartbeats 800000 in
theorem classOf_any (c : List Int) (v : Value) (a : Int) (w : World) (hc : SlI c v w) (ha : okS c.length a) :
    Calls Try.prog 49 #[v, .int .i64 a] w fun e w' => e = .returned (.int .i64 (clsOf c a)) ∧ w' = w := by
  unfold okS at ha
  obtain ⟨va, vc, rfl, hr, _⟩ := hc
  by_cases h : a = -1
  · subst h
    clear hr ha
    go_enter Try.func49, Try.ntmps49
    go_wp2_with fail
    go_ret
    exact ⟨rfl, rfl⟩
  · obtain ⟨k, rfl⟩ : ∃ k : Nat, a = k := ⟨a.toNat, by omega⟩
    have hk : k < c.length := by omega
    obtain ⟨b, off, rfl, _, hc⟩ := hr k c[k] (List.getElem?_eq_getElem hk)
    have HV : Hid (clsOf c (k : Int) = c[k]) := by
      show _ = _
      unfold clsOf
      rw [if_neg (by omega), Int.toNat_natCast, List.getElem?_eq_getElem hk]
      rfl
    unfold encI at hc
    have d1 : ((k : Int) == -1) = false := by simp
    clear hr ha
    generalize c[k] = q at *
    go_enter Try.func49, Try.ntmps49
    go_wp2_with fail
    go_ret
    exact ⟨by rw [HV.out]; rfl, rfl⟩
end Go.Proofs.Ytdalomibilicfaa
/- apart: what is kept between two rounds. -/
namespace Go.Proofs.Ytdalomibilicfaa
open Go.RowKit Go.Shelf

def encZ8 (z : Int) : Value := .int .u8 z
/-- Numbers as a text. -/
def strB (P : List Int) : ByteArray := ⟨(P.map fun z => UInt8.ofNat z.toNat).toArray⟩
theorem bsZ_str {P : List Int} (h : ∀ z ∈ P, 0 ≤ z ∧ z ≤ 255) : bsZ (strB P) = P := by
  unfold bsZ strB
  simp only [List.map_map, Function.comp_def]
  have : ∀ z ∈ P, ((UInt8.ofNat z.toNat).toNat : Int) = z := fun z hz => by
    have := h z hz
    simp
    omega
  conv => rhs; rw [← List.map_id P]
  exact List.map_congr_left this
theorem bkT_get (VV : List Value) : ∀ (n j : Nat), (bkT VV n)[j]? = if j < n then some (n - 1 - j, VV[n - 1 - j]?.getD undef) else none
  | 0, j => by simp [bkT]
  | n + 1, 0 => by simp [bkT]
  | n + 1, j + 1 => by
    rw [bkT, List.getElem?_cons_succ, bkT_get VV n j]
    have e : n - 1 - j = n + 1 - 1 - (j + 1) := by omega
    rw [e]
    by_cases h : j < n
    · rw [if_pos h, if_pos (by omega)]
    · rw [if_neg h, if_neg (by omega)]
theorem bkT_pre {VV : List Value} {pre : List (Nat × Value)} {x : Nat × Value} (h : (pre ++ [x]) <+: bkT VV VV.length) : pre.length < VV.length ∧ x.1 = VV.length - 1 - pre.length ∧ VV[x.1]? = some x.2 := by
  obtain ⟨r, hr⟩ := h
  have h1 := bkT_get VV VV.length pre.length
  rw [← hr] at h1
  simp only [List.append_assoc, List.getElem?_append_right (Nat.le_refl _), Nat.sub_self, List.singleton_append, List.getElem?_cons_zero] at h1
  by_cases hlt : pre.length < VV.length
  · rw [if_pos hlt] at h1
    simp at h1
    refine ⟨hlt, by rw [h1], ?_⟩
    rw [h1]
    simp only
    rw [List.getElem?_eq_getElem (by omega)]
    rfl
  · rw [if_neg hlt] at h1
    cases h1
theorem slr_vals {R : List (List Int)} {v : Value} {W : World} (h : SlR R v W) : ∃ (VV : List Value) (ao : Option Addr) (cap : Nat), v = .slice ao VV.length cap ∧ VV.length = R.length ∧ VAt VV ao W ∧ ∀ (i : Nat) (u : Value) (c : List Int), VV[i]? = some u → R[i]? = some c → SlI c u W := by
  obtain ⟨ao, cap, rfl, h1, _⟩ := h
  have key : ∀ i : Nat, ∃ v : Value, ∀ r, R[i]? = some r → ∃ b off, ao = some ⟨b, off, none⟩ ∧ b < W.heap.size ∧ W.cell? ⟨b, off + i, none⟩ = some v ∧ SlI r v W := by
    intro i
    cases hx : R[i]? with
    | none => exact ⟨undef, fun x hx' => (by cases hx')⟩
    | some x =>
      obtain ⟨b, off, v, e, c0, c1, c2⟩ := h1 i x hx
      exact ⟨v, fun y hy => by cases hy; exact ⟨b, off, e, c0, c1, c2⟩⟩
  obtain ⟨f, hf⟩ := Classical.axiomOfChoice key
  have hg : ∀ (i : Nat) (u : Value), ((List.range R.length).map f)[i]? = some u → i < R.length ∧ u = f i := by
    intro i u hu
    rw [List.getElem?_map] at hu
    by_cases hi : i < R.length
    · rw [List.getElem?_range hi] at hu
      simp at hu
      exact ⟨hi, hu.symm⟩
    · rw [List.getElem?_eq_none (by simp; omega)] at hu
      cases hu
  refine ⟨(List.range R.length).map f, ao, cap, by simp, by simp, fun i u hu => ?_, fun i u c hu hc => ?_⟩
  · obtain ⟨hi, rfl⟩ := hg i u hu
    obtain ⟨b, off, e, c0, c1, _⟩ := hf i _ (List.getElem?_eq_getElem hi)
    exact ⟨b, off, e, c0, c1⟩
  · obtain ⟨hi, rfl⟩ := hg i u hu
    obtain ⟨_, _, _, _, _, c2⟩ := hf i c hc
    exact c2
/-- What has been found after k rounds. -/
structure ApI (l : List Ds) (AH : List (List Int)) (s0 t0 : Int) (k : Nat) (s t : Int) (P : List Int) : Prop where
  eq : apartL l AH.reverse s0 t0 = P ++ apartL l (AH.reverse.drop k) s t
  okS : okS l.length s
  okT : Go.Proofs.Ytdalomibilicfaa.okS l.length t
  byte : ∀ z ∈ P, 0 ≤ z ∧ z ≤ 255
  len : P.length ≤ k
  kle : k ≤ AH.length
theorem ApI.same {l : List Ds} {AH : List (List Int)} {s0 t0 : Int} {k : Nat} {s t : Int} {P : List Int} (h : ApI l AH s0 t0 k s t P) {c : List Int} (hk : k < AH.length) (hc : AH[AH.length - 1 - k]? = some c) (hno : ∀ y : Nat, y < 256 → clsOf c (ledD l s y) = clsOf c (ledD l t y)) : ApI l AH s0 t0 (k + 1) s t P := by
  have hd : AH.reverse.drop k = c :: AH.reverse.drop (k + 1) := by
    rw [List.drop_eq_getElem_cons (by simp; omega)]
    congr 1
    have : AH.reverse[k]? = some c := by rw [List.getElem?_reverse hk]; exact hc
    rw [List.getElem?_eq_getElem (by simp; omega)] at this
    simpa using this
  refine ⟨?_, h.okS, h.okT, h.byte, by have := h.len; omega, by omega⟩
  rw [h.eq, hd, apartL]
  have : firstZ l c s t = none := by
    unfold firstZ
    rw [List.find?_eq_none]
    intro z hz
    have := hno z (by simpa using hz)
    simp [this]
  rw [this]
theorem ApI.found {l : List Ds} (hf : fitD l) {AH : List (List Int)} {s0 t0 : Int} {k : Nat} {s t : Int} {P : List Int} (h : ApI l AH s0 t0 k s t P) {c : List Int} (hk : k < AH.length) (hc : AH[AH.length - 1 - k]? = some c) {z : Nat} (hz : z < 256) (hno : ∀ y : Nat, y < z → clsOf c (ledD l s y) = clsOf c (ledD l t y)) (hne : clsOf c (ledD l s z) ≠ clsOf c (ledD l t z)) : ApI l AH s0 t0 (k + 1) (ledD l s z) (ledD l t z) (P ++ [(z : Int)]) := by
  have hd : AH.reverse.drop k = c :: AH.reverse.drop (k + 1) := by
    rw [List.drop_eq_getElem_cons (by simp; omega)]
    congr 1
    have : AH.reverse[k]? = some c := by rw [List.getElem?_reverse hk]; exact hc
    rw [List.getElem?_eq_getElem (by simp; omega)] at this
    simpa using this
  refine ⟨?_, led_ok hf h.okS _, led_ok hf h.okT _, fun y hy => ?_, by have := h.len; simp; omega, by omega⟩
  · rw [h.eq, hd, apartL]
    have : firstZ l c s t = some z := by
      obtain ⟨y, q1, q2, _, q4, q5⟩ := find_first (p := fun z : Nat => clsOf c (ledD l s z) != clsOf c (ledD l t z)) 256 0 ⟨z, by omega, by omega, by simpa using hne⟩
      have e : y = z := by
        rcases Nat.lt_trichotomy y z with h1 | h1 | h1
        · have := hno y h1; simp [this] at q2
        · exact h1
        · have := q5 z (by omega) h1
          simp at this
          exact absurd this hne
      unfold firstZ
      rw [List.range_eq_range', q1, e]
    rw [this]
    simp
  · rcases List.mem_append.1 hy with hy | hy
    · exact h.byte y hy
    · simp at hy; subst hy; omega
/-- Boxes, and the row of bytes. -/
structure XA (w : World) (l : List Ds) (AH : List (List Int)) (s0 t0 : Int) (lv v : Value) (lb ab bb sb Bx : Nat) (A : Nat → Prop) (pre : List (Nat × Value)) (V : World) : Prop where
  bel : Below w.heap.size w V
  low : ∀ k, A k → w.heap.size ≤ k ∧ k < V.heap.size
  nA : ¬ A lb ∧ ¬ A ab ∧ ¬ A bb ∧ ¬ A sb ∧ ¬ A Bx
  lbox : V.heap[lb]? = some (Obj.cells #[lv] 22)
  vbox : V.heap[Bx]? = some (Obj.cells #[v] 53)
  ex : ∃ s t P sv, ApI l AH s0 t0 pre.length s t P ∧ V.heap[ab]? = some (Obj.cells #[.int .i64 s] 3) ∧ V.heap[bb]? = some (Obj.cells #[.int .i64 t] 3) ∧ V.heap[sb]? = some (Obj.cells #[sv] 64) ∧ V.ownsRow w.heap.size 5 1 sv P.length (P.map encZ8) ∧ ∀ k, sv.ownBlock = some k → ¬ A k
theorem XA.keep (w : World) (l : List Ds) (AH : List (List Int)) (s0 t0 : Int) (lv v : Value) (lb ab bb sb Bx : Nat) : KeepJ (FxB w v Bx) (XA w l AH s0 t0 lv v lb ab bb sb Bx) (fun _ _ => False) := by
  refine ⟨?_, ?_, ?_, ?_, ?_, ?_⟩
  · intro A pre V V' h hb
    obtain ⟨n1, n2, n3, n4, n5⟩ := h.nA
    obtain ⟨s, t, P, sv, e0, e1, e2, e3, e4, e5⟩ := h.ex
    have l1 := blk_lt h.lbox
    have l2 := blk_lt h.vbox
    have l3 := blk_lt e1
    have l4 := blk_lt e2
    have l5 := blk_lt e3
    refine ⟨h.bel.trans (hb.below h.bel.size (fun k hk => (h.low k hk).1)), fun k hk => ?_, ⟨?_, ?_, ?_, ?_, ?_⟩, but_blk hb h.lbox n1, but_blk hb h.vbox n5, s, t, P, sv, e0, but_blk hb e1 n2, but_blk hb e2 n3, but_blk hb e3 n4, ownsRow_keep e4 hb e5, fun k hk hA => ?_⟩
    · have := h.bel.size
      have := hb.size
      rcases hk with hk | hk
      · have := h.low k hk; omega
      · omega
    · exact fun h => h.elim n1 (fun h => by omega)
    · exact fun h => h.elim n2 (fun h => by omega)
    · exact fun h => h.elim n3 (fun h => by omega)
    · exact fun h => h.elim n4 (fun h => by omega)
    · exact fun h => h.elim n5 (fun h => by omega)
    · have := (World.ownsRow.lt e4 k hk).2
      exact hA.elim (e5 k hk) (fun h => by omega)
  · intro A pre V k h hk
    exact (h.low k hk).2
  · intro A B pre V h hB
    obtain ⟨n1, n2, n3, n4, n5⟩ := h.nA
    obtain ⟨s, t, P, sv, e0, e1, e2, e3, e4, e5⟩ := h.ex
    exact ⟨h.bel, fun k hk => h.low k (hB _ hk), ⟨fun h => n1 (hB _ h), fun h => n2 (hB _ h), fun h => n3 (hB _ h), fun h => n4 (hB _ h), fun h => n5 (hB _ h)⟩, h.lbox, h.vbox, s, t, P, sv, e0, e1, e2, e3, e4, fun k hk h => e5 k hk (hB _ h)⟩
  · intro A pre V h
    exact ⟨h.bel, h.vbox⟩
  · intro A B V h
    exact h.elim
  · intro A V V' h
    exact h.elim
end Go.Proofs.Ytdalomibilicfaa
