/- Fit of the document, and few. -/
import Derived.Test.YtckbfiigbckmeaaDoorFit
namespace Go.Proofs.YtckbfiigbckmeaaDoor
open Go.RowKit

def nameN (s : ByteArray) : Bool := decide (s.size = 0) || nameB s
def itemB (n : Int) (x : It) : Bool := decide (0 ≤ x.sym ∧ x.sym < n) && nameN x.fld && nameN x.als
def prodB (t n : Int) (p : Pr) : Bool := decide (t ≤ p.left ∧ p.left < n ∧ p.right.length ≤ 64 ∧ -10000 ≤ p.prec ∧ p.prec ≤ 10000) && p.right.all (itemB n)
def prodsB (t n : Int) : Int → List Pr → Bool
  | _, [] => true
  | prev, p :: ps => decide (prev ≤ p.left) && prodB t n p && prodsB t n p.left ps
def headB (f : Fl) : Bool := decide (f.nons.length ≠ 0 ∧ f.terms.length + f.nons.length ≤ 600 ∧ f.prods.length ≤ 400) && titlesB f.terms && titlesB f.nons
def fitB (f : Fl) : Bool := headB f && prodsB f.terms.length (f.terms.length + f.nons.length : Nat) f.terms.length f.prods

/-- The Left of the production ahead of place j; ahead of the first one the least that may be. -/
def prevL (f : Fl) (j : Nat) : Int := if h : 0 < j ∧ j ≤ f.prods.length then (f.prods[j - 1]'(by omega)).left else f.terms.length

set_option maxRecDepth 100000 in
set_option maxHeartbeats 3200000 in
theorem fit_any (f : Fl) (a : FlA) (w : World) (hf : FlAt f a w) :
    Calls Tryd.prog 23 #[a.val f] w fun e w' => e = .returned (.bool (fitB f)) ∧ Below w.heap.size w w' := by
  have hf0 := hf
  obtain ⟨ta, tc, na, nc, pa, pc⟩ := a
  obtain ⟨h0, h1, h2, h3, h4, h5, h6, h7⟩ := hf
  simp only at h0 h1 h2 h3 h4 h5 h6 h7
  have HF : Hid (fitB f = (headB f && prodsB f.terms.length (f.terms.length + f.nons.length : Nat) f.terms.length f.prods)) := rfl
  unfold FlA.val
  simp only
  by_cases g1 : f.nons.length = 0
  · have HZ : Hid (fitB f = false) := by show _ = _; rw [HF.out]; unfold headB; rw [decide_eq_false (by omega)]; rfl
    have g1' : ((f.nons.length : Int) == 0) = true := by simpa using g1
    clear h0 h1 h2 HF hf0
    go_enter Tryd.func23, Tryd.ntmps23
    go_wp2
    go_ret
    exact ⟨ret_bool HZ.out.symm, (Below.refl _ _).alloc (Nat.le_refl _) _⟩
  by_cases g2 : 600 < f.terms.length + f.nons.length
  · have HZ : Hid (fitB f = false) := by show _ = _; rw [HF.out]; unfold headB; rw [decide_eq_false (by omega)]; rfl
    have g1' : ((f.nons.length : Int) == 0) = false := by simpa using g1
    clear h0 h1 h2 HF hf0
    go_enter Tryd.func23, Tryd.ntmps23
    go_wp2
    go_ret
    exact ⟨ret_bool HZ.out.symm, (Below.refl _ _).alloc (Nat.le_refl _) _⟩
  have g1' : ((f.nons.length : Int) == 0) = false := by simpa using g1
  by_cases g3 : 400 < f.prods.length
  · have HZ : Hid (fitB f = false) := by show _ = _; rw [HF.out]; unfold headB; rw [decide_eq_false (by omega)]; rfl
    clear h0 h1 h2 HF hf0
    go_enter Tryd.func23, Tryd.ntmps23
    go_wp2
    go_ret
    exact ⟨ret_bool HZ.out.symm, (Below.refl _ _).alloc (Nat.le_refl _) _⟩
  have HT : Hid (∀ W, Below w.heap.size w W → Calls Tryd.prog 40 #[.slice ta f.terms.length tc] W fun e w' => e = .returned (.bool (titlesB f.terms)) ∧ w' = W) := fun W hb => titles_any f.terms ta tc W (h0.next hb) (by omega)
  have HN : Hid (∀ W, Below w.heap.size w W → Calls Tryd.prog 40 #[.slice na f.nons.length nc] W fun e w' => e = .returned (.bool (titlesB f.nons)) ∧ w' = W) := fun W hb => titles_any f.nons na nc W (h1.next hb) (by omega)
  have B0 : Below w.heap.size w (w.alloc (Obj.cells #[Value.slice ta f.terms.length tc, Value.slice na f.nons.length nc, Value.slice pa f.prods.length pc] 25)) := (Below.refl _ _).alloc (Nat.le_refl _) _
  have d0 : (w.alloc (Obj.cells #[Value.slice ta f.terms.length tc, Value.slice na f.nons.length nc, Value.slice pa f.prods.length pc] 25)).cell? ⟨w.heap.size, 0, none⟩ = some (Value.slice ta f.terms.length tc) := by simp
  have HD : Hid (headB f = (titlesB f.terms && titlesB f.nons)) := by show _ = _; unfold headB; rw [decide_eq_true (by omega), Bool.true_and]
  go_enter Tryd.func23, Tryd.ntmps23
  go_wp2_with fail
  refine (HT.out _ B0).mono ?_
  rintro e w1 ⟨rfl, rfl⟩
  cases ht : titlesB f.terms with
  | false =>
    have HZ : Hid (fitB f = false) := by show _ = _; rw [HF.out, HD.out, ht]; rfl
    clear ht h0 h1 h2 HF hf0 HT HN HD d0
    go_wp2_with fail
    go_ret
    exact ⟨ret_bool HZ.out.symm, B0⟩
  | true =>
  go_wp2_with fail
  refine (HN.out _ B0).mono ?_
  rintro e w1 ⟨rfl, rfl⟩
  cases hn : titlesB f.nons with
  | false =>
    have HZ : Hid (fitB f = false) := by show _ = _; rw [HF.out, HD.out, hn, Bool.and_false]; rfl
    clear hn ht h0 h1 h2 HF hf0 HT HN HD d0
    go_wp2_with fail
    go_ret
    exact ⟨ret_bool HZ.out.symm, B0⟩
  | true =>
  have HF2 : Hid (fitB f = prodsB f.terms.length (f.terms.length + f.nons.length : Nat) f.terms.length f.prods) := by show _ = _; rw [HF.out, HD.out, ht, hn]; rfl
  have X0 := FBox.new f ⟨ta, tc, na, nc, pa, pc⟩ 25 w
  unfold fobj at X0
  simp only at X0
  clear hn ht h0 h1 HF hf0 HT HN HD d0
  go_wp2_with fail
  generalize w.alloc (Obj.cells #[Value.slice ta f.terms.length tc, Value.slice na f.nons.length nc, Value.slice pa f.prods.length pc] 25) = w0 at *
  go_loopw [4] (fun i wr => ∃ (j : Nat), i = .int .i64 j ∧ j ≤ f.prods.length ∧ fitB f = prodsB f.terms.length (f.terms.length + f.nons.length : Nat) (prevL f j) (f.prods.drop j) ∧ FBox f ⟨ta, tc, na, nc, pa, pc⟩ w.heap.size wr ∧ Below w.heap.size w wr) (fun i _ => f.prods.length - (intOf i).toNat)
  case atStart => exact ⟨0, rfl, Nat.zero_le _, HF2.out, X0, B0⟩
  case round =>
    clear HF2 X0 B0
    obtain ⟨j, rfl, hj, hrel, X1, B1⟩ := hrel
    obtain ⟨x1, d0, d1, d2⟩ := id X1
    simp only at d0 d1 d2
    by_cases hlt : j < f.prods.length
    · obtain ⟨b, off, v, rfl, hb, c0, c1, c2, hv, hl, hp⟩ := h2.at B1 hlt
      obtain ⟨ra, rc, rfl, hI, _, hr1, hr2⟩ := hv
      rw [List.drop_eq_getElem_cons hlt, prodsB] at hrel
      have HR : Hid (fitB f = (decide (prevL f j ≤ f.prods[j].left) && prodB f.terms.length (f.terms.length + f.nons.length : Nat) f.prods[j] && prodsB f.terms.length (f.terms.length + f.nons.length : Nat) f.prods[j].left (f.prods.drop (j + 1)))) := hrel
      have HL : Hid (prevL f (j + 1) = f.prods[j].left) := by show _ = _; unfold prevL; rw [dif_pos (by omega : 0 < j + 1 ∧ j + 1 ≤ f.prods.length)]; rfl
      clear hrel
      have prv : ∃ q : Int, 0 < j → prevL f j = q ∧ wr.cell? ⟨b, off + (j - 1) * 3, none⟩ = some (.int .i64 q) := by
        refine ⟨prevL f j, fun h => ⟨rfl, ?_⟩⟩
        obtain ⟨b', off', v', e, _, q0, _⟩ := h2.at B1 (j := j - 1) (by omega)
        cases e
        unfold prevL
        rw [dif_pos (by omega : 0 < j ∧ j ≤ f.prods.length)]
        exact q0
      have HPV : Hid (j = 0 → prevL f j = f.terms.length) := by intro h; unfold prevL; rw [dif_neg (by omega)]
      generalize f.prods[j] = p at *
      obtain ⟨rest, hrest⟩ : ∃ rest, f.prods.drop (j + 1) = rest := ⟨_, rfl⟩
      have HRS : Hid (f.prods.drop (j + 1) = rest) := hrest
      rw [hrest] at HR
      clear hrest
      have HH : Hid (PrsAt f.prods (some ⟨b, off, none⟩) w) := h2
      have B2 : Below w.heap.size w (wr.alloc (Obj.cells #[Value.int IntKind.i64 p.left, Value.slice ra p.right.length rc, Value.int IntKind.i64 p.prec] 45)) := B1.alloc B1.size _
      have B3 : Below wr.heap.size wr (wr.alloc (Obj.cells #[Value.int IntKind.i64 p.left, Value.slice ra p.right.length rc, Value.int IntKind.i64 p.prec] 45)) := (Below.refl _ _).alloc (Nat.le_refl _) _
      have X2 := X1.next B3
      have HI2 : Hid (ItsAt p.right ra (wr.alloc (Obj.cells #[Value.int IntKind.i64 p.left, Value.slice ra p.right.length rc, Value.int IntKind.i64 p.prec] 45))) := hI.next B3
      obtain ⟨q, hq⟩ := prv
      have HQ : Hid (0 < j → prevL f j = q) := fun h => (hq h).1
      have HQ2 : Hid (0 < j → (wr.alloc (Obj.cells #[Value.int IntKind.i64 p.left, Value.slice ra p.right.length rc, Value.int IntKind.i64 p.prec] 45)).cell? ⟨b, off + (j - 1) * 3, none⟩ = some (.int .i64 q)) := fun h => (B3.cell (p := ⟨b, off + (j - 1) * 3, none⟩) hb).trans (hq h).2
      have E : (wr.alloc (Obj.cells #[Value.int IntKind.i64 p.left, Value.slice ra p.right.length rc, Value.int IntKind.i64 p.prec] 45)).cell? ⟨wr.heap.size, 0, none⟩ = some (.int .i64 p.left) ∧ (wr.alloc (Obj.cells #[Value.int IntKind.i64 p.left, Value.slice ra p.right.length rc, Value.int IntKind.i64 p.prec] 45)).cell? ⟨wr.heap.size, 1, none⟩ = some (.slice ra p.right.length rc) ∧ (wr.alloc (Obj.cells #[Value.int IntKind.i64 p.left, Value.slice ra p.right.length rc, Value.int IntKind.i64 p.prec] 45)).cell? ⟨wr.heap.size, 2, none⟩ = some (.int .i64 p.prec) ∧ wr.heap.size < (wr.alloc (Obj.cells #[Value.int IntKind.i64 p.left, Value.slice ra p.right.length rc, Value.int IntKind.i64 p.prec] 45)).heap.size := by refine ⟨?_, ?_, ?_, ?_⟩ <;> simp
      clear hI hq h2
      go_wp2_with fail
      generalize wr.alloc (Obj.cells #[Value.int IntKind.i64 p.left, Value.slice ra p.right.length rc, Value.int IntKind.i64 p.prec] 45) = W1 at *
      obtain ⟨e0, e1, e2, e3⟩ := E
      obtain ⟨x2, D0, D1, D2⟩ := id X2
      simp only at D0 D1 D2
      clear c0 c1 c2 d0 d1 d2 X1 x1 B3
      have HG : Hid (fitB f = (decide (prevL f j ≤ p.left) && (decide ((f.terms.length : Int) ≤ p.left ∧ p.left < (f.terms.length + f.nons.length : Nat) ∧ p.right.length ≤ 64 ∧ -10000 ≤ p.prec ∧ p.prec ≤ 10000) && p.right.all (itemB (f.terms.length + f.nons.length : Nat))) && prodsB f.terms.length (f.terms.length + f.nons.length : Nat) p.left rest)) := HR.out
      clear HR
      by_cases k1 : p.left < f.terms.length
      · have HZ : Hid (fitB f = false) := by show _ = _; rw [HG.out, decide_eq_false (p := _ ∧ _) (by omega)]; simp
        have k1' : decide (p.left < (f.terms.length : Int)) = true := decide_eq_true k1
        clear HG
        go_big_quiet (fail)
        go_wp2_with fail
        go_ret
        exact ⟨ret_bool HZ.out.symm, below_drewN B2 _⟩
      have k1' : decide (p.left < (f.terms.length : Int)) = false := decide_eq_false k1
      by_cases k2 : (f.terms.length + f.nons.length : Int) ≤ p.left
      · have HZ : Hid (fitB f = false) := by show _ = _; rw [HG.out, decide_eq_false (p := _ ∧ _) (by omega)]; simp
        have k2' : decide ((f.terms.length + f.nons.length : Int) ≤ p.left) = true := decide_eq_true (by omega)
        clear HG
        go_big_quiet (fail)
        go_wp2_with fail
        go_ret
        exact ⟨ret_bool HZ.out.symm, below_drewN B2 _⟩
      have k2' : decide ((f.terms.length + f.nons.length : Int) ≤ p.left) = false := decide_eq_false (by omega)
      by_cases hz : 0 < j
      · have hz' : decide (0 < (j : Int)) = true := decide_eq_true (by omega)
        have c0 := HQ2.out hz
        have hjs : ((j : Int) - 1) = ((j - 1 : Nat) : Int) := by omega
        by_cases k3 : p.left < q
        · have HZ : Hid (fitB f = false) := by show _ = _; rw [HG.out, HQ.out hz, decide_eq_false (p := q ≤ p.left) (by omega)]; simp
          have k3' : decide (p.left < q) = true := decide_eq_true k3
          clear HG
          go_big_quiet (fail)
          go_wp2_with fail
          go_ret
          exact ⟨ret_bool HZ.out.symm, below_drewN B2 _⟩
        have k3' : decide (p.left < q) = false := decide_eq_false k3
        by_cases k4 : 64 < p.right.length
        · have HZ : Hid (fitB f = false) := by show _ = _; rw [HG.out, decide_eq_false (p := _ ∧ _) (by omega)]; simp
          have k4' : decide (64 < (p.right.length : Int)) = true := decide_eq_true (by omega)
          clear HG
          go_big_quiet (fail)
          go_wp2_with fail
          go_ret
          exact ⟨ret_bool HZ.out.symm, below_drewN B2 _⟩
        have k4' : decide (64 < (p.right.length : Int)) = false := decide_eq_false (by omega)
        by_cases k5 : p.prec < -10000
        · have HZ : Hid (fitB f = false) := by show _ = _; rw [HG.out, decide_eq_false (p := _ ∧ _) (by omega)]; simp
          have k5' : decide (p.prec < -10000) = true := decide_eq_true (by omega)
          clear HG
          go_big_quiet (fail)
          go_wp2_with fail
          go_ret
          exact ⟨ret_bool HZ.out.symm, below_drewN B2 _⟩
        have k5' : decide (p.prec < -10000) = false := decide_eq_false (by omega)
        by_cases k6 : 10000 < p.prec
        · have HZ : Hid (fitB f = false) := by show _ = _; rw [HG.out, decide_eq_false (p := _ ∧ _) (by omega)]; simp
          have k6' : decide (10000 < p.prec) = true := decide_eq_true (by omega)
          clear HG
          go_big_quiet (fail)
          go_wp2_with fail
          go_ret
          exact ⟨ret_bool HZ.out.symm, below_drewN B2 _⟩
        have k6' : decide (10000 < p.prec) = false := decide_eq_false (by omega)
        have HG2 : Hid (fitB f = (p.right.all (itemB (f.terms.length + f.nons.length : Nat)) && prodsB f.terms.length (f.terms.length + f.nons.length : Nat) (prevL f (j + 1)) rest)) := by
          show _ = _
          rw [HG.out, decide_eq_true (p := _ ∧ _) (by omega), decide_eq_true (by rw [HQ.out hz]; omega), HL.out]
          rfl
        clear HG
        go_big_quiet (fail)
        go_wp2_with fail
        have HM : Hid (prodsB f.terms.length (f.terms.length + f.nons.length : Nat) (prevL f (j + 1)) rest = prodsB f.terms.length (f.terms.length + f.nons.length : Nat) (prevL f (j + 1)) rest) := rfl
        clear HM
        have HX2 : Hid (FBox f ⟨ta, tc, na, nc, some ⟨b, off, none⟩, pc⟩ w.heap.size W1) := X2
        clear D0 D1 D2 X2 e0 e2 hb
        generalize wr.heap.size = Z at e1 e3 ⊢
        clear B1 wr
        go_loopw [6] (fun k wq => ∃ (m : Nat), k = .int .i64 m ∧ m ≤ p.right.length ∧ p.right.all (itemB (f.terms.length + f.nons.length : Nat)) = (p.right.drop m).all (itemB (f.terms.length + f.nons.length : Nat)) ∧ Below W1.heap.size W1 wq) (fun k _ => p.right.length - (intOf k).toNat)
        case atStart => exact ⟨0, rfl, Nat.zero_le _, by simp, below_drewN (Below.refl _ _) _⟩
        case round =>
          obtain ⟨m, rfl, hm, hrl, Bq⟩ := hrel
          have f1 := (Bq.cell (p := ⟨Z, 1, none⟩) e3).trans e1
          have Bz := below_then B2 Bq B2.size
          by_cases hml : m < p.right.length
          · obtain ⟨bi, oi, rfl, hbi, i0, i1, i2, si, sf, sa⟩ := HI2.out.at Bq hml
            rw [List.drop_eq_getElem_cons hml, List.all_cons] at hrl
            generalize p.right[m] = x at *
            have HQ3 : Hid (p.right.all (itemB (f.terms.length + f.nons.length : Nat)) = ((decide (0 ≤ x.sym ∧ x.sym < (f.terms.length + f.nons.length : Nat)) && nameN x.fld && nameN x.als) && (p.right.drop (m + 1)).all (itemB (f.terms.length + f.nons.length : Nat)))) := hrl
            clear hrl
            have n1 := fun W => name9_any x.fld W sf
            have n2 := fun W => name9_any x.als W sa
            have HN1 : Hid (∀ W, Calls Tryd.prog 41 #[.string x.fld] W fun e w' => e = .returned (.bool (nameN x.fld)) ∧ w' = W) := n1
            have HN2 : Hid (∀ W, Calls Tryd.prog 41 #[.string x.als] W fun e w' => e = .returned (.bool (nameN x.als)) ∧ w' = W) := n2
            clear n1 n2 HI2
            by_cases y1 : x.sym < 0
            · have HZ : Hid (fitB f = false) := by show _ = _; rw [HG2.out, HQ3.out, decide_eq_false (by omega)]; rfl
              clear HG2 HQ3
              go_wp2_with fail
              go_ret
              exact ⟨ret_bool HZ.out.symm, Bz.alloc Bz.size _⟩
            by_cases y2 : (f.terms.length + f.nons.length : Int) ≤ x.sym
            · have HZ : Hid (fitB f = false) := by show _ = _; rw [HG2.out, HQ3.out, decide_eq_false (by omega)]; rfl
              clear HG2 HQ3
              go_wp2_with fail
              go_ret
              exact ⟨ret_bool HZ.out.symm, Bz.alloc Bz.size _⟩
            go_wp2_with fail
            refine (HN1.out _).mono ?_
            rintro e w5 ⟨rfl, rfl⟩
            cases hy3 : nameN x.fld with
            | false =>
              have HZ : Hid (fitB f = false) := by show _ = _; rw [HG2.out, HQ3.out, hy3, Bool.and_false]; rfl
              clear HG2 HQ3 hy3
              go_wp2_with fail
              go_ret
              exact ⟨ret_bool HZ.out.symm, Bz.alloc Bz.size _⟩
            | true =>
            go_wp2_with fail
            refine (HN2.out _).mono ?_
            rintro e w5 ⟨rfl, rfl⟩
            cases hy4 : nameN x.als with
            | false =>
              have HZ : Hid (fitB f = false) := by show _ = _; rw [HG2.out, HQ3.out, hy4, Bool.and_false]; rfl
              clear HG2 HQ3 hy3 hy4
              go_wp2_with fail
              go_ret
              exact ⟨ret_bool HZ.out.symm, Bz.alloc Bz.size _⟩
            | true =>
            have HQ4 : Hid (p.right.all (itemB (f.terms.length + f.nons.length : Nat)) = (p.right.drop (m + 1)).all (itemB (f.terms.length + f.nons.length : Nat))) := by show _ = _; rw [HQ3.out, hy3, hy4, decide_eq_true (by omega)]; rfl
            clear HQ3 hy3 hy4 HG2
            go_wp2_with fail
            exact ⟨⟨m + 1, by go_num, by omega, HQ4.out, Bq.alloc Bq.size _⟩, by simp [intOf]; omega⟩
          · have HZ : Hid (fitB f = prodsB f.terms.length (f.terms.length + f.nons.length : Nat) (prevL f (j + 1)) rest) := by
              show _ = _
              rw [HG2.out, hrl, List.drop_of_length_le (by omega)]
              rfl
            clear hrl HG2
            go_wp2_with fail
            exact ⟨⟨j + 1, by go_num, by omega, by rw [HZ.out, HRS.out], HX2.out.next Bq, Bz⟩, by simp [intOf]; omega⟩
      · have hz' : decide (0 < (j : Int)) = false := decide_eq_false (by omega)
        by_cases k4 : 64 < p.right.length
        · have HZ : Hid (fitB f = false) := by show _ = _; rw [HG.out, decide_eq_false (p := _ ∧ _) (by omega)]; simp
          have k4' : decide (64 < (p.right.length : Int)) = true := decide_eq_true (by omega)
          clear HG
          go_big_quiet (fail)
          go_wp2_with fail
          go_ret
          exact ⟨ret_bool HZ.out.symm, below_drewN B2 _⟩
        have k4' : decide (64 < (p.right.length : Int)) = false := decide_eq_false (by omega)
        by_cases k5 : p.prec < -10000
        · have HZ : Hid (fitB f = false) := by show _ = _; rw [HG.out, decide_eq_false (p := _ ∧ _) (by omega)]; simp
          have k5' : decide (p.prec < -10000) = true := decide_eq_true (by omega)
          clear HG
          go_big_quiet (fail)
          go_wp2_with fail
          go_ret
          exact ⟨ret_bool HZ.out.symm, below_drewN B2 _⟩
        have k5' : decide (p.prec < -10000) = false := decide_eq_false (by omega)
        by_cases k6 : 10000 < p.prec
        · have HZ : Hid (fitB f = false) := by show _ = _; rw [HG.out, decide_eq_false (p := _ ∧ _) (by omega)]; simp
          have k6' : decide (10000 < p.prec) = true := decide_eq_true (by omega)
          clear HG
          go_big_quiet (fail)
          go_wp2_with fail
          go_ret
          exact ⟨ret_bool HZ.out.symm, below_drewN B2 _⟩
        have k6' : decide (10000 < p.prec) = false := decide_eq_false (by omega)
        have HG2 : Hid (fitB f = (p.right.all (itemB (f.terms.length + f.nons.length : Nat)) && prodsB f.terms.length (f.terms.length + f.nons.length : Nat) (prevL f (j + 1)) rest)) := by
          show _ = _
          rw [HG.out, decide_eq_true (p := _ ∧ _) (by omega), decide_eq_true (by rw [HPV.out (by omega)]; omega), HL.out]
          rfl
        clear HG
        go_big_quiet (fail)
        go_wp2_with fail
        have HM : Hid (prodsB f.terms.length (f.terms.length + f.nons.length : Nat) (prevL f (j + 1)) rest = prodsB f.terms.length (f.terms.length + f.nons.length : Nat) (prevL f (j + 1)) rest) := rfl
        clear HM
        have HX2 : Hid (FBox f ⟨ta, tc, na, nc, some ⟨b, off, none⟩, pc⟩ w.heap.size W1) := X2
        clear D0 D1 D2 X2 e0 e2 hb
        generalize wr.heap.size = Z at e1 e3 ⊢
        clear B1 wr
        go_loopw [6] (fun k wq => ∃ (m : Nat), k = .int .i64 m ∧ m ≤ p.right.length ∧ p.right.all (itemB (f.terms.length + f.nons.length : Nat)) = (p.right.drop m).all (itemB (f.terms.length + f.nons.length : Nat)) ∧ Below W1.heap.size W1 wq) (fun k _ => p.right.length - (intOf k).toNat)
        case atStart => exact ⟨0, rfl, Nat.zero_le _, by simp, below_drewN (Below.refl _ _) _⟩
        case round =>
          obtain ⟨m, rfl, hm, hrl, Bq⟩ := hrel
          have f1 := (Bq.cell (p := ⟨Z, 1, none⟩) e3).trans e1
          have Bz := below_then B2 Bq B2.size
          by_cases hml : m < p.right.length
          · obtain ⟨bi, oi, rfl, hbi, i0, i1, i2, si, sf, sa⟩ := HI2.out.at Bq hml
            rw [List.drop_eq_getElem_cons hml, List.all_cons] at hrl
            generalize p.right[m] = x at *
            have HQ3 : Hid (p.right.all (itemB (f.terms.length + f.nons.length : Nat)) = ((decide (0 ≤ x.sym ∧ x.sym < (f.terms.length + f.nons.length : Nat)) && nameN x.fld && nameN x.als) && (p.right.drop (m + 1)).all (itemB (f.terms.length + f.nons.length : Nat)))) := hrl
            clear hrl
            have n1 := fun W => name9_any x.fld W sf
            have n2 := fun W => name9_any x.als W sa
            have HN1 : Hid (∀ W, Calls Tryd.prog 41 #[.string x.fld] W fun e w' => e = .returned (.bool (nameN x.fld)) ∧ w' = W) := n1
            have HN2 : Hid (∀ W, Calls Tryd.prog 41 #[.string x.als] W fun e w' => e = .returned (.bool (nameN x.als)) ∧ w' = W) := n2
            clear n1 n2 HI2
            by_cases y1 : x.sym < 0
            · have HZ : Hid (fitB f = false) := by show _ = _; rw [HG2.out, HQ3.out, decide_eq_false (by omega)]; rfl
              clear HG2 HQ3
              go_wp2_with fail
              go_ret
              exact ⟨ret_bool HZ.out.symm, Bz.alloc Bz.size _⟩
            by_cases y2 : (f.terms.length + f.nons.length : Int) ≤ x.sym
            · have HZ : Hid (fitB f = false) := by show _ = _; rw [HG2.out, HQ3.out, decide_eq_false (by omega)]; rfl
              clear HG2 HQ3
              go_wp2_with fail
              go_ret
              exact ⟨ret_bool HZ.out.symm, Bz.alloc Bz.size _⟩
            go_wp2_with fail
            refine (HN1.out _).mono ?_
            rintro e w5 ⟨rfl, rfl⟩
            cases hy3 : nameN x.fld with
            | false =>
              have HZ : Hid (fitB f = false) := by show _ = _; rw [HG2.out, HQ3.out, hy3, Bool.and_false]; rfl
              clear HG2 HQ3 hy3
              go_wp2_with fail
              go_ret
              exact ⟨ret_bool HZ.out.symm, Bz.alloc Bz.size _⟩
            | true =>
            go_wp2_with fail
            refine (HN2.out _).mono ?_
            rintro e w5 ⟨rfl, rfl⟩
            cases hy4 : nameN x.als with
            | false =>
              have HZ : Hid (fitB f = false) := by show _ = _; rw [HG2.out, HQ3.out, hy4, Bool.and_false]; rfl
              clear HG2 HQ3 hy3 hy4
              go_wp2_with fail
              go_ret
              exact ⟨ret_bool HZ.out.symm, Bz.alloc Bz.size _⟩
            | true =>
            have HQ4 : Hid (p.right.all (itemB (f.terms.length + f.nons.length : Nat)) = (p.right.drop (m + 1)).all (itemB (f.terms.length + f.nons.length : Nat))) := by show _ = _; rw [HQ3.out, hy3, hy4, decide_eq_true (by omega)]; rfl
            clear HQ3 hy3 hy4 HG2
            go_wp2_with fail
            exact ⟨⟨m + 1, by go_num, by omega, HQ4.out, Bq.alloc Bq.size _⟩, by simp [intOf]; omega⟩
          · have HZ : Hid (fitB f = prodsB f.terms.length (f.terms.length + f.nons.length : Nat) (prevL f (j + 1)) rest) := by
              show _ = _
              rw [HG2.out, hrl, List.drop_of_length_le (by omega)]
              rfl
            clear hrl HG2
            go_wp2_with fail
            exact ⟨⟨j + 1, by go_num, by omega, by rw [HZ.out, HRS.out], HX2.out.next Bq, Bz⟩, by simp [intOf]; omega⟩
    · have HZ : Hid (fitB f = true) := by show _ = _; rw [hrel, List.drop_of_length_le (by omega)]; rfl
      clear hrel h2
      go_wp2_with fail
      go_ret
      exact ⟨ret_bool HZ.out.symm, B1⟩
end Go.Proofs.YtckbfiigbckmeaaDoor
