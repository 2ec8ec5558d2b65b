/- Places that are slots: isSlot, areSlots, fitRoots. -/
import Derived.Test.YtoocafcagelbgaaABase
namespace Go.Proofs.Ytoocafcagelbgaa
open Go.RowKit

def isSl (n : Nat) (p : Int) : Bool := decide (0 ≤ p ∧ p < n)
def arCells (sa : Option Addr) (n c : Nat) (fr : Int) (rv : Value) : Array Value := #[.slice sa n c, .int .i64 fr, rv]
set_option maxRecDepth 100000 in
set_option maxHeartbeats 800000 in
theorem isSlot_any (sa : Option Addr) (n c : Nat) (fr : Int) (rv : Value) (p : Int) (w : World) :
    Calls Try.prog 67 #[.agg #[.slice sa n c, .int .i64 fr, rv], .int .i64 p] w fun e w' => e = .returned (.bool (isSl n p)) ∧ Below w.heap.size w w' := by
  have B0 : Below w.heap.size w (w.alloc (Obj.cells #[.slice sa n c, .int .i64 fr, rv] 25)) := (Below.refl _ _).alloc (Nat.le_refl _) _
  by_cases h1 : p ≥ 0
  · have d1 : decide (p ≥ 0) = true := decide_eq_true h1
    have HV : Hid (isSl n p = decide (p < n)) := by show _ = _; unfold isSl; simp; omega
    go_enter Try.func67, Try.ntmps67
    go_wp2_with fail
    go_ret
    exact ⟨by rw [HV.out]; rfl, B0⟩
  · have d1 : decide (p ≥ 0) = false := decide_eq_false h1
    have HV : Hid (isSl n p = false) := by show _ = _; unfold isSl; simp; omega
    go_enter Try.func67, Try.ntmps67
    go_wp2_with fail
    go_ret
    exact ⟨by rw [HV.out]; rfl, B0⟩
/-- A box that holds an arena. -/
structure ArBox (tb : Nat) (sa : Option Addr) (n c : Nat) (fr : Int) (rv : Value) (W : World) : Prop where
  c0 : W.cell? ⟨tb, 0, none⟩ = some (.slice sa n c)
  c1 : W.cell? ⟨tb, 1, none⟩ = some (.int .i64 fr)
  c2 : W.cell? ⟨tb, 2, none⟩ = some rv
theorem ArBox.next {tb : Nat} {sa : Option Addr} {n c : Nat} {fr : Int} {rv : Value} {W W' : World} (h : ArBox tb sa n c fr rv W) (hb : Below W.heap.size W W') : ArBox tb sa n c fr rv W' :=
  ⟨(hb.cell (p := ⟨tb, 0, none⟩) (World.block_lt_of_cell? _ _ h.c0)).trans h.c0, (hb.cell (p := ⟨tb, 1, none⟩) (World.block_lt_of_cell? _ _ h.c1)).trans h.c1, (hb.cell (p := ⟨tb, 2, none⟩) (World.block_lt_of_cell? _ _ h.c2)).trans h.c2⟩
theorem ArBox.but {tb : Nat} {sa : Option Addr} {n c : Nat} {fr : Int} {rv : Value} {W W' : World} {D : Nat → Prop} (h : ArBox tb sa n c fr rv W) (hb : But D W W') (hd : ¬ D tb) : ArBox tb sa n c fr rv W' :=
  ⟨(hb.cell (p := ⟨tb, 0, none⟩) (World.block_lt_of_cell? _ _ h.c0) hd).trans h.c0, (hb.cell (p := ⟨tb, 1, none⟩) (World.block_lt_of_cell? _ _ h.c1) hd).trans h.c1, (hb.cell (p := ⟨tb, 2, none⟩) (World.block_lt_of_cell? _ _ h.c2) hd).trans h.c2⟩
set_option maxRecDepth 100000 in
set_option maxHeartbeats 800000 in
theorem arC_any (tb : Nat) (sa : Option Addr) (n c : Nat) (fr : Int) (rv : Value) (p : Int) (w : World) (hB : ArBox tb sa n c fr rv w) :
    Calls Try.prog 69 #[.int .i64 p, .pointer (some ⟨tb, 0, none⟩)] w fun e w' => e = .returned (.bool (!isSl n p)) ∧ Below w.heap.size w w' := by
  have HC := isSlot_any sa n c fr rv p w
  obtain ⟨c0, c1, c2⟩ := hB
  generalize isSl n p = b at *
  go_enter Try.func69, Try.ntmps69
  go_wp2_with fail
  refine HC.mono ?_
  rintro e w1 ⟨rfl, hb⟩
  clear HC
  go_wp2_with fail
  go_ret
  exact ⟨rfl, hb⟩
set_option maxRecDepth 100000 in
set_option maxHeartbeats 1600000 in
theorem indexS_any (tb : Nat) (sa : Option Addr) (n c : Nat) (fr : Int) (rv : Value) (xs : List Int) (xv : Value) (w : World) (hB : ArBox tb sa n c fr rv w) (hx : SlI xs xv w) (hxl : xs.length ≤ 1000000000) :
    Calls Try.prog 70 #[xv, .func (.func 69) #[] #[.pointer (some ⟨tb, 0, none⟩)]] w fun e w' => ∃ z : Int, e = .returned (.int .i64 z) ∧ (0 ≤ z ↔ ∃ x ∈ xs, isSl n x = false) ∧ Below w.heap.size w w' := by
  have HC : Hid (∀ W, Below w.heap.size w W → ∀ x : Int, Calls Try.prog 69 #[.int .i64 x, .pointer (some ⟨tb, 0, none⟩)] W fun e w' => e = .returned (.bool (!isSl n x)) ∧ Below W.heap.size W w') := fun W hW x => arC_any tb sa n c fr rv x W (hB.next hW)
  have HX : Hid (∀ W, Below w.heap.size w W → SlI xs xv W) := fun W hW => hx.next hW
  clear hB
  obtain ⟨xa, xc, rfl, _⟩ := hx
  go_enter Try.func70, Try.ntmps70
  go_wp2_with fail
  go_loopw [8] (fun iv wr => ∃ (i : Nat), iv = .int .i64 i ∧ i ≤ xs.length ∧ Hid (∀ x ∈ xs.take i, isSl n x = true) ∧ Below w.heap.size w wr) (fun i _ => xs.length - (intOf i).toNat)
  case atStart => exact ⟨0, rfl, Nat.zero_le _, fun x hx => by simp at hx, Below.refl _ _⟩
  case round =>
  obtain ⟨i, rfl, hi, HNO, BR⟩ := hrel
  obtain ⟨_, _, e0, hxr, _⟩ := HX.out wr BR
  cases e0
  by_cases hlt : i < xs.length
  case neg =>
    obtain rfl : i = xs.length := by omega
    have HV : Hid (¬ ∃ x ∈ xs, isSl n x = false) := by
      rintro ⟨x, hx, h⟩
      rw [HNO.out x (by rw [List.take_length]; exact hx)] at h
      cases h
    clear HC HX hxr HNO
    go_wp2_with fail
    go_ret
    exact ⟨-1, rfl, ⟨fun h => by omega, fun h => absurd h HV.out⟩, BR⟩
  obtain ⟨b3, o3, rfl, hb3, p3⟩ := hxr.at (Below.refl _ _) hlt
  have HCX := HC.out wr BR xs[i]
  have HTK : Hid (xs.take (i + 1) = xs.take i ++ [xs[i]] ∧ xs[i] ∈ xs) := ⟨List.take_succ_eq_append_getElem hlt, List.getElem_mem hlt⟩
  simp only [encI] at p3
  generalize xs[i] = y at *
  clear hxr HC HX
  cases hld : isSl n y with
  | false =>
    have HV : Hid (∃ x ∈ xs, isSl n x = false) := ⟨y, HTK.out.2, hld⟩
    rw [hld] at HCX
    simp only [Bool.not_false] at HCX
    clear HNO HTK
    go_wp2_with fail
    refine HCX.mono ?_
    rintro e w1 ⟨rfl, hb⟩
    have HB : Hid (Below w.heap.size w w1) := BR.trans (hb.mono BR.size)
    clear HCX hb
    go_wp2_with fail
    go_ret
    exact ⟨(i : Int), rfl, ⟨fun _ => HV.out, fun _ => by omega⟩, HB.out⟩
  | true =>
    have HN2 : Hid (∀ x ∈ xs.take (i + 1), isSl n x = true) := fun x hx => by
      rw [HTK.out.1] at hx
      rcases List.mem_append.1 hx with hx | hx
      · exact HNO.out x hx
      · simp at hx; subst hx; exact hld
    rw [hld] at HCX
    simp only [Bool.not_true] at HCX
    clear HNO HTK
    go_wp2_with fail
    refine HCX.mono ?_
    rintro e w1 ⟨rfl, hb⟩
    have HB : Hid (Below w.heap.size w w1) := BR.trans (hb.mono BR.size)
    clear HCX hb
    go_wp2_with fail
    exact ⟨⟨i + 1, by go_num, by omega, HN2, HB.out⟩, by simp [intOf]; omega⟩
set_option maxRecDepth 100000 in
set_option maxHeartbeats 800000 in
theorem containsS_any (tb : Nat) (sa : Option Addr) (n c : Nat) (fr : Int) (rv : Value) (xs : List Int) (xv : Value) (w : World) (hB : ArBox tb sa n c fr rv w) (hx : SlI xs xv w) (hxl : xs.length ≤ 1000000000) :
    Calls Try.prog 68 #[xv, .func (.func 69) #[] #[.pointer (some ⟨tb, 0, none⟩)]] w fun e w' => e = .returned (.bool (decide (∃ x ∈ xs, isSl n x = false))) ∧ Below w.heap.size w w' := by
  have HC := indexS_any tb sa n c fr rv xs xv w hB hx hxl
  obtain ⟨xa, xc, rfl, _⟩ := hx
  clear hB
  go_enter Try.func68, Try.ntmps68
  go_wp2_with fail
  refine HC.mono ?_
  rintro e w1 ⟨z, rfl, hz, hb⟩
  have HZ : Hid (0 ≤ z ↔ ∃ x ∈ xs, isSl n x = false) := hz
  clear HC hz
  go_wp2_with fail
  go_ret
  exact ⟨by rw [decide_eq_decide.2 HZ.out.symm]; rfl, hb⟩
def areB (n : Nat) (xs : List Int) : Bool := xs.all (isSl n)
set_option maxRecDepth 100000 in
set_option maxHeartbeats 800000 in
theorem areSlots_any (sa : Option Addr) (n c : Nat) (fr : Int) (rv : Value) (xs : List Int) (xv : Value) (w : World) (hx : SlI xs xv w) (hxl : xs.length ≤ 1000000000) :
    Calls Try.prog 66 #[.agg #[.slice sa n c, .int .i64 fr, rv], xv] w fun e w' => e = .returned (.bool (areB n xs)) ∧ Below w.heap.size w w' := by
  have B0 : Below w.heap.size w (w.alloc (Obj.cells #[.slice sa n c, .int .i64 fr, rv] 25)) := (Below.refl _ _).alloc (Nat.le_refl _) _
  have HC := containsS_any w.heap.size sa n c fr rv xs xv _ ⟨by simp, by simp, by simp⟩ (hx.next B0) hxl
  have HV : Hid ((!decide (∃ x ∈ xs, isSl n x = false)) = areB n xs) := by
    show _ = _
    unfold areB
    rw [Bool.eq_iff_iff]
    simp
  obtain ⟨xa, xc, rfl, _⟩ := hx
  generalize decide (∃ x ∈ xs, isSl n x = false) = b at *
  go_enter Try.func66, Try.ntmps66
  go_wp2_with fail
  refine HC.mono ?_
  rintro e w1 ⟨rfl, hb⟩
  clear HC
  go_wp2_with fail
  go_ret
  exact ⟨by rw [← HV.out]; rfl, below_next B0 hb⟩
def rootB (n : Nat) (p : Int) : Bool := decide (p = -1) || isSl n p
def rootsB (n : Nat) (xs : List Int) : Bool := xs.all (rootB n)
set_option maxRecDepth 100000 in
set_option maxHeartbeats 1600000 in
theorem fitRoots_any (a : Ar) (v : Value) (w : World) (h : ArV a v w) :
    Calls Try.prog 58 #[v] w fun e w' => e = .returned (.bool (rootsB a.slots.length a.roots)) ∧ Below w.heap.size w w' := by
  obtain ⟨sv, rv, rfl, ⟨ao, cap, rfl, _, _, _, hlb⟩, hr, _, hrl⟩ := h
  have HX : Hid (∀ W, Below w.heap.size w W → SlI a.roots rv W) := fun W hb => hr.next hb
  obtain ⟨ra, rc, rfl, _⟩ := hr
  generalize a.slots.length = n at *
  generalize a.roots = xs at *
  generalize a.free = fr at *
  have HC : Hid (∀ p W, Calls Try.prog 67 #[.agg #[.slice ao n cap, .int .i64 fr, .slice ra xs.length rc], .int .i64 p] W fun e w' => e = .returned (.bool (isSl n p)) ∧ Below W.heap.size W w') := isSlot_any ao n cap fr _
  have B0 : Below w.heap.size w (w.alloc (Obj.cells #[.slice ao n cap, .int .i64 fr, .slice ra xs.length rc] 25)) := (Below.refl _ _).alloc (Nat.le_refl _) _
  have b0 : ArBox w.heap.size ao n cap fr (.slice ra xs.length rc) (w.alloc (Obj.cells #[.slice ao n cap, .int .i64 fr, .slice ra xs.length rc] 25)) := ⟨by simp, by simp, by simp⟩
  go_enter Try.func58, Try.ntmps58
  go_wp2_with fail
  generalize w.alloc (Obj.cells #[.slice ao n cap, .int .i64 fr, .slice ra xs.length rc] 25) = w0 at *
  go_loopw [8] (fun iv wr => ∃ (i : Nat), iv = .int .i64 i ∧ i ≤ xs.length ∧ Hid (∀ x ∈ xs.take i, rootB n x = true) ∧ Below w0.heap.size w0 wr) (fun i _ => xs.length - (intOf i).toNat)
  case atStart => exact ⟨0, rfl, Nat.zero_le _, fun x hx => by simp at hx, Below.refl _ _⟩
  case round =>
  obtain ⟨i, rfl, hi, HNO, BR⟩ := hrel
  obtain ⟨_, _, e0, hxr, _⟩ := HX.out wr (below_next B0 BR)
  cases e0
  have HBR : Hid (Below w.heap.size w wr) := below_next B0 BR
  obtain ⟨c0, c1, c2⟩ := b0.next BR
  by_cases hlt : i < xs.length
  case neg =>
    obtain rfl : i = xs.length := by omega
    have HV : Hid (rootsB n xs = true) := by
      show _ = _
      unfold rootsB
      rw [List.all_eq_true]
      exact fun x hx => HNO.out x (by rw [List.take_length]; exact hx)
    clear HC HX hxr HNO
    go_wp2_with fail
    go_ret
    exact ⟨by rw [HV.out]; rfl, HBR.out⟩
  obtain ⟨b3, o3, rfl, hb3, p3⟩ := hxr.at (Below.refl _ _) hlt
  have HCX := HC.out xs[i] wr
  have HTK : Hid (xs.take (i + 1) = xs.take i ++ [xs[i]] ∧ xs[i] ∈ xs) := ⟨List.take_succ_eq_append_getElem hlt, List.getElem_mem hlt⟩
  simp only [encI] at p3
  generalize xs[i] = y at *
  have HYES : Hid (rootB n y = true → ∀ x ∈ xs.take (i + 1), rootB n x = true) := fun hy x hx => by
    rw [HTK.out.1] at hx
    rcases List.mem_append.1 hx with hx | hx
    · exact HNO.out x hx
    · simp at hx; subst hx; exact hy
  have HNOT : Hid (rootB n y = false → rootsB n xs = false) := fun hy => by
    unfold rootsB
    rw [List.all_eq_false]
    exact ⟨y, HTK.out.2, by simp [hy]⟩
  clear hxr HC HX HNO HTK
  by_cases h1 : y = -1
  · have d1 : (y != -1) = false := by simp [h1]
    have HN2 : Hid (∀ x ∈ xs.take (i + 1), rootB n x = true) := HYES.out (by unfold rootB; simp [h1])
    clear HYES HNOT HCX h1
    go_wp2_with fail
    exact ⟨⟨i + 1, by go_num, by omega, HN2, BR⟩, by simp [intOf]; omega⟩
  · have d1 : (y != -1) = true := by simpa using h1
    cases hld : isSl n y with
    | false =>
      have HV : Hid (rootsB n xs = false) := HNOT.out (by unfold rootB; simp [h1, hld])
      rw [hld] at HCX
      clear HYES HNOT h1
      go_wp2_with fail
      refine HCX.mono ?_
      rintro e w1 ⟨rfl, hb⟩
      clear HCX
      go_wp2_with fail
      go_ret
      exact ⟨by rw [HV.out]; rfl, below_next HBR.out hb⟩
    | true =>
      have HN2 : Hid (∀ x ∈ xs.take (i + 1), rootB n x = true) := HYES.out (by unfold rootB; simp [hld])
      rw [hld] at HCX
      clear HYES HNOT h1
      go_wp2_with fail
      refine HCX.mono ?_
      rintro e w1 ⟨rfl, hb⟩
      have HB : Hid (Below w0.heap.size w0 w1) := BR.trans (hb.mono BR.size)
      clear HCX hb
      go_wp2_with fail
      exact ⟨⟨i + 1, by go_num, by omega, HN2, HB.out⟩, by simp [intOf]; omega⟩
end Go.Proofs.Ytoocafcagelbgaa
