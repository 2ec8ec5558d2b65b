/- fitSlots. -/
import Derived.Test.YtoocafcagelbgaaPSlot
import Derived.Test.YtoocafcagelbgaaPHeld
namespace Go.Proofs.Ytoocafcagelbgaa
open Go.RowKit

def zeroK : HK := ⟨⟨#[]⟩, ⟨#[]⟩, false, 0, 0, 0, ⟨#[]⟩⟩
theorem bytes_ext {a b : ByteArray} (h : a.toList = b.toList) : a = b :=
  Go.WideShapes.bytes_inj (by rw [← ByteArray.toList_eq, ← ByteArray.toList_eq]; exact h)
set_option maxRecDepth 100000 in
set_option maxHeartbeats 1600000 in
theorem neqHK (a b : HK) (w : World) : (binOp .neq 87 (hkV a) (hkV b)).run Try.prog w = .ok (.bool (!decide (a = b))) w := by
  have u3 := Try.underlying3
  have a3 := Try.isAgg3
  have z3 := Try.sizeOf3
  have u9 := Try.underlying9
  have a9 := Try.isAgg9
  have z9 := Try.sizeOf9
  have u4 := Try.underlying4
  have a4 := Try.isAgg4
  have z4 := Try.sizeOf4
  have hS : Try.prog.underlying 87 = some (.struct (Try.prog.fieldsOf 87)) := by kernel_rfl
  have hp : Try.prog.stoodInHeld 87 = false := by kernel_rfl
  obtain ⟨a0, a1, a2, a3', a4', a5, a6⟩ := a
  obtain ⟨b0, b1, b2, b3, b4, b5, b6⟩ := b
  unfold hkV
  simp only
  rw [run_neq_struct, show (10000 : Nat) = 9999 + 1 from rfl, run_equalIn_agg w 9999 87 _ _ hS hp]
  simp only [Program.fieldsOf, Try.underlying87]
  go_simp
  have e : ∀ x y : ByteArray, x.toList = y.toList ↔ x = y := fun x y => ⟨bytes_ext, fun h => by rw [h]⟩
  simp only [e]
  by_cases h0 : a0 = b0 <;> by_cases h1 : a1 = b1 <;> by_cases h2 : a2 = b2 <;> by_cases h3 : a3' = b3 <;> by_cases h4 : a4' = b4 <;> by_cases h5 : a5 = b5 <;> by_cases h6 : a6 = b6 <;> simp [h0, h1, h2, h3, h4, h5, h6]
def slotB (n : Nat) (s : Sl) : Bool :=
  s.nd.kids.isEmpty && decide (0 ≤ s.refs) && (if s.refs = 0 then decide (keyH s.nd.h s.kids = zeroK) else decide (s.next = -1) && areB n s.kids)
def slotsB (n : Nat) (l : List Sl) : Bool := l.all (slotB n)

set_option maxRecDepth 100000 in
set_option maxHeartbeats 3200000 in
theorem fitSlots_any (a : Ar) (v : Value) (w : World) (h : ArV a v w) (hkl : ∀ s ∈ a.slots, s.kids.length ≤ 1000000) :
    Calls Try.prog 56 #[v] w fun e w' => e = .returned (.bool (slotsB a.slots.length a.slots)) ∧ Below w.heap.size w w' := by
  obtain ⟨sv, rv, rfl, ⟨ao, cap, rfl, hs, _, _, hlb⟩, hr, _, hrl⟩ := h
  obtain ⟨ra, rc, rfl, _⟩ := hr
  generalize a.slots = l at *
  generalize a.roots.length = rl at *
  generalize a.free = fr at *
  have HKL : Hid (∀ s ∈ l, s.kids.length ≤ 1000000) := hkl
  have HZ : Hid (∀ (K : HK) (W : World), (binOp .neq 87 (hkV K) (.agg #[.string ⟨#[]⟩, .string ⟨#[]⟩, .bool false, .int .i64 0, .int .i64 0, .int .i64 0, .string ⟨#[]⟩])).run Try.prog W = .ok (.bool (!decide (K = zeroK))) W) := fun K W => neqHK K zeroK W
  have HG : Hid (∀ (K : HK) (W : World), (eqGuard .neq 87 (.tmp 30) (.tmp 31) (hkV K) (.agg #[.string ⟨#[]⟩, .string ⟨#[]⟩, .bool false, .int .i64 0, .int .i64 0, .int .i64 0, .string ⟨#[]⟩])).run Try.prog W = .ok () W) := fun K W => run_eqGuard_agg W .neq 87 (.tmp 30) (.tmp 31) _ _ (by kernel_rfl)
  have B0 : Below w.heap.size w (w.alloc (Obj.cells #[.slice ao l.length cap, .int .i64 fr, .slice ra rl rc] 25)) := (Below.refl _ _).alloc (Nat.le_refl _) _
  have b0 : ArBox w.heap.size ao l.length cap fr (.slice ra rl rc) (w.alloc (Obj.cells #[.slice ao l.length cap, .int .i64 fr, .slice ra rl rc] 25)) := ⟨by simp, by simp, by simp⟩
  clear hkl
  go_enter Try.func56, Try.ntmps56
  go_wp2_with fail
  generalize w.alloc (Obj.cells #[.slice ao l.length cap, .int .i64 fr, .slice ra rl rc] 25) = w0 at *
  have HS : Hid (SlotsAt l ao w0) := hs.next B0
  clear hs
  go_loopw [8] (fun iv wr => ∃ (i : Nat), iv = .int .i64 i ∧ i ≤ l.length ∧ Hid (∀ x ∈ l.take i, slotB l.length x = true) ∧ Below w0.heap.size w0 wr) (fun i _ => l.length - (intOf i).toNat)
  case atStart => exact ⟨0, rfl, Nat.zero_le _, fun x hx => by simp at hx, Below.refl _ _⟩
  case round =>
  obtain ⟨i, rfl, hi, HNO, BR⟩ := hrel
  have HBR : Hid (Below w.heap.size w wr) := below_next B0 BR
  by_cases hlt : i < l.length
  case neg =>
    obtain rfl : i = l.length := by omega
    have HV : Hid (slotsB l.length l = true) := by
      show _ = _
      unfold slotsB
      rw [List.all_eq_true]
      exact fun x hx => HNO.out x (by rw [List.take_length]; exact hx)
    clear HNO HS
    go_wp2_with fail
    go_ret
    exact ⟨by rw [HV.out]; rfl, HBR.out⟩
  obtain ⟨b, off, ka, kc, gv, rfl, hb, hrow, _, hks, _⟩ := HS.out.at BR hlt
  have HKS : Hid (∀ W, Below wr.heap.size wr W → SlI l[i].kids gv W) := fun W hb => hks.next hb
  have hkl := HKL.out l[i] (List.getElem_mem hlt)
  have HTK : Hid (l.take (i + 1) = l.take i ++ [l[i]] ∧ l[i] ∈ l) := ⟨List.take_succ_eq_append_getElem hlt, List.getElem_mem hlt⟩
  generalize l[i] = s at *
  have HYES : Hid (slotB l.length s = true → ∀ x ∈ l.take (i + 1), slotB l.length x = true) := fun hy x hx => by
    rw [HTK.out.1] at hx
    rcases List.mem_append.1 hx with hx | hx
    · exact HNO.out x hx
    · simp at hx; subst hx; exact hy
  have HNOT : Hid (slotB l.length s = false → slotsB l.length l = false) := fun hy => by
    unfold slotsB
    rw [List.all_eq_false]
    exact ⟨s, HTK.out.2, by simp [hy]⟩
  obtain ⟨ga, gc, rfl, _⟩ := hks
  have HHO : Hid (∀ W, Below wr.heap.size wr W → Calls Try.prog 54 #[ndV s.nd.h (.slice ka s.nd.kids.length kc), .slice ga s.kids.length gc] W fun e w' => e = .returned (hkV (keyH s.nd.h s.kids)) ∧ Below W.heap.size W w') := fun W hb => heldOf_any _ _ _ _ W (HKS.out W hb) hkl
  have HAR : Hid (∀ W, Below wr.heap.size wr W → Calls Try.prog 66 #[.agg #[.slice (some ⟨b, off, none⟩) l.length cap, .int .i64 fr, .slice ra rl rc], .slice ga s.kids.length gc] W fun e w' => e = .returned (.bool (areB l.length s.kids)) ∧ Below W.heap.size W w') := fun W hb => areSlots_any _ _ _ _ _ _ _ W (HKS.out W hb) (by omega)
  obtain ⟨⟨⟨nk, nn, nf, nr, nt, nb⟩, nks⟩, ks, rf, nx⟩ := s
  obtain ⟨⟨e0, e1, e2, e3, e4, e5, e6⟩, e7, e8, e9⟩ := hrow
  have HSB : Hid (slotB l.length ⟨Nd.mk ⟨nk, nn, nf, nr, nt, nb⟩ nks, ks, rf, nx⟩ = (nks.isEmpty && decide (0 ≤ rf) && (if rf = 0 then decide (keyH ⟨nk, nn, nf, nr, nt, nb⟩ ks = zeroK) else decide (nx = -1) && areB l.length ks))) := rfl
  simp only [Nd.h, Nd.kids, ndV] at e0 e1 e2 e3 e4 e5 e6 e7 e8 e9 HHO HAR hkl
  obtain ⟨K, HK⟩ : ∃ K, Hid (keyH ⟨nk, nn, nf, nr, nt, nb⟩ ks = K) := ⟨_, rfl⟩
  rw [HK.out] at HHO HSB
  obtain ⟨AB, hAB⟩ : ∃ AB, areB l.length ks = AB := ⟨_, rfl⟩
  rw [hAB] at HAR HSB
  obtain ⟨nl, hnl⟩ : ∃ nl, nks.length = nl := ⟨_, rfl⟩
  have HE : Hid (nks.isEmpty = decide (nl = 0)) := by
    show _ = _
    rw [← hnl]; cases nks <;> simp
  rw [hnl] at e6 HHO
  rw [HE.out] at HSB
  obtain ⟨kl, hkl2⟩ : ∃ kl, ks.length = kl := ⟨_, rfl⟩
  rw [hkl2] at e7 HHO HAR hkl
  generalize slotB l.length ⟨Nd.mk ⟨nk, nn, nf, nr, nt, nb⟩ nks, ks, rf, nx⟩ = SB at *
  clear HKS HTK HNO HS HK HE hAB hnl hkl2
  have b1 := b0.next BR
  have BX : ∀ W : World, W = wr.alloc (Obj.cells #[.string nk, .bool nn, .string nf, .int .i64 nr, .int .i64 nt, .int .i64 nb, .slice ka nl kc, .slice ga kl gc, .int .i64 rf, .int .i64 nx] 60) → Below wr.heap.size wr W := fun W e => by rw [e]; exact (Below.refl _ _).alloc (Nat.le_refl _) _
  have HB1 := BX _ rfl
  obtain ⟨c0, c1, c2⟩ := b1.next HB1
  have HHO1 := HHO.out _ HB1
  have HAR1 := HAR.out _ HB1
  clear BX HHO HAR
  by_cases hn0 : nl = 0
  case neg =>
    have d1 : decide ((nl : Int) > 0) = true := decide_eq_true (by omega)
    have d1' : (nl : Int) > 0 := by omega
    have HV : Hid (slotsB l.length l = false) := HNOT.out (by rw [HSB.out]; simp [hn0])
    have HEND : Hid (Below w.heap.size w (wr.alloc (Obj.cells #[.string nk, .bool nn, .string nf, .int .i64 nr, .int .i64 nt, .int .i64 nb, .slice ka nl kc, .slice ga kl gc, .int .i64 rf, .int .i64 nx] 60))) := below_next HBR.out HB1
    clear HYES HNOT HHO1 HAR1 HSB
    go_wp2_with fail
    go_ret
    exact ⟨by rw [HV.out]; rfl, HEND.out⟩
  subst hn0
  by_cases hr0 : rf < 0
  · have d2 : decide (rf < 0) = true := decide_eq_true hr0
    have HV : Hid (slotsB l.length l = false) := HNOT.out (by rw [HSB.out]; simp; omega)
    have HEND : Hid (Below w.heap.size w (wr.alloc (Obj.cells #[.string nk, .bool nn, .string nf, .int .i64 nr, .int .i64 nt, .int .i64 nb, .slice ka 0 kc, .slice ga kl gc, .int .i64 rf, .int .i64 nx] 60))) := below_next HBR.out HB1
    clear HYES HNOT HHO1 HAR1 HSB
    go_wp2_with fail
    go_ret
    exact ⟨by rw [HV.out]; rfl, HEND.out⟩
  have d2 : decide (rf < 0) = false := decide_eq_false hr0
  by_cases hrz : rf = 0
  · subst hrz
    have d3 : ((0 : Int) == 0) = true := rfl
    cases hkz : decide (K = zeroK) with
    | false =>
      have HV : Hid (slotsB l.length l = false) := HNOT.out (by rw [HSB.out]; simp only [if_pos]; rw [hkz]; simp)
      have hneq := fun W => HZ.out K W
      have hgd := fun W => HG.out K W
      rw [hkz] at hneq
      simp only [Bool.not_false] at hneq
      clear HYES HNOT HAR1 HSB HZ HG
      go_wp2_with fail
      refine HHO1.mono ?_
      rintro e w1 ⟨rfl, hb2⟩
      have HEND : Hid (Below w.heap.size w w1) := below_next (below_next HBR.out HB1) hb2
      clear HHO1
      go_wp2_with fail
      go_ret
      exact ⟨by rw [HV.out]; rfl, HEND.out⟩
    | true =>
      have HN2 : Hid (∀ x ∈ l.take (i + 1), slotB l.length x = true) := HYES.out (by rw [HSB.out]; simp only [if_pos]; rw [hkz]; simp)
      have hneq := fun W => HZ.out K W
      have hgd := fun W => HG.out K W
      rw [hkz] at hneq
      simp only [Bool.not_true] at hneq
      clear HYES HNOT HAR1 HSB HZ HG
      have q8 : ∀ W, Below (wr.alloc (Obj.cells #[.string nk, .bool nn, .string nf, .int .i64 nr, .int .i64 nt, .int .i64 nb, .slice ka 0 kc, .slice ga kl gc, .int .i64 0, .int .i64 nx] 60)).heap.size (wr.alloc (Obj.cells #[.string nk, .bool nn, .string nf, .int .i64 nr, .int .i64 nt, .int .i64 nb, .slice ka 0 kc, .slice ga kl gc, .int .i64 0, .int .i64 nx] 60)) W → W.cell? ⟨wr.heap.size, 8, none⟩ = some (.int .i64 0) := fun W hb => (hb.cell (p := ⟨wr.heap.size, 8, none⟩) (by simp)).trans (by simp)
      have HQ8 : Hid _ := q8
      clear q8
      go_wp2_with fail
      refine HHO1.mono ?_
      rintro e w1 ⟨rfl, hb2⟩
      have q8 := HQ8.out w1 hb2
      have HEND : Hid (Below w0.heap.size w0 w1) := below_next (below_next BR HB1) hb2
      clear HHO1 HQ8
      go_wp2_with fail
      exact ⟨⟨i + 1, by go_num, by omega, HN2, HEND.out⟩, by simp [intOf]; omega⟩
  · have d3 : (rf == 0) = false := by simpa using hrz
    have d4 : decide (rf > 0) = true := decide_eq_true (by omega)
    by_cases hnx : nx = -1
    · subst hnx
      have d5 : ((-1 : Int) != -1) = false := rfl
      cases AB with
      | false =>
        have HV : Hid (slotsB l.length l = false) := HNOT.out (by rw [HSB.out]; simp [hrz])
        clear HYES HNOT HHO1 HSB HZ hr0 hrz
        go_wp2_with fail
        refine HAR1.mono ?_
        rintro e w1 ⟨rfl, hb2⟩
        have HEND : Hid (Below w.heap.size w w1) := below_next (below_next HBR.out HB1) hb2
        clear HAR1
        go_wp2_with fail
        go_ret
        exact ⟨by rw [HV.out]; rfl, HEND.out⟩
      | true =>
        have HN2 : Hid (∀ x ∈ l.take (i + 1), slotB l.length x = true) := HYES.out (by rw [HSB.out]; simp [hrz]; omega)
        clear HYES HNOT HHO1 HSB HZ hr0 hrz
        go_wp2_with fail
        refine HAR1.mono ?_
        rintro e w1 ⟨rfl, hb2⟩
        have HEND : Hid (Below w0.heap.size w0 w1) := below_next (below_next BR HB1) hb2
        clear HAR1
        go_wp2_with fail
        exact ⟨⟨i + 1, by go_num, by omega, HN2, HEND.out⟩, by simp [intOf]; omega⟩
    · have d5 : (nx != -1) = true := by simpa using hnx
      have HV : Hid (slotsB l.length l = false) := HNOT.out (by rw [HSB.out]; simp [hrz, hnx])
      have HEND : Hid (Below w.heap.size w (wr.alloc (Obj.cells #[.string nk, .bool nn, .string nf, .int .i64 nr, .int .i64 nt, .int .i64 nb, .slice ka 0 kc, .slice ga kl gc, .int .i64 rf, .int .i64 nx] 60))) := below_next HBR.out HB1
      clear HYES HNOT HHO1 HAR1 HSB HZ hr0 hrz hnx
      go_wp2_with fail
      go_ret
      exact ⟨by rw [HV.out]; rfl, HEND.out⟩
end Go.Proofs.Ytoocafcagelbgaa
