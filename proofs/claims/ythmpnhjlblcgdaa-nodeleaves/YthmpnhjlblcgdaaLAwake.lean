/- The example of chapter 14. -/
import Derived.Test.YthmpnhjlblcgdaaLInts
namespace Go.Proofs.Ythmpnhjlblcgdaa
open Go.RowKit

def n1E : Nd := .mk ⟨⟨#[110, 117, 109, 98, 101, 114]⟩, true, ⟨#[108, 101, 102, 116]⟩, 0, 1, 0⟩ []
def n2E : Nd := .mk ⟨⟨#[34, 43, 34]⟩, false, ⟨#[]⟩, 1, 2, 0⟩ []
def nE : Nd := .mk ⟨⟨#[115, 117, 109]⟩, true, ⟨#[]⟩, 0, 2, 0⟩ [n1E, n2E]
theorem pre_nE : preN nE 1 = [(nE, 1), (n1E, 2), (n2E, 2)] := by simp [nE, n1E, n2E, preN, preL]
theorem cnt_nE : cntN nE = 3 := by simp [nE, n1E, n2E, cntN, cntL]
theorem print_nE : printN nE = [40, 115, 117, 109, 32, 108, 101, 102, 116, 58, 32, 40, 110, 117, 109, 98, 101, 114, 41, 32, 34, 43, 34, 41] := by
  simp [nE, n1E, n2E, printN, kidsP, fieldP, ByteArray.size]
theorem fit_nE2 : fitB nE 2 = true := by
  unfold fitB
  rw [pre_nE]
  simp [oneB, aloneB, headB, badB, kidsB, nE, n1E, n2E, Nd.h, Nd.kids, ByteArray.size]
theorem fit_nE1 : fitB nE 1 = false := by
  unfold fitB
  rw [pre_nE]
  simp [oneB, aloneB, headB, nE, Nd.h]
theorem wrong_nE : wrongB nE = false := by
  unfold wrongB
  rw [pre_nE]
  simp [badN, nE, n1E, n2E, Nd.h]
theorem at_nE : AtP 1 2 nE [1] := by
  have h0 : nE.kids = [n1E, n2E] := rfl
  refine AtP.go nE 1 (by rw [h0]; decide) [] (by simp [nE, n2E, Nd.kids, Nd.h, hasB]) (fun i hi hlt => ?_) (AtP.stop _ (fun i hi => ?_))
  · obtain rfl : i = 0 := by omega
    simp [nE, n1E, Nd.kids, Nd.h, hasB]
  · simp [nE, n2E, Nd.kids] at hi
theorem has_nE : hasB nE.h 1 2 = true := by simp [nE, Nd.h, hasB]
def rowE : Array Value := #[.string ⟨#[110, 117, 109, 98, 101, 114]⟩, .bool true, .string ⟨#[108, 101, 102, 116]⟩, .int .i64 0, .int .i64 1, .int .i64 0, .slice none 0 0, .string ⟨#[34, 43, 34]⟩, .bool false, .string ⟨#[]⟩, .int .i64 1, .int .i64 2, .int .i64 0, .slice none 0 0]
theorem leaf_at (A : Nat → Prop) (h : Hd) (ho : HdOk h) (W : World) : TAt A 1 (.mk h []) (ndV h (.slice none 0 0)) W :=
  ⟨none, 0, rfl, ho, fun _ => rfl, Nat.le_refl _, Nat.zero_le _, fun i t ht => by simp [Nd.kids] at ht⟩
theorem nE_at (b : Nat) (W : World) (hb : W.heap[b]? = some (.cells rowE 24 (0, 0))) : TAt (fun k => k = b) 2 nE (ndV nE.h (.slice (some ⟨b, 0, none⟩) 2 2)) W := by
  have ok : ∀ (k f : ByteArray) (n : Bool) (a c : Int), k.size ≤ 10 → f.size ≤ 10 → 0 ≤ a → a ≤ 10 → 0 ≤ c → c ≤ 10 → HdOk ⟨k, n, f, a, c, 0⟩ := fun k f n a c h1 h2 h3 h4 h5 h6 => ⟨by unfold i64B; simp only; omega, by unfold i64B; simp only; omega, by unfold i64B; simp only; omega, by simp only; omega, by simp only; omega⟩
  have cell : ∀ o, W.cell? ⟨b, o, none⟩ = rowE[o]? := fun o => by simp [World.cell?, hb]
  have hbl : b < W.heap.size := (Array.getElem?_eq_some_iff.1 hb).1
  refine ⟨some ⟨b, 0, none⟩, 2, rfl, ok _ _ _ _ _ (by decide) (by decide) (by decide) (by decide) (by decide) (by decide), (fun h => by cases h), by simp [nE, Nd.kids], by simp [nE, Nd.kids], fun i t ht => ?_⟩
  have hk : nE.kids = [n1E, n2E] := rfl
  rw [hk] at ht
  match i, ht with
  | 0, ht =>
    simp at ht
    subst ht
    exact ⟨b, 0, none, 0, rfl, rfl, hbl, ⟨cell _, cell _, cell _, cell _, cell _, cell _, cell _⟩, leaf_at _ _ (ok _ _ _ _ _ (by decide) (by decide) (by decide) (by decide) (by decide) (by decide)) _⟩
  | 1, ht =>
    simp at ht
    subst ht
    exact ⟨b, 0, none, 0, rfl, rfl, hbl, ⟨cell _, cell _, cell _, cell _, cell _, cell _, cell _⟩, leaf_at _ _ (ok _ _ _ _ _ (by decide) (by decide) (by decide) (by decide) (by decide) (by decide)) _⟩

set_option maxRecDepth 100000 in
set_option maxHeartbeats 8000000 in
theorem awake_any (w : World) : Calls Try.prog 10 #[] w fun e w' => e = .returned (.bool true) ∧ Below w.heap.size w w' := by
  obtain ⟨W0, hW0⟩ : ∃ W0, W0 = (w.alloc (Obj.cells rowE 24)).alloc (Obj.cells #[.string ⟨#[115, 117, 109]⟩, .bool true, .string ⟨#[]⟩, .int .i64 0, .int .i64 2, .int .i64 0, .slice (some ⟨w.heap.size, 0, none⟩) 2 2] 24) := ⟨_, rfl⟩
  have hB0 : Below w.heap.size w W0 := by rw [hW0]; exact ((Below.refl _ _).alloc (Nat.le_refl _) _).alloc (by simp) _
  have b0 : W0.heap[w.heap.size]? = some (.cells rowE 24 (0, 0)) := by rw [hW0]; exact (Below.heap_alloc _ _ _ (by simp)).trans (World.alloc_heap_new w _)
  have r7 : Row7 (w.heap.size + 1) 0 nE.h (.slice (some ⟨w.heap.size, 0, none⟩) 2 2) W0 := by
    have hb1 : W0.heap[w.heap.size + 1]? = some (.cells #[.string ⟨#[115, 117, 109]⟩, .bool true, .string ⟨#[]⟩, .int .i64 0, .int .i64 2, .int .i64 0, .slice (some ⟨w.heap.size, 0, none⟩) 2 2] 24 (0, 0)) := by
      have := World.alloc_heap_new (w.alloc (Obj.cells rowE 24)) (Obj.cells #[.string ⟨#[115, 117, 109]⟩, .bool true, .string ⟨#[]⟩, .int .i64 0, .int .i64 2, .int .i64 0, .slice (some ⟨w.heap.size, 0, none⟩) 2 2] 24)
      rw [World.size_alloc] at this
      rw [hW0]; exact this
    have cell : ∀ o, W0.cell? ⟨w.heap.size + 1, o, none⟩ = #[Value.string ⟨#[115, 117, 109]⟩, .bool true, .string ⟨#[]⟩, .int .i64 0, .int .i64 2, .int .i64 0, .slice (some ⟨w.heap.size, 0, none⟩) 2 2][o]? := fun o => by simp [World.cell?, hb1]
    exact ⟨cell 0, cell 1, cell 2, cell 3, cell 4, cell 5, cell 6⟩
  have hz : W0.heap.size = w.heap.size + 1 + 1 := by rw [hW0]; simp
  have HT : Hid (∀ W, Below W0.heap.size W0 W → TAt (fun k => k = w.heap.size) 2 nE (ndV nE.h (.slice (some ⟨w.heap.size, 0, none⟩) 2 2)) W) := fun W hb => (nE_at _ _ b0).next hb
  have HR : Hid (∀ W, Below W0.heap.size W0 W → Row7 (w.heap.size + 1) 0 nE.h (.slice (some ⟨w.heap.size, 0, none⟩) 2 2) W) := fun W hb => r7.but (D := fun _ => False) (But.of_next hb) (by omega) (fun h => h)
  have hc := cnt_nE
  have HCT : Hid (∀ W, Below W0.heap.size W0 W → Calls Try.prog 11 #[ndV nE.h (.slice (some ⟨w.heap.size, 0, none⟩) 2 2)] W fun e w' => e = .returned (.tuple #[.int .i64 3, .int .i64 2]) ∧ Below W.heap.size W w') := fun W hb => (count_any 2 nE _ W (HT.out W hb) (by omega)).mono fun e w' ⟨xs, h1, h2, h3⟩ => by
    have e1 : xs.length = 3 := by have := congrArg List.length h1; rw [List.length_map, pre_nE] at this; exact this
    have e2 : maxD xs = 2 := by rw [maxD_strip, h1, pre_nE]; decide
    rw [e1, e2] at h2
    exact ⟨h2, h3⟩
  have HPR : Hid (∀ W, Below W0.heap.size W0 W → Calls Try.prog 17 #[ndV nE.h (.slice (some ⟨w.heap.size, 0, none⟩) 2 2)] W fun e w' => e = .returned (.string ⟨#[40, 115, 117, 109, 32, 108, 101, 102, 116, 58, 32, 40, 110, 117, 109, 98, 101, 114, 41, 32, 34, 43, 34, 41]⟩) ∧ Below W.heap.size W w') := fun W hb => by
    have := print_any 2 nE _ W (HT.out W hb) (by omega) (by rw [print_nE]; decide)
    rw [print_nE] at this
    exact this
  have HF2 : Hid (∀ W, Below W0.heap.size W0 W → Calls Try.prog 13 #[ndV nE.h (.slice (some ⟨w.heap.size, 0, none⟩) 2 2), .int .i64 2] W fun e w' => e = .returned (.bool true) ∧ Below W.heap.size W w') := fun W hb => by
    have := fit_any 2 nE _ 2 W (HT.out W hb) (by omega)
    rw [fit_nE2] at this
    exact this
  have HF1 : Hid (∀ W, Below W0.heap.size W0 W → Calls Try.prog 13 #[ndV nE.h (.slice (some ⟨w.heap.size, 0, none⟩) 2 2), .int .i64 1] W fun e w' => e = .returned (.bool false) ∧ Below W.heap.size W w') := fun W hb => by
    have := fit_any 2 nE _ 1 W (HT.out W hb) (by omega)
    rw [fit_nE1] at this
    exact this
  have HWR : Hid (∀ W, Below W0.heap.size W0 W → Calls Try.prog 22 #[ndV nE.h (.slice (some ⟨w.heap.size, 0, none⟩) 2 2)] W fun e w' => e = .returned (.bool false) ∧ Below W.heap.size W w') := fun W hb => by
    have := wrong_any 2 nE _ W (HT.out W hb) (by omega)
    rw [wrong_nE] at this
    exact this
  have HAT : Hid (∀ W, Below W0.heap.size W0 W → Calls Try.prog 27 #[ndV nE.h (.slice (some ⟨w.heap.size, 0, none⟩) 2 2), .int .i64 1, .int .i64 2] W fun e w' => (∃ pa pc, e = .returned (.slice pa 1 pc) ∧ RowI [1] pa w') ∧ Below W.heap.size W w') := fun W hb => (at_any 2 nE _ 1 2 W (HT.out W hb) (by omega)).mono fun e w' ⟨⟨p, pv, h1, h2, h3⟩, h4⟩ => by
    rcases h3 with ⟨_, h3⟩ | ⟨h3, _⟩
    · obtain rfl := h3.uniq at_nE
      obtain ⟨ao, cap, e1, e2⟩ := RowI.of_own h2
      subst e1
      exact ⟨⟨ao, cap, h1, e2⟩, h4⟩
    · rw [has_nE] at h3; cases h3
  clear HT r7 b0 hc
  have hE : nE.h = ⟨⟨#[115, 117, 109]⟩, true, ⟨#[]⟩, 0, 2, 0⟩ := rfl
  rw [hE] at HCT HPR HF2 HF1 HWR HAT HR
  unfold ndV at HCT HPR HF2 HF1 HWR HAT
  simp only at HCT HPR HF2 HF1 HWR HAT
  unfold rowE at hW0
  have hz2 : w.heap.size + 1 < W0.heap.size := by omega
  clear hE hz
  have hc1 := HCT.out W0 (Below.refl _ _)
  rw [hW0] at hc1
  go_enter Try.func10, Try.ntmps10
  go_wp2_with fail
  refine hc1.mono ?_
  rw [← hW0]
  rintro e w1 ⟨rfl, hb1⟩
  clear hc1 hW0
  obtain ⟨r10, r11, r12, r13, r14, r15, r16⟩ := HR.out w1 hb1
  simp only [Nat.zero_add] at r10 r11 r12 r13 r14 r15 r16
  have hc1 := HPR.out w1 hb1
  go_wp2_with fail
  refine hc1.mono ?_
  rintro e w2 ⟨rfl, hx2⟩
  have hb2 : Below W0.heap.size W0 w2 := below_next hb1 hx2
  clear hc1 r10 r11 r12 r13 r14 r15 r16
  obtain ⟨r20, r21, r22, r23, r24, r25, r26⟩ := HR.out w2 hb2
  simp only [Nat.zero_add] at r20 r21 r22 r23 r24 r25 r26
  have hc2 := HF2.out w2 hb2
  go_wp2_with fail
  refine hc2.mono ?_
  rintro e w3 ⟨rfl, hx3⟩
  have hb3 : Below W0.heap.size W0 w3 := below_next hb2 hx3
  clear hc2 r20 r21 r22 r23 r24 r25 r26
  obtain ⟨r30, r31, r32, r33, r34, r35, r36⟩ := HR.out w3 hb3
  simp only [Nat.zero_add] at r30 r31 r32 r33 r34 r35 r36
  have hc3 := HF1.out w3 hb3
  go_wp2_with fail
  refine hc3.mono ?_
  rintro e w4 ⟨rfl, hx4⟩
  have hb4 : Below W0.heap.size W0 w4 := below_next hb3 hx4
  clear hc3 r30 r31 r32 r33 r34 r35 r36
  obtain ⟨r40, r41, r42, r43, r44, r45, r46⟩ := HR.out w4 hb4
  simp only [Nat.zero_add] at r40 r41 r42 r43 r44 r45 r46
  have hc4 := HAT.out w4 hb4
  go_wp2_with fail
  refine hc4.mono ?_
  rintro e w5 ⟨⟨pa, pc, rfl, hpa⟩, hx5⟩
  have hb5 : Below W0.heap.size W0 w5 := below_next hb4 hx5
  clear hc4 r40 r41 r42 r43 r44 r45 r46
  have hBz : Below w5.heap.size w5 (w5.alloc (Obj.cells #[.int .i64 1] 3)) := (Below.refl _ _).alloc (Nat.le_refl _) _
  have hin := ints_any [1] [1] pa (some ⟨w5.heap.size, 0, none⟩) pc 1 (w5.alloc (Obj.cells #[.int .i64 1] 3)) (hpa.next hBz) (fun i x hx => ⟨w5.heap.size, 0, rfl, by simp, by
    match i, hx with
    | 0, hx => simp at hx; subst hx; simp⟩) (by decide) (by decide)
  simp only [List.length_cons, List.length_nil] at hin
  go_wp2_with fail
  refine hin.mono ?_
  rintro e w6 ⟨rfl, hx6⟩
  have hb6 : Below W0.heap.size W0 w6 := below_next (below_next hb5 hBz) hx6
  clear hin hpa
  obtain ⟨r60, r61, r62, r63, r64, r65, r66⟩ := HR.out w6 hb6
  simp only [Nat.zero_add] at r60 r61 r62 r63 r64 r65 r66
  have hc6 := HWR.out w6 hb6
  go_wp2_with fail
  refine hc6.mono ?_
  rintro e w7 ⟨rfl, hx7⟩
  have hb7 : Below W0.heap.size W0 w7 := below_next hb6 hx7
  clear hc6 r60 r61 r62 r63 r64 r65 r66
  go_wp2_with fail
  go_ret
  exact ⟨rfl, below_next hB0 hb7⟩
end Go.Proofs.Ythmpnhjlblcgdaa
