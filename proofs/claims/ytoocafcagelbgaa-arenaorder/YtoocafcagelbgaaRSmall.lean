/- The document's Small, Light. -/
import Derived.Test.YtoocafcagelbgaaNTree
namespace Go.Proofs.Ytoocafcagelbgaa
open Go.RowKit

def smallV (c : Nat) (left : Int) : Int := if (c : Int) ≤ left then left - c else -1
theorem smallV_le (c : Nat) (left : Int) (h : 0 ≤ left) : smallV c left ≤ left ∧ -1 ≤ smallV c left := by unfold smallV; split <;> omega
theorem smallV_two {c d : Nat} {left : Int} (h : 0 ≤ smallV c left) (_ : 0 ≤ left) : smallV d (smallV c left) = smallV (c + d) left := by
  unfold smallV at *
  by_cases hc : (c : Int) ≤ left
  · rw [if_pos hc] at *
    by_cases hd : (d : Int) ≤ left - c
    · rw [if_pos hd, if_pos (by omega)]; omega
    · rw [if_neg hd, if_neg (by omega)]
  · rw [if_neg hc] at h; omega
theorem smallV_neg {c d : Nat} {left : Int} (h : ¬ 0 ≤ smallV c left) (hc : c ≤ d) (_ : 0 ≤ left) : smallV c left = smallV d left := by
  unfold smallV at *
  by_cases h1 : (c : Int) ≤ left
  · rw [if_pos h1] at h; omega
  · rw [if_neg h1, if_neg (by omega)]

set_option maxRecDepth 100000 in
set_option maxHeartbeats 4000000 in
theorem small_any {A : Nat → Prop} : ∀ (n : Nat) (t : Nd) (v : Value) (left : Int) (w : World), TAt A n t v w → 0 ≤ left → left ≤ 100000 →
    Calls Try.prog 23 #[v, .int .i64 left] w fun e w' => e = .returned (.int .i64 (smallV (cntN t) left)) ∧ Below w.heap.size w w'
  | 0, _, _, _, _, h, _, _ => h.elim
  | n + 1, t, v, left, w, h, h0, h1 => by
    obtain ⟨ba, bc, rfl, hok, _, _, hlb, hsubs0⟩ := h
    have hsubs : KidsAt A n t.kids ba w := hsubs0
    clear hsubs0
    have ih := small_any (A := A) n
    rw [cntN_mk]
    have hx : IntKind.i64.wrap (left - 1) = left - 1 := IntWalk.i64_in _ (by omega)
    have hs1 : smallV 1 left = left - 1 := by unfold smallV; split <;> omega
    generalize t.kids = subs at *
    generalize t.h = hd at *
    obtain ⟨hk, hn, hf, hfr, hto, hbd⟩ := hd
    unfold ndV
    go_enter Try.func23, Try.ntmps23
    go_wp2
    have hB0 : Below w.heap.size w (w.alloc (Obj.cells #[Value.string hk, Value.bool hn, Value.string hf, Value.int IntKind.i64 hfr, Value.int IntKind.i64 hto, Value.int IntKind.i64 hbd, Value.slice ba subs.length bc] 32)) := (Below.refl _ _).alloc (Nat.le_refl _) _
    have hc2 : (w.alloc (Obj.cells #[Value.string hk, Value.bool hn, Value.string hf, Value.int IntKind.i64 hfr, Value.int IntKind.i64 hto, Value.int IntKind.i64 hbd, Value.slice ba subs.length bc] 32)).cell? ⟨w.heap.size, 6, none⟩ = some (.slice ba subs.length bc) := by simp
    have hz : (w.alloc (Obj.cells #[Value.string hk, Value.bool hn, Value.string hf, Value.int IntKind.i64 hfr, Value.int IntKind.i64 hto, Value.int IntKind.i64 hbd, Value.slice ba subs.length bc] 32)).heap.size = w.heap.size + 1 := by simp
    generalize w.alloc (Obj.cells #[Value.string hk, Value.bool hn, Value.string hf, Value.int IntKind.i64 hfr, Value.int IntKind.i64 hto, Value.int IntKind.i64 hbd, Value.slice ba subs.length bc] 32) = W0 at *
    have hs0 : KidsAt A n subs ba W0 := hsubs.next hB0
    clear hsubs
    go_loopw [1, 5] (fun l c wr => ∃ (j : Nat) (lf : Int), c = .int .i64 j ∧ l = .int .i64 lf ∧ j ≤ subs.length ∧ Below W0.heap.size W0 wr ∧ lf ≤ left ∧ -1 ≤ lf ∧ Hid (lf = smallV (cntL (subs.take j) + 1) left)) (fun _ c _ => subs.length - (intOf c).toNat)
    case atStart => exact ⟨0, left - 1, rfl, rfl, Nat.zero_le _, Below.refl _ _, by omega, by omega, by show _ = _; simp [cntL, hs1]⟩
    case round =>
      obtain ⟨j, lf, rfl, rfl, hj, hB, hl1, hl2, HF⟩ := hrel
      have d2 := (hB.cell (p := ⟨w.heap.size, 6, none⟩) (by rw [hz]; exact Nat.lt_succ_self _)).trans hc2
      have hBw : Below w.heap.size w wr := hB0.trans (hB.mono (by rw [hz]; exact Nat.le_succ _))
      by_cases hlt : j < subs.length
      · have k1 : (j : Int) < subs.length := by omega
        by_cases hneg : 0 ≤ lf
        · obtain ⟨b, off, ka, kc, rfl, _, hb, ⟨e0, e1, e2, e3, e4, e5, e6⟩, hT⟩ := hs0.at hB hlt
          have hrec := ih _ _ lf wr hT hneg (by omega)
          have HF2 : Hid (smallV (cntN subs[j]) lf = smallV (cntL (subs.take (j + 1)) + 1) left) := by
            show _ = _
            rw [HF.out] at hneg
            rw [HF.out, smallV_two hneg h0, cntL_take hlt]
            congr 1; omega
          have hle := smallV_le (cntN subs[j]) lf hneg
          generalize smallV (cntN subs[j]) lf = nl at *
          generalize subs[j].h = sh at *
          generalize subs[j].kids = sk at *
          obtain ⟨gk, gn, gf, gfr, gto, gbd⟩ := sh
          unfold ndV at hrec
          simp only at *
          clear HF hs0 hT ih
          go_wp2_with (go_at_call 23; refine hrec.mono ?_; rintro e w2 ⟨rfl, hb2⟩)
          exact ⟨⟨j + 1, nl, by go_num, rfl, by omega, below_next hB hb2, by omega, by omega, HF2⟩, by simp [intOf]; omega⟩
        · have hx : lf = smallV (cntL subs + 1) left := by
            rw [HF.out] at hneg
            rw [HF.out]
            exact smallV_neg hneg (by have := cntL_le subs j; omega) h0
          clear HF hs0 ih
          go_wp2
          go_ret
          exact ⟨rfl, hBw⟩
      · have hx : lf = smallV (cntL subs + 1) left := by
          rw [HF.out, List.take_of_length_le (by omega)]
        have k1 : ¬ (j : Int) < subs.length := by omega
        clear HF hs0 ih
        go_wp2
        go_ret
        exact ⟨rfl, hBw⟩
/-- A tree of few nodes. -/
def lightB (t : Nd) : Bool := decide (cntN t ≤ 5000)
end Go.Proofs.Ytoocafcagelbgaa
