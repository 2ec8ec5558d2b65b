/- left, ends: of trees that are not too large. -/
import Derived.Test.YtoocafcagelbgaaABase
namespace Go.Proofs.Ytoocafcagelbgaa
open Go.RowKit

set_option maxRecDepth 100000 in
set_option maxHeartbeats 4000000 in
theorem left_any {A : Nat → Prop} : ∀ (n : Nat) (t : Nd) (v : Value) (nodes deep : Nat) (w : World), TAt A n t v w → cntN t ≤ nodes → cntN t ≤ deep → nodes ≤ 1048576 → deep ≤ 65536 →
    Calls Try.prog 63 #[v, .int .i64 nodes, .int .i64 deep] w fun e w' => e = .returned (.int .i64 ((nodes - cntN t : Nat) : Int)) ∧ Below w.heap.size w w'
  | 0, _, _, _, _, _, h, _, _, _, _ => h.elim
  | n + 1, t, v, nodes, deep, w, h, h0, h1, h2, h3 => by
    obtain ⟨ba, bc, rfl, hok, _, _, hlb, hsubs0⟩ := h
    have hsubs : KidsAt A n t.kids ba w := hsubs0
    clear hsubs0
    have ih := left_any (A := A) n
    rw [cntN_mk] at h0 h1
    have HCM : Hid (cntN t = cntL t.kids + 1) := cntN_mk t
    generalize t.kids = subs at *
    generalize t.h = hd at *
    obtain ⟨hk, hn, hf, hfr, hto, hbd⟩ := hd
    unfold ndV
    obtain ⟨nd1, hnd⟩ : ∃ nd1 : Nat, nodes = nd1 + 1 := ⟨nodes - 1, by omega⟩
    obtain ⟨dp1, hdp⟩ : ∃ dp1 : Nat, deep = dp1 + 1 := ⟨deep - 1, by omega⟩
    subst hnd
    subst hdp
    have hw1 : IntKind.i64.wrap (((nd1 + 1 : Nat) : Int) - 1) = (nd1 : Int) := by rw [IntWalk.i64_in _ (by omega)]; omega
    have hw2 : IntKind.i64.wrap (((dp1 + 1 : Nat) : Int) - 1) = (dp1 : Int) := by rw [IntWalk.i64_in _ (by omega)]; omega
    have hw3 : wrap64 (((nd1 + 1 : Nat) : Int) - 1) = (nd1 : Int) := by unfold wrap64; omega
    have hw4 : wrap64 (((dp1 + 1 : Nat) : Int) - 1) = (dp1 : Int) := by unfold wrap64; omega
    have d0 : (((dp1 + 1 : Nat) : Int) == 0) = false := by simp; omega
    obtain ⟨DP, hDP⟩ : ∃ DP : Int, ((dp1 + 1 : Nat) : Int) = DP := ⟨_, rfl⟩
    obtain ⟨NP, hNP⟩ : ∃ NP : Int, ((nd1 + 1 : Nat) : Int) = NP := ⟨_, rfl⟩
    rw [hDP] at hw2 hw4 d0 ⊢
    rw [hNP] at hw1 hw3 ⊢
    have HW : Hid (IntKind.i64.wrap (NP - 1) = (nd1 : Int) ∧ IntKind.i64.wrap (DP - 1) = (dp1 : Int)) := ⟨hw1, hw2⟩
    have HW3 : Hid (wrap64 (NP - 1) = (nd1 : Int)) := hw3
    clear hw1 hw2 hw4 hDP hNP
    go_enter Try.func63, Try.ntmps63
    go_wp2_with fail
    have hB0 : Below w.heap.size w (w.alloc (Obj.cells #[Value.string hk, Value.bool hn, Value.string hf, Value.int IntKind.i64 hfr, Value.int IntKind.i64 hto, Value.int IntKind.i64 hbd, Value.slice ba subs.length bc] 32)) := (Below.refl _ _).alloc (Nat.le_refl _) _
    have hz : (w.alloc (Obj.cells #[Value.string hk, Value.bool hn, Value.string hf, Value.int IntKind.i64 hfr, Value.int IntKind.i64 hto, Value.int IntKind.i64 hbd, Value.slice ba subs.length bc] 32)).heap.size = w.heap.size + 1 := by simp
    generalize w.alloc (Obj.cells #[Value.string hk, Value.bool hn, Value.string hf, Value.int IntKind.i64 hfr, Value.int IntKind.i64 hto, Value.int IntKind.i64 hbd, Value.slice ba subs.length bc] 32) = W0 at *
    have hs0 : KidsAt A n subs ba W0 := hsubs.next hB0
    clear hsubs hw3 d0
    go_loopw [1, 16] (fun l c wr => ∃ (j : Nat), c = .int .i64 j ∧ l = .int .i64 ((nd1 - cntL (subs.take j) : Nat) : Int) ∧ j ≤ subs.length ∧ Below W0.heap.size W0 wr) (fun _ c _ => subs.length - (intOf c).toNat)
    case atStart => exact ⟨0, rfl, by rw [HW3.out]; simp [cntL], Nat.zero_le _, Below.refl _ _⟩
    case round =>
      obtain ⟨j, rfl, rfl, hj, hB⟩ := hrel
      have hBw : Below w.heap.size w wr := below_next hB0 hB
      by_cases hlt : j < subs.length
      · have k1 : (j : Int) < subs.length := by omega
        obtain ⟨b, off, ka, kc, rfl, _, hb, ⟨e0, e1, e2, e3, e4, e5, e6⟩, hT⟩ := hs0.at hB hlt
        have hct := cntL_take hlt
        have hcl := cntL_le subs (j + 1)
        have hcp := cntN_pos subs[j]
        have hrec := fun W (hb' : Below wr.heap.size wr W) => ih _ _ (nd1 - cntL (subs.take j)) dp1 W (hT.next hb') (by omega) (by omega) (by omega) (by omega)
        obtain ⟨cj, hcj⟩ : ∃ cj : Nat, nd1 - cntL (subs.take j) = cj := ⟨_, rfl⟩
        have HF2 : Hid (nd1 - cntL (subs.take j) - cntN subs[j] = nd1 - cntL (subs.take (j + 1))) := by show _ = _; omega
        rw [hcj] at hrec HF2
        have d2 : decide ((cj : Int) < 0) = false := decide_eq_false (by omega)
        have d3 : ¬ ((cj : Int) < 0) := by omega
        have HSL : Hid (nd1 - cntL (subs.take j) = cj) := hcj
        rw [hcj]
        generalize hnl : cj - cntN subs[j] = nl at *
        generalize subs[j].h = sh at *
        generalize subs[j].kids = sk at *
        obtain ⟨gk, gn, gf, gfr, gto, gbd⟩ := sh
        unfold ndV at hrec
        simp only at *
        have hBk : Below wr.heap.size wr (wr.alloc (Obj.cells #[Value.string gk, Value.bool gn, Value.string gf, Value.int IntKind.i64 gfr, Value.int IntKind.i64 gto, Value.int IntKind.i64 gbd, Value.slice ka sk.length kc] 32)) := (Below.refl _ _).alloc (Nat.le_refl _) _
        have hrec1 := hrec _ hBk
        have hw2 := HW.out.2
        clear hs0 hT ih hrec hcj hnl hct hcl hcp h0 h1 h2
        go_wp2_with fail
        refine hrec1.mono ?_
        rintro e w2 ⟨rfl, hb2⟩
        have HB2 : Hid (Below W0.heap.size W0 w2) := below_next (below_next hB hBk) hb2
        clear hrec1 hb2 e0 e1 e2 e3 e4 e5 e6 hw2
        go_wp2_with fail
        exact ⟨⟨j + 1, by go_num, by rw [HF2.out], by omega, HB2.out⟩, by simp [intOf]; omega⟩
      · have hx : Hid (nd1 - cntL (subs.take j) = nd1 + 1 - cntN t) := by
          show _ = _
          rw [HCM.out, List.take_of_length_le (by omega)]; omega
        have k1 : ¬ (j : Int) < subs.length := by omega
        clear hs0 ih
        go_wp2_with fail
        go_ret
        exact ⟨by rw [hx.out]; rfl, hBw⟩
set_option maxHeartbeats 1000000 in
theorem ends_any {A : Nat → Prop} (n : Nat) (t : Nd) (v : Value) (w : World) (h : TAt A n t v w) (hc : cntN t ≤ 65536) :
    Calls Try.prog 46 #[v] w fun e w' => e = .returned (.bool true) ∧ Below w.heap.size w w' := by
  have hs := fun W (hb : Below w.heap.size w W) => left_any n t v 1048576 65536 W (h.next hb) (by omega) (by omega) (by omega) (by omega)
  obtain ⟨ba, bc, rfl, _⟩ := h.val
  clear h
  obtain ⟨k, hk⟩ : ∃ k : Nat, 1048576 - cntN t = k := ⟨_, rfl⟩
  rw [hk] at hs
  have d0 : decide ((k : Int) ≥ 0) = true := decide_eq_true (by omega)
  generalize t.kids.length = kl at *
  generalize t.h = hd at *
  obtain ⟨hk, hn, hf, hfr, hto, hbd⟩ := hd
  unfold ndV at *
  simp only at *
  have hB0 : Below w.heap.size w (w.alloc (Obj.cells #[Value.string hk, Value.bool hn, Value.string hf, Value.int IntKind.i64 hfr, Value.int IntKind.i64 hto, Value.int IntKind.i64 hbd, Value.slice ba kl bc] 32)) := (Below.refl _ _).alloc (Nat.le_refl _) _
  have hs1 := hs _ hB0
  clear hs
  go_enter Try.func46, Try.ntmps46
  go_wp2_with fail
  refine hs1.mono ?_
  rintro e w2 ⟨rfl, hb2⟩
  clear hs1
  go_wp2_with fail
  go_ret
  exact ⟨rfl, below_next hB0 hb2⟩
end Go.Proofs.Ytoocafcagelbgaa
