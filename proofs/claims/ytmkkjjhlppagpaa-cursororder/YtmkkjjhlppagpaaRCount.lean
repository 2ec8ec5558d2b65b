/- The document's Count. -/
import Derived.Test.YtmkkjjhlppagpaaCBase
namespace Go.Proofs.Ytmkkjjhlppagpaa
open Go.RowKit

set_option maxRecDepth 100000 in
set_option maxHeartbeats 2000000 in
theorem rcount_any {A : Nat → Prop} : ∀ (n : Nat) (t : Nd) (v : Value) (w : World), TAt A n t v w → cntN t ≤ 5000 →
    Calls Try.prog 27 #[v] w fun e w' => e = .returned (.tuple #[.int .i64 (cntN t), .int .i64 (deepR t)]) ∧ Below w.heap.size w w'
  | 0, _, _, _, h, _ => h.elim
  | n + 1, t, v, w, h, hc => by
    obtain ⟨ba, bc, rfl, hok, _, _, hlb, hsubs0⟩ := h
    have hsubs : KidsAt A n t.kids ba w := hsubs0
    clear hsubs0
    have ih := rcount_any (A := A) n
    have HC : Hid (cntN t = cntL t.kids + 1 ∧ deepR t = deepRL t.kids + 1 ∧ cntN t ≤ 5000) := ⟨cntN_mk t, deepR_mk t, hc⟩
    generalize cntN t = cn at *
    generalize deepR t = dn at *
    clear hc
    generalize t.kids = subs at *
    generalize t.h = hd at *
    obtain ⟨hk, hn, hf, hfr, hto, hbd⟩ := hd
    unfold ndV
    go_enter Try.func27, Try.ntmps27
    go_wp2
    have hB0 : Below w.heap.size w (w.alloc (Obj.cells #[Value.string hk, Value.bool hn, Value.string hf, Value.int IntKind.i64 hfr, Value.int IntKind.i64 hto, Value.int IntKind.i64 hbd, Value.slice ba subs.length bc] 24)) := (Below.refl _ _).alloc (Nat.le_refl _) _
    have hc2 : (w.alloc (Obj.cells #[Value.string hk, Value.bool hn, Value.string hf, Value.int IntKind.i64 hfr, Value.int IntKind.i64 hto, Value.int IntKind.i64 hbd, Value.slice ba subs.length bc] 24)).cell? ⟨w.heap.size, 6, none⟩ = some (.slice ba subs.length bc) := by simp
    have hz : (w.alloc (Obj.cells #[Value.string hk, Value.bool hn, Value.string hf, Value.int IntKind.i64 hfr, Value.int IntKind.i64 hto, Value.int IntKind.i64 hbd, Value.slice ba subs.length bc] 24)).heap.size = w.heap.size + 1 := by simp
    generalize w.alloc (Obj.cells #[Value.string hk, Value.bool hn, Value.string hf, Value.int IntKind.i64 hfr, Value.int IntKind.i64 hto, Value.int IntKind.i64 hbd, Value.slice ba subs.length bc] 24) = W0 at *
    have hs0 : KidsAt A n subs ba W0 := hsubs.next hB0
    clear hsubs
    go_loopw [4, 5, 6] (fun a d c wr => ∃ (j : Nat) (ac dc : Int), c = .int .i64 j ∧ a = .int .i64 ac ∧ d = .int .i64 dc ∧ j ≤ subs.length ∧ Below W0.heap.size W0 wr ∧ 0 ≤ ac ∧ ac ≤ 5000 ∧ 0 ≤ dc ∧ dc ≤ 5000 ∧ Hid (ac = cntL (subs.take j) + 1 ∧ dc = deepRL (subs.take j))) (fun _ _ c _ => subs.length - (intOf c).toNat)
    case atStart => exact ⟨0, 1, 0, rfl, rfl, rfl, Nat.zero_le _, Below.refl _ _, by omega, by omega, by omega, by omega, by show _ ∧ _; simp [cntL, deepRL]⟩
    case round =>
      obtain ⟨j, ac, dc, rfl, rfl, rfl, hj, hB, ha0, ha1, hd0, hd1, HF⟩ := hrel
      have d2 := (hB.cell (p := ⟨w.heap.size, 6, none⟩) (by rw [hz]; exact Nat.lt_succ_self _)).trans hc2
      have hBw : Below w.heap.size w wr := hB0.trans (hB.mono (by rw [hz]; exact Nat.le_succ _))
      by_cases hlt : j < subs.length
      · have k1 : (j : Int) < subs.length := by omega
        obtain ⟨b, off, ka, kc, rfl, _, hb, ⟨e0, e1, e2, e3, e4, e5, e6⟩, hT⟩ := hs0.at hB hlt
        have hcj := cntL_at hlt
        have hrec := ih _ _ wr hT (by have := HC.out; omega)
        have HJ : Hid (cntL (subs.take (j + 1)) = cntL (subs.take j) + cntN subs[j] ∧ deepRL (subs.take (j + 1)) = max (deepRL (subs.take j)) (deepR subs[j]) ∧ cntL (subs.take (j + 1)) ≤ cntL subs ∧ 0 < deepR subs[j] ∧ deepR subs[j] ≤ cntN subs[j]) := ⟨cntL_take hlt, deepRL_take hlt, cntL_le subs (j + 1), by have := deepRL_pos subs[j].kids; have := deepR_mk subs[j]; omega, deepR_cnt _⟩
        obtain ⟨kn, hkn⟩ : ∃ kn : Int, (cntN subs[j] : Int) = kn := ⟨_, rfl⟩
        rw [hkn] at hrec
        have HN : Hid ((cntN subs[j] : Int) = kn) := hkn
        have hk1 : 0 ≤ kn ∧ kn ≤ 5000 ∧ ac + kn ≤ 5000 := by have := HC.out; have := HF.out; have := HJ.out; omega
        have hk2 : 0 ≤ deepR subs[j] ∧ deepR subs[j] ≤ 5000 := by have := HJ.out; omega
        clear hkn hcj
        generalize cntN subs[j] = kx at *
        generalize deepR subs[j] = kd at *
        generalize subs[j].h = sh at *
        generalize subs[j].kids = sk at *
        obtain ⟨gk, gn, gf, gfr, gto, gbd⟩ := sh
        unfold ndV at hrec
        simp only at hrec e0 e1 e2 e3 e4 e5 e6
        have HE : Hid (∀ m, m = max dc kd → ac + kn = cntL (subs.take (j + 1)) + 1 ∧ m = deepRL (subs.take (j + 1))) := fun m hm => by have := HF.out; have := HJ.out; have := HN.out; omega
        clear HF hs0 hT ih HJ HN HC
        have hw : IntKind.i64.wrap (ac + kn) = ac + kn := IntWalk.i64_in _ (by omega)
        go_wp2_with (go_at_call 27; refine hrec.mono ?_; rintro e w2 ⟨rfl, hb2⟩)
        all_goals exact ⟨⟨j + 1, _, _, by go_num, rfl, rfl, by omega, below_next hB hb2, by omega, by omega, by omega, by omega, HE.out _ (by omega)⟩, by simp [intOf]; omega⟩
      · have HX : Hid (ac = cn ∧ dc + 1 = dn) := by
          have h1 := HF.out
          have h2 := HC.out
          rw [List.take_of_length_le (by omega)] at h1
          exact ⟨by omega, by omega⟩
        have k1 : ¬ (j : Int) < subs.length := by omega
        have hw : IntKind.i64.wrap (dc + 1) = dc + 1 := IntWalk.i64_in _ (by omega)
        clear HF hs0 ih HC
        go_wp2
        refine bodyPost_ret (v := .tuple #[.int .i64 ac, .int .i64 (dc + 1)]) (by simp [results, Try.f27, go_sem]) rfl ⟨by rw [HX.out.1, HX.out.2], hBw⟩
end Go.Proofs.Ytmkkjjhlppagpaa
