/- The document's Wrong. -/
import Derived.Test.YthmpnhjlblcgdaaPWrong
import Derived.Test.YthmpnhjlblcgdaaFitMath
namespace Go.Proofs.Ythmpnhjlblcgdaa
open Go.RowKit

theorem wrongB_mk (t : Nd) : wrongB t = (badN t || t.kids.any wrongB) := by
  have e : ∀ t, wrongB t = ((preN t 1).map (·.1)).any badN := fun t => by unfold wrongB; rw [List.any_map]; rfl
  rw [e, preN_mk, List.map_cons, preL_fst, List.any_cons, List.any_flatMap]
  congr 1
  induction t.kids with
  | nil => rfl
  | cons k l ih => simp only [List.any_cons, ih, e]
set_option maxRecDepth 100000 in
set_option maxHeartbeats 2000000 in
theorem rwrong_any {A : Nat → Prop} : ∀ (n : Nat) (t : Nd) (v : Value) (w : World), TAt A n t v w →
    Calls Try.prog 23 #[v] w fun e w' => e = .returned (.bool (wrongB t)) ∧ Below w.heap.size w w'
  | 0, _, _, _, h => h.elim
  | n + 1, t, v, w, h => by
    obtain ⟨ba, bc, rfl, hok, _, _, hlb, hsubs0⟩ := h
    have hsubs : KidsAt A n t.kids ba w := hsubs0
    clear hsubs0
    have ih := rwrong_any (A := A) n
    rw [wrongB_mk]
    have HBD : Hid (badN t = (t.h.bad != 0)) := rfl
    generalize badN t = BD at *
    generalize t.kids = subs at *
    generalize t.h = hd at *
    obtain ⟨hk, hn, hf, hfr, hto, hbd⟩ := hd
    simp only at HBD
    unfold ndV
    have hB0 : Below w.heap.size w (w.alloc (Obj.cells #[Value.string hk, Value.bool hn, Value.string hf, Value.int IntKind.i64 hfr, Value.int IntKind.i64 hto, Value.int IntKind.i64 hbd, Value.slice ba subs.length bc] 24)) := (Below.refl _ _).alloc (Nat.le_refl _) _
    go_enter Try.func23, Try.ntmps23
    by_cases hb0 : hbd = 0
    case neg =>
      have HT : Hid (BD = true) := by show _ = _; rw [HBD.out]; simp [hb0]
      clear ih hsubs HBD
      go_wp2
      go_ret
      exact ⟨by rw [HT.out]; rfl, hB0⟩
    have HT : Hid (BD = false) := by show _ = _; rw [HBD.out]; simp [hb0]
    clear HBD
    subst hb0
    go_wp2
    have hc2 : (w.alloc (Obj.cells #[Value.string hk, Value.bool hn, Value.string hf, Value.int IntKind.i64 hfr, Value.int IntKind.i64 hto, Value.int IntKind.i64 0, Value.slice ba subs.length bc] 24)).cell? ⟨w.heap.size, 6, none⟩ = some (.slice ba subs.length bc) := by simp
    have hz : (w.alloc (Obj.cells #[Value.string hk, Value.bool hn, Value.string hf, Value.int IntKind.i64 hfr, Value.int IntKind.i64 hto, Value.int IntKind.i64 0, Value.slice ba subs.length bc] 24)).heap.size = w.heap.size + 1 := by simp
    generalize w.alloc (Obj.cells #[Value.string hk, Value.bool hn, Value.string hf, Value.int IntKind.i64 hfr, Value.int IntKind.i64 hto, Value.int IntKind.i64 0, Value.slice ba subs.length bc] 24) = W0 at *
    have hs0 : KidsAt A n subs ba W0 := hsubs.next hB0
    clear hsubs
    go_loopw [3] (fun c wr => ∃ (j : Nat), c = .int .i64 j ∧ j ≤ subs.length ∧ Below W0.heap.size W0 wr ∧ Hid ((subs.take j).any wrongB = false)) (fun c _ => subs.length - (intOf c).toNat)
    case atStart => exact ⟨0, rfl, Nat.zero_le _, Below.refl _ _, by show _ = _; simp⟩
    case round =>
      obtain ⟨j, rfl, hj, hB, HF⟩ := hrel
      have d2 := (hB.cell (p := ⟨w.heap.size, 6, none⟩) (by rw [hz]; exact Nat.lt_succ_self _)).trans hc2
      have hBw : Below w.heap.size w wr := hB0.trans (hB.mono (by rw [hz]; exact Nat.le_succ _))
      by_cases hlt : j < subs.length
      · have k1 : (j : Int) < subs.length := by omega
        obtain ⟨b, off, ka, kc, rfl, _, hb, ⟨e0, e1, e2, e3, e4, e5, e6⟩, hT⟩ := hs0.at hB hlt
        have hrec := ih _ _ wr hT
        have HF2 : Hid (wrongB subs[j] = false → (subs.take (j + 1)).any wrongB = false) := fun h => by rw [List.take_succ_eq_append_getElem hlt, List.any_append, HF.out]; simp [h]
        have HF3 : Hid (wrongB subs[j] = true → subs.any wrongB = true) := fun h => List.any_eq_true.2 ⟨_, List.getElem_mem hlt, h⟩
        generalize wrongB subs[j] = wb at *
        generalize subs[j].h = sh at *
        generalize subs[j].kids = sk at *
        obtain ⟨gk, gn, gf, gfr, gto, gbd⟩ := sh
        unfold ndV at hrec
        simp only at *
        clear HF hs0 hT ih
        cases wb with
        | true =>
          go_wp2_with (go_at_call 23; refine hrec.mono ?_; rintro e w2 ⟨rfl, hb2⟩)
          go_ret
          exact ⟨by rw [HT.out, HF3.out trivial]; rfl, below_next hBw hb2⟩
        | false =>
          go_wp2_with (go_at_call 23; refine hrec.mono ?_; rintro e w2 ⟨rfl, hb2⟩)
          exact ⟨⟨j + 1, by go_num, by omega, below_next hB hb2, HF2.out trivial⟩, by simp [intOf]; omega⟩
      · have HX : Hid (subs.any wrongB = false) := by
          show _ = _
          have := HF.out
          rwa [List.take_of_length_le (by omega)] at this
        have k1 : ¬ (j : Int) < subs.length := by omega
        clear HF hs0 ih
        go_wp2
        go_ret
        exact ⟨by rw [HT.out, HX.out]; rfl, hBw⟩
end Go.Proofs.Ythmpnhjlblcgdaa
