/- tooFar: the first Z that is no place of the program. -/
import Derived.Test.YtggehnnbgeffpaaDoorTake2
namespace Go.Proofs.YtggehnnbgeffpaaDoor
open Go.Shelf Go.RowKit Go.Lib Go.Proofs

theorem flat_get : ∀ (rs : List Ins) (i c : Nat), c < 4 → (rs.flatMap encI)[i * 4 + c]? = rs[i]?.bind fun r => (encI r)[c]?
  | [], i, c, _ => by simp
  | r :: t, 0, c, hc => by
    rw [List.flatMap_cons, List.getElem?_append_left (by simp [encI]; omega)]
    simp
  | r :: t, i + 1, c, hc => by
    rw [List.flatMap_cons, List.getElem?_append_right (by simp [encI]; omega)]
    have : (i + 1) * 4 + c - (encI r).length = i * 4 + c := by simp [encI]; omega
    rw [this, flat_get t i c hc]
    simp
theorem own_insAt {W : World} {n0 : Nat} {v : Value} {p : List Ins} (h : W.ownsRow n0 39 4 v p.length (p.flatMap encI)) : ∃ ao cap, v = .slice ao p.length cap ∧ InsAt p ao W := by
  rcases h.2 with ⟨rfl, h0⟩ | ⟨g, cap, cur, rfl, hg0, hg1, hg2, _⟩
  · exact ⟨none, 0, by rw [h0], by rw [List.length_eq_zero_iff.1 h0]; exact InsAt.nil _ _⟩
  · refine ⟨some ⟨g, 0, none⟩, cap, rfl, fun i r hr => ⟨g, 0, rfl, (Array.getElem?_eq_some_iff.1 hg1).1, ?_⟩⟩
    have key : ∀ c u, c < 4 → (encI r)[c]? = some u → W.cell? ⟨g, 0 + i * 4 + c, none⟩ = some u := fun c u hc hu => by
      have := h.cells (g := g) rfl (i * 4 + c) u (by rw [flat_get p i c hc, hr]; exact hu)
      have hadd : (⟨g, 0, none⟩ : Addr).add (i * 4 + c) = ⟨g, 0 + i * 4 + c, none⟩ := by unfold Addr.add; split <;> simp_all
      rw [hadd] at this
      exact this
    exact ⟨key 0 _ (by decide) rfl, key 1 _ (by decide) rfl, key 2 _ (by decide) rfl, key 3 _ (by decide) rfl⟩

def farN (p : List Ins) (n : Nat) : Option Nat := p.findIdx? fun i => decide ((n : Int) < i.z)
def tooFarV (r : Rd) : Value := match farN r.prog r.prog.length with
  | some i => .tuple #[.int .i64 (r.last.getD i 0), .bool true]
  | none => .tuple #[.int .i64 0, .bool false]

set_option maxRecDepth 100000 in
set_option maxHeartbeats 4000000 in
theorem tooFar_any (n0 B : Nat) (r : Rd) (W : World) (hR : RAt n0 B r W) :
    Calls Tryd.prog 21 #[.pointer (some ⟨B, 0, none⟩)] W fun e w' => e = .returned (tooFarV r) ∧ Below W.heap.size W w' := by
  obtain ⟨vp, vl, vw, hB, hp, hl, _⟩ := hR.ex
  obtain ⟨ao, cap, rfl, hc⟩ := own_insAt hp
  have hle := hR.le
  have hlen := hR.len
  have hltB := (Array.getElem?_eq_some_iff.1 hB).1
  have c0 : W.cell? ⟨B, 0, none⟩ = some (.slice ao r.prog.length cap) := by rw [cell_of_obj hB]; rfl
  have c1 : W.cell? ⟨B, 1, none⟩ = some vl := by rw [cell_of_obj hB]; rfl
  go_enter Tryd.func21, Tryd.ntmps21
  go_wp2
  go_loopw [11] (fun c wr => ∃ j : Nat, c = .int .i64 j ∧ j ≤ r.prog.length ∧ Below W.heap.size W wr ∧ Hid (∀ k, k < j → ∀ i, r.prog[k]? = some i → ¬ (r.prog.length : Int) < i.z)) (fun c _ => r.prog.length - (intOf c).toNat)
  case atStart => exact ⟨0, rfl, Nat.zero_le _, Below.refl _ _, fun k hk => absurd hk (Nat.not_lt_zero _)⟩
  case round =>
    obtain ⟨j, rfl, hj, B1, HA⟩ := hrel
    have d0 := (B1.cell (p := ⟨B, 0, none⟩) hltB).trans c0
    have d1 := (B1.cell (p := ⟨B, 1, none⟩) hltB).trans c1
    have hBr : B < wr.heap.size := Nat.lt_of_lt_of_le hltB B1.size
    by_cases hlt : j < r.prog.length
    · obtain ⟨b, off, rfl, hb, e0, e1, e2, e3⟩ := hc.at B1 hlt
      have hbr : b < wr.heap.size := Nat.lt_of_lt_of_le hb B1.size
      have k1 : (j : Int) < r.prog.length := by omega
      have hr : r.prog[j]? = some r.prog[j] := by simp [hlt]
      by_cases hz : (r.prog.length : Int) < r.prog[j].z
      · have HV : Hid (tooFarV r = .tuple #[.int .i64 (r.last.getD j 0), .bool true]) := by
          show _ = _
          have : farN r.prog r.prog.length = some j := by
            unfold farN
            rw [List.findIdx?_eq_some_iff_getElem]
            refine ⟨hlt, by simpa using hz, fun k hk => ?_⟩
            simpa using HA.out k hk r.prog[k] (by simp [show k < r.prog.length by omega])
          unfold tooFarV
          rw [this]
        have hjl : j < r.last.length := by omega
        obtain ⟨lg, lc, hvl, hlc⟩ : ∃ lg lc, vl = .slice (some ⟨lg, 0, none⟩) r.last.length lc ∧ wr.cell? ⟨lg, j, none⟩ = some (.int .i64 (r.last.getD j 0)) := by
          rcases hl.2 with ⟨_, h0⟩ | ⟨lg, lc, cur, rfl, hg0, hg1, hg2, _⟩
          · omega
          · refine ⟨lg, lc, rfl, ?_⟩
            have := hl.cells (g := lg) rfl j (.int .i64 (r.last.getD j 0)) (by simp [hjl])
            have hadd : (⟨lg, 0, none⟩ : Addr).add j = ⟨lg, j, none⟩ := by unfold Addr.add; split <;> simp_all
            rw [hadd] at this
            exact (B1.cell (p := ⟨lg, j, none⟩) (Array.getElem?_eq_some_iff.1 hg1).1).trans this
        subst hvl
        have hlgr : lg < wr.heap.size := World.block_lt_of_cell? wr _ hlc
        have hzd : decide ((r.prog.length : Int) < r.prog[j].z) = true := by simpa using hz
        rw [hlen] at d1
        generalize r.last.getD j 0 = lv at *
        generalize r.prog[j] = i at *
        generalize r.prog.length = n at *
        obtain ⟨o, x, y, z⟩ := i
        simp only at e0 e1 e2 e3 hz hzd
        clear HA hR hp hl hc hr
        go_wp2_with fail
        go_quiet (fail)
        go_wp2_with fail
        refine bodyPost_ret (v := .tuple #[.int .i64 lv, .bool true]) (by simp [results, Tryd.f21, go_sem]) rfl ⟨?_, below_drewN (B1.alloc B1.size _) _⟩
        rw [HV.out]
      · have HA2 : Hid (∀ k, k < j + 1 → ∀ i, r.prog[k]? = some i → ¬ (r.prog.length : Int) < i.z) := fun k hk i hi => by
          by_cases e : k = j
          · subst e
            rw [hr] at hi
            cases hi
            exact hz
          · exact HA.out k (by omega) i hi
        have hzd : decide ((r.prog.length : Int) < r.prog[j].z) = false := by simpa using hz
        generalize r.prog[j] = i at *
        obtain ⟨o, x, y, z⟩ := i
        simp only at e0 e1 e2 e3 hz hzd
        clear HA hR hp hl hc hr
        go_wp2_with fail
        go_quiet (fail)
        go_wp2_with fail
        exact ⟨⟨j + 1, by go_num, by omega, below_drewN (B1.alloc B1.size _) _, (show Hid _ from fun k hk i hi => Int.not_lt.2 (HA2.out k hk i hi))⟩, by simp [intOf]; omega⟩
    · have HV : Hid (tooFarV r = .tuple #[.int .i64 0, .bool false]) := by
        show _ = _
        have : farN r.prog r.prog.length = none := by
          unfold farN
          rw [List.findIdx?_eq_none_iff]
          intro i hi
          obtain ⟨k, hk, rfl⟩ := List.mem_iff_getElem.1 hi
          simpa using HA.out k (by omega) r.prog[k] (by simp [hk])
        unfold tooFarV
        rw [this]
      have k1 : ¬ (j : Int) < r.prog.length := by omega
      clear HA hR hp hl hc
      go_wp2_with fail
      refine bodyPost_ret (v := .tuple #[.int .i64 0, .bool false]) (by simp [results, Tryd.f21, go_sem]) rfl ⟨?_, B1⟩
      rw [HV.out]
end Go.Proofs.YtggehnnbgeffpaaDoor
