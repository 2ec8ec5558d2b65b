/- The document's digits: a number in decimal. -/
import Derived.Test.YtggehnnbgeffpaaDoorWritten
import Derived.Deep.RegionWith
import Derived.Laws.IdiomStrings
import Derived.Lib.ItoaLen
namespace Go.Proofs.YtggehnnbgeffpaaDoor
open Go.Shelf Go.RowKit Go.Lib Go.Proofs

theorem dec_small {n : Nat} (h : n < 10) : Lib.decDigits n = [UInt8.ofNat (48 + n)] := by rw [Lib.decDigits, dif_pos h]
theorem dec_step {n : Nat} (h : ¬ n < 10) : Lib.decDigits n = Lib.decDigits (n / 10) ++ [UInt8.ofNat (48 + n % 10)] := by rw [Lib.decDigits, dif_neg h]
theorem ba_ext' {a b : ByteArray} (h : a.data.toList = b.data.toList) : a = b := by
  cases a
  cases b
  simp only [ByteArray.mk.injEq]
  exact Array.toList_inj.1 h
/-- One byte as a text. -/
theorem conv_at (W : World) (b d : Nat) (hd : d < 10) (hc : W.cell? ⟨b, 0, none⟩ = some (.int .u8 (48 + (d : Int)))) : (convert 79 9 (.slice (some ⟨b, 0, none⟩) 1 1)).run Tryd.prog W = .ok (.string ⟨#[UInt8.ofNat (48 + d)]⟩) W := by
  have e : ((UInt8.ofNat (48 + d)).toNat : Int) = 48 + (d : Int) := by
    rw [UInt8.toNat_ofNat']
    omega
  exact run_convert_bytes_back (P := Tryd.prog) W 79 9 5 ⟨b, 0, none⟩ 1 [UInt8.ofNat (48 + d)] Tryd.underlying79 Tryd.underlying5 Tryd.underlying9 (fun j hj => by
    obtain rfl : j = 0 := by simp at hj; omega
    have hadd : (⟨b, 0, none⟩ : Addr).add 0 = ⟨b, 0, none⟩ := by unfold Addr.add; split <;> simp_all
    rw [hadd, hc]
    simp only [List.getElem_cons_zero]
    rw [e])

set_option maxRecDepth 100000 in
set_option maxHeartbeats 4000000 in
theorem digits_any : ∀ (n : Nat), n ≤ 1000000 → ∀ (w : World),
    Calls Tryd.prog 29 #[.int .i64 n] w fun e w' => e = .returned (.string ⟨(Lib.decDigits n).toArray⟩) ∧ Below w.heap.size w w' := by
  intro n
  induction n using Nat.strongRecOn with
  | _ n ih =>
    intro hn w
    by_cases h : n < 10
    · have k1 : (n : Int) < 10 := by omega
      have HD : Hid (Lib.decDigits n = [UInt8.ofNat (48 + n)]) := dec_small h
      have hcv := conv_at (w.alloc (.cells #[.int .u8 (48 + (n : Int))] 5)) w.heap.size n h (by go_simp)
      clear ih
      go_enter Tryd.func29, Tryd.ntmps29
      go_wp2
      go_ret
      refine ⟨?_, (Below.refl _ _).alloc (Nat.le_refl _) _⟩
      rw [HD.out]
      simp [UInt8.ofNat_add]
    · have k1 : ¬ (n : Int) < 10 := by omega
      have HD : Hid (Lib.decDigits n = Lib.decDigits (n / 10) ++ [UInt8.ofNat (48 + n % 10)]) := dec_step h
      have hq : (n : Int).tdiv 10 = ((n / 10 : Nat) : Int) := by rw [Int.tdiv_eq_ediv_of_nonneg (by omega)]; omega
      have hr : (n : Int).tmod 10 = ((n % 10 : Nat) : Int) := by rw [Int.tmod_eq_emod_of_nonneg (by omega)]; omega
      have hcon : ∀ W, Below w.heap.size w W → Calls Tryd.prog 29 #[.int .i64 ((n / 10 : Nat) : Int)] W fun e w' => e = .returned (.string ⟨(Lib.decDigits (n / 10)).toArray⟩) ∧ Below w.heap.size w w' ∧ Below W.heap.size W w' := fun W hW => (ih (n / 10) (by omega) (by omega) W).mono fun e w' q => ⟨q.1, hW.trans (q.2.mono hW.size), q.2⟩
      have hdl : (Lib.decDigits (n / 10)).length ≤ 100 := by
        have := Lib.itoa_length_le ((n / 10 : Nat) : Int) (by omega) (by omega)
        have e : Lib.itoa ((n / 10 : Nat) : Int) = Lib.decDigits (n / 10) := by unfold Lib.itoa; rw [if_neg (by omega)]; rfl
        rw [e] at this
        omega
      generalize Lib.decDigits (n / 10) = dl at *
      have hd10 : n % 10 < 10 := Nat.mod_lt _ (by omega)
      generalize n % 10 = d at *
      have hq2 : n / 10 ≤ 1000000 := by omega
      generalize n / 10 = q at *
      have hcv : ∀ (W : World) (b : Nat), W.cell? ⟨b, 0, none⟩ = some (.int .u8 (48 + (d : Int))) → (convert 79 9 (.slice (some ⟨b, 0, none⟩) 1 1)).run Tryd.prog W = .ok (.string ⟨#[UInt8.ofNat (48 + d)]⟩) W := fun W b hc => conv_at W b d hd10 hc
      have hwq : IntKind.i64.wrap (q : Int) = q := IntWalk.i64_in _ (by omega)
      have hwd : IntKind.i64.wrap (48 + (d : Int)) = 48 + d := IntWalk.i64_in _ (by omega)
      have hwu : IntKind.u8.wrap (48 + (d : Int)) = 48 + d := by first | exact IntWalk.u8_in _ (by omega) | (rw [IntKind.wrap_u8]; omega) | (simp [IntKind.wrap, IntKind.signed, IntKind.bits]; omega)
      have zz : ¬ 9223372036854775807 < dl.length + 1 := by omega
      have HB0 : Below w.heap.size w w.drew := (Below.refl _ _).drew
      clear ih
      go_enter Tryd.func29, Tryd.ntmps29
      go_wp2_with fail
      go_region_with (go_at_call 29; refine (hcon _ (by first | with_reducible assumption | with_reducible exact Below.drew (Below.alloc (Below.refl _ _) (Nat.le_refl _) _))).mono ?_; rintro e w' ⟨rfl, hS, hb⟩; have hcc := @Below.cell _ _ _ hb ⟨w.heap.size, 0, none⟩)
      all_goals
        clear hcc hb
        go_wp2_with fail
        go_ret
        refine ⟨?_, ?_⟩
        · rw [HD.out]
          refine congrArg (fun x => Ending.returned (Value.string x)) (ba_ext' ?_)
          simp [UInt8.ofNat_add]
        · first
            | with_reducible assumption
            | with_reducible exact Below.alloc (by with_reducible assumption) (Below.size (by with_reducible assumption)) _
end Go.Proofs.YtggehnnbgeffpaaDoor
