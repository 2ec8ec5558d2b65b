/- The document's Print. -/
import Derived.Test.YthmpnhjlblcgdaaPWrite
import Derived.Test.YthmpnhjlblcgdaaFitMath
namespace Go.Proofs.Ythmpnhjlblcgdaa
open Go.RowKit

def TxtIs (s : ByteArray) (l : List UInt8) : Prop := s.data.toList = l
theorem TxtIs.of (l : List UInt8) : TxtIs ⟨l.toArray⟩ l := rfl
theorem TxtIs.self (s : ByteArray) : TxtIs s s.data.toList := rfl
theorem TxtIs.add {s s' : ByteArray} {l l' : List UInt8} (h : TxtIs s l) (h' : TxtIs s' l') : TxtIs (s ++ s') (l ++ l') := by
  unfold TxtIs at *
  rw [ByteArray.data_append, Array.toList_append, h, h']
theorem TxtIs.size {s : ByteArray} {l : List UInt8} (h : TxtIs s l) : s.size = l.length := by
  unfold TxtIs at h
  rw [← h, toList_len]
theorem TxtIs.eq {s : ByteArray} {l : List UInt8} (h : TxtIs s l) : s = ⟨l.toArray⟩ := by
  unfold TxtIs at h
  subst h
  cases s
  simp
theorem TxtIs.ret {s : ByteArray} {l : List UInt8} (h : TxtIs s l) : Ending.returned (.string s) = .returned (.string ⟨l.toArray⟩) := by rw [h.eq]
theorem kidsP_head {l : List Nd} (h : ¬ l.length = 0) (a : List UInt8) : kidsP a l = a ++ kidsP [] l := by
  cases l with
  | nil => exact absurd rfl h
  | cons x l => simp [kidsP]
theorem kidsP_len (a : List UInt8) (l : List Nd) : (kidsP [] l).length ≤ (kidsP a l).length := by
  cases l with
  | nil => exact Nat.le_refl _
  | cons x l => simp [kidsP]
theorem kidsP_mem {l : List Nd} {j : Nat} (h : j < l.length) : (printN l[j]).length + (kidsP [] (l.take j)).length ≤ (kidsP [] l).length := by
  have h1 := kidsP_le [] l (j + 1)
  rw [kidsP_take h] at h1
  simp only [List.length_append] at h1
  omega
set_option maxRecDepth 100000 in
set_option maxHeartbeats 8000000 in
theorem rprint_any {A : Nat → Prop} : ∀ (n : Nat) (t : Nd) (v : Value) (w : World), TAt A n t v w → (printN t).length ≤ 1000000000000 →
    Calls Try.prog 18 #[v] w fun e w' => e = .returned (.string ⟨(printN t).toArray⟩) ∧ Below w.heap.size w w'
  | 0, _, _, _, h, _ => h.elim
  | n + 1, t, v, w, h, hlen => by
    obtain ⟨ba, bc, rfl, hok, hbn, _, hlb, hsubs0⟩ := h
    have hsubs : KidsAt A n t.kids ba w := hsubs0
    clear hsubs0
    have HIH : Hid _ := rprint_any (A := A) n
    have HV : Hid (printN t = _) := printN_mk t
    have HFP : Hid (fieldP t.h = if t.h.field.size = 0 then [] else t.h.field.data.toList ++ [58, 32]) := rfl
    rw [HV.out] at hlen
    simp only [List.length_append] at hlen
    generalize fieldP t.h = FP at *
    generalize printN t = PT at *
    generalize t.kids = subs at *
    generalize t.h = hd at *
    obtain ⟨hk, hn, hf, hfr, hto, hbd⟩ := hd
    simp only at HV HFP hlen
    unfold ndV
    have hB0 : Below w.heap.size w (w.alloc (Obj.cells #[Value.string hk, Value.bool hn, Value.string hf, Value.int IntKind.i64 hfr, Value.int IntKind.i64 hto, Value.int IntKind.i64 hbd, Value.slice ba subs.length bc] 24)) := (Below.refl _ _).alloc (Nat.le_refl _) _
    have r7 : Row7 w.heap.size 0 ⟨hk, hn, hf, hfr, hto, hbd⟩ (.slice ba subs.length bc) (w.alloc (Obj.cells #[Value.string hk, Value.bool hn, Value.string hf, Value.int IntKind.i64 hfr, Value.int IntKind.i64 hto, Value.int IntKind.i64 hbd, Value.slice ba subs.length bc] 24)) := by refine ⟨?_, ?_, ?_, ?_, ?_, ?_, ?_⟩ <;> simp
    have hz : w.heap.size < (w.alloc (Obj.cells #[Value.string hk, Value.bool hn, Value.string hf, Value.int IntKind.i64 hfr, Value.int IntKind.i64 hto, Value.int IntKind.i64 hbd, Value.slice ba subs.length bc] 24)).heap.size := by simp
    have HS0 : Hid (KidsAt A n subs ba (w.alloc (Obj.cells #[Value.string hk, Value.bool hn, Value.string hf, Value.int IntKind.i64 hfr, Value.int IntKind.i64 hto, Value.int IntKind.i64 hbd, Value.slice ba subs.length bc] 24))) := hsubs.next hB0
    have HKT : Hid (TxtIs hk hk.data.toList) := rfl
    have HK0 := toList_len hk
    clear hok hsubs
    go_enter Try.func18, Try.ntmps18
    by_cases hfz : hf.size = 0
    · have hfz' : hf.toList = [] := by
        rw [ByteArray.toList_eq]
        exact List.eq_nil_of_length_eq_zero (by rw [toList_len]; exact hfz)
      have HSB : Hid (TxtIs ⟨#[]⟩ FP) := by
        show TxtIs _ _
        rw [HFP.out, if_pos hfz]
        rfl
      have HSZ := HSB.out.size
      by_cases b2 : hbd = 2
      case pos =>
        subst b2
        have HT : Hid (TxtIs ((⟨#[]⟩ : ByteArray) ++ ⟨#[40, 77, 73, 83, 83, 73, 78, 71, 32]⟩ ++ hk ++ ⟨#[41]⟩) PT) := by
          show TxtIs _ _
          rw [HV.out, if_pos rfl]
          have := ((HSB.out.add (TxtIs.of [40, 77, 73, 83, 83, 73, 78, 71, 32])).add HKT.out).add (TxtIs.of [41])
          simpa only [List.append_assoc] using this
        rw [if_pos rfl] at hlen
        simp only [List.length_append, List.length_cons, List.length_nil] at hlen
        have z1 : (⟨#[]⟩ : ByteArray).size ≤ 1000000000000 := by omega
        have z2 : hk.size ≤ 1000000000000 := by omega
        have z3 : ((⟨#[]⟩ : ByteArray) ++ ⟨#[40, 77, 73, 83, 83, 73, 78, 71, 32]⟩ : ByteArray).size ≤ 1000000000010 := by rw [ByteArray.size_append]; show _ + 9 ≤ _; omega
        have z4 : ((⟨#[]⟩ : ByteArray) ++ ⟨#[40, 77, 73, 83, 83, 73, 78, 71, 32]⟩ ++ hk : ByteArray).size ≤ 2000000000010 := by rw [ByteArray.size_append]; omega
        clear HIH HS0 HV HFP HSB HKT HSZ HK0
        go_wp2_with fail
        refine bodyPost_ret (v := .string ((⟨#[]⟩ : ByteArray) ++ ⟨#[40, 77, 73, 83, 83, 73, 78, 71, 32]⟩ ++ hk ++ ⟨#[41]⟩ : ByteArray)) (by simp [results, Try.f18, go_sem]) rfl ⟨TxtIs.ret HT.out, hB0⟩
      rw [if_neg b2] at hlen
      have HV2 : Hid (PT = FP ++ (if hn = true ∨ hbd = 1 then [40] ++ hk.data.toList ++ kidsP [32] subs ++ [41] else hk.data.toList ++ (kidsP [91] subs ++ if subs.length = 0 then [] else [93]))) := by show _ = _; rw [HV.out, if_neg b2]
      have HKL : Hid ((kidsP [] subs).length ≤ 1000000000000 ∧ (⟨#[]⟩ : ByteArray).size ≤ 1000000000000 ∧ hk.size ≤ 1000000000000) := by
        have h1 := kidsP_len [32] subs
        have h2 := kidsP_len [91] subs
        by_cases hc : hn = true ∨ hbd = 1
        · rw [if_pos hc] at hlen
          simp only [List.length_append, List.length_cons, List.length_nil] at hlen
          refine ⟨by omega, by omega, by omega⟩
        · rw [if_neg hc] at hlen
          simp only [List.length_append] at hlen
          refine ⟨by omega, by omega, by omega⟩
      have hkl := HKL.out.1
      have z1 := HKL.out.2.1
      have z2 := HKL.out.2.2
      have b2b : (hbd == 2) = false := by simpa using b2
      clear hlen HV HKL HSZ HK0
      go_wp2_with fail
      generalize w.alloc (Obj.cells #[Value.string hk, Value.bool hn, Value.string hf, Value.int IntKind.i64 hfr, Value.int IntKind.i64 hto, Value.int IntKind.i64 hbd, Value.slice ba subs.length bc] 24) = W0 at *
      go_loopw [4, 5] (fun s c wr => ∃ (j : Nat) (kb : ByteArray), c = .int .i64 j ∧ s = .string kb ∧ j ≤ subs.length ∧ Hid (TxtIs kb (kidsP [] (subs.take j))) ∧ Below W0.heap.size W0 wr) (fun _ c _ => subs.length - (intOf c).toNat)
      case atStart => exact ⟨0, _, rfl, rfl, Nat.zero_le _, rfl, Below.refl _ _⟩
      case round =>
        obtain ⟨j, kb, rfl, rfl, hj, HKB, hB⟩ := hrel
        obtain ⟨d0, d1, d2, d3, d4, d5, d6⟩ := r7.but (D := fun _ => False) (But.of_next hB) hz (fun h => h)
        simp only [Nat.zero_add] at d1 d2 d3 d4 d5 d6
        have hBw : Below w.heap.size w wr := below_next hB0 hB
        have HKS := HKB.out.size
        have hkle := kidsP_le [] subs j
        have z5 : kb.size ≤ 1000000000000 := by omega
        by_cases hlt : j < subs.length
        · have k1 : (j : Int) < subs.length := by omega
          obtain ⟨b, off, ka, kc, rfl, _, hb, ⟨e0, e1, e2, e3, e4, e5, e6⟩, hT⟩ := HS0.out.at hB hlt
          have hmem := kidsP_mem hlt
          have hrec := HIH.out _ _ wr hT (by omega)
          have HN : Hid (kidsP [] (subs.take (j + 1)) = kidsP [] (subs.take j) ++ (aheadP [] j ++ printN subs[j])) := kidsP_take hlt []
          have HPJ : Hid (TxtIs ⟨(printN subs[j]).toArray⟩ (printN subs[j])) := rfl
          have hps := HPJ.out.size
          have z6 : (⟨(printN subs[j]).toArray⟩ : ByteArray).size ≤ 1000000000000 := by omega
          clear hps hmem
          generalize (⟨(printN subs[j]).toArray⟩ : ByteArray) = pb at *
          generalize printN subs[j] = pj at *
          generalize subs[j].h = sh at *
          generalize subs[j].kids.length = skl at *
          obtain ⟨gk, gn, gf, gfr, gto, gbd⟩ := sh
          unfold ndV at hrec
          simp only at *
          clear HS0 hT HIH HV2 HFP HSB HKT hkle HKS
          by_cases hj0 : 0 < j
          · have kj : (0 : Int) < j := by omega
            have HT2 : Hid (TxtIs (kb ++ ⟨#[32]⟩ ++ pb) (kidsP [] (subs.take (j + 1)))) := by
              show TxtIs _ _
              rw [HN.out, show aheadP [] j = [32] by unfold aheadP; rw [if_neg (by omega)], ← List.append_assoc]
              exact (HKB.out.add (TxtIs.of [32])).add HPJ.out
            have z7 : (kb ++ ⟨#[32]⟩ : ByteArray).size ≤ 1000000000001 := by rw [ByteArray.size_append]; show _ + 1 ≤ _; omega
            clear HN HPJ HKB
            go_wp2_with (go_at_call 18; refine hrec.mono ?_; rintro e w2 ⟨rfl, hb2⟩)
            exact ⟨⟨j + 1, _, by go_num, rfl, by omega, HT2, below_next hB hb2⟩, by simp [intOf]; omega⟩
          · have kj : ¬ (0 : Int) < j := by omega
            have HT2 : Hid (TxtIs (kb ++ pb) (kidsP [] (subs.take (j + 1)))) := by
              show TxtIs _ _
              rw [HN.out, show aheadP [] j = [] by unfold aheadP; rw [if_pos (by omega)], List.nil_append]
              exact HKB.out.add HPJ.out
            clear HN HPJ HKB
            go_wp2_with (go_at_call 18; refine hrec.mono ?_; rintro e w2 ⟨rfl, hb2⟩)
            exact ⟨⟨j + 1, _, by go_num, rfl, by omega, HT2, below_next hB hb2⟩, by simp [intOf]; omega⟩
        · have k1 : ¬ (j : Int) < subs.length := by omega
          have HKF : Hid (TxtIs kb (kidsP [] subs)) := by
            have := HKB.out
            rwa [List.take_of_length_le (by omega)] at this
          clear HKB HKS hkle HIH HS0
          by_cases hs0 : subs.length = 0
          · have HE0 : Hid (kidsP [32] subs = kidsP [] subs ∧ kidsP [91] subs = kidsP [] subs) := by
              have : subs = [] := List.eq_nil_of_length_eq_zero hs0
              subst this
              exact ⟨rfl, rfl⟩
            have s0 : ¬ (0 : Int) < subs.length := by omega
            have HTN : Hid ((hn = true ∨ hbd = 1) → TxtIs ((⟨#[]⟩ : ByteArray) ++ ⟨#[40]⟩ ++ hk ++ kb ++ ⟨#[41]⟩) PT) := fun hc => by
              rw [HV2.out, if_pos hc, HE0.out.1]
              have := (((HSB.out.add (TxtIs.of [40])).add HKT.out).add HKF.out).add (TxtIs.of [41])
              simpa only [List.append_assoc] using this
            have HTO : Hid (¬ (hn = true ∨ hbd = 1) → TxtIs ((⟨#[]⟩ : ByteArray) ++ hk) PT) := fun hc => by
              rw [HV2.out, if_neg hc, if_pos hs0, List.append_nil]
              have h0 : subs = [] := List.eq_nil_of_length_eq_zero hs0
              subst h0
              have := HSB.out.add HKT.out
              simpa only [kidsP, List.append_nil] using this
            have z8 : ((⟨#[]⟩ : ByteArray) ++ ⟨#[40]⟩ : ByteArray).size ≤ 1000000000001 := by rw [ByteArray.size_append]; show _ + 1 ≤ _; omega
            have z9 : ((⟨#[]⟩ : ByteArray) ++ ⟨#[40]⟩ ++ hk : ByteArray).size ≤ 2000000000001 := by rw [ByteArray.size_append]; omega
            have z10 : ((⟨#[]⟩ : ByteArray) ++ ⟨#[40]⟩ ++ hk ++ kb : ByteArray).size ≤ 3000000000001 := by rw [ByteArray.size_append]; omega
            clear HE0 HKF HV2 HFP HSB HKT hs0
            cases hn with
            | true =>
              have HT' : Hid (TxtIs ((⟨#[]⟩ : ByteArray) ++ ⟨#[40]⟩ ++ hk ++ kb ++ ⟨#[41]⟩ : ByteArray) PT) := HTN.out (.inl rfl)
              clear HTN HTO
              go_wp2_with fail
              refine bodyPost_ret (v := .string ((⟨#[]⟩ : ByteArray) ++ ⟨#[40]⟩ ++ hk ++ kb ++ ⟨#[41]⟩ : ByteArray)) (by simp [results, Try.f18, go_sem]) rfl ⟨TxtIs.ret HT'.out, hBw⟩
            | false =>
              by_cases hb1 : hbd = 1
              · have HT' : Hid (TxtIs ((⟨#[]⟩ : ByteArray) ++ ⟨#[40]⟩ ++ hk ++ kb ++ ⟨#[41]⟩ : ByteArray) PT) := HTN.out (.inr hb1)
                subst hb1
                clear HTN HTO
                go_wp2_with fail
                refine bodyPost_ret (v := .string ((⟨#[]⟩ : ByteArray) ++ ⟨#[40]⟩ ++ hk ++ kb ++ ⟨#[41]⟩ : ByteArray)) (by simp [results, Try.f18, go_sem]) rfl ⟨TxtIs.ret HT'.out, hBw⟩
              · have HT' : Hid (TxtIs ((⟨#[]⟩ : ByteArray) ++ hk : ByteArray) PT) := HTO.out (by simp [hb1])
                clear HTN HTO
                go_wp2_with fail
                refine bodyPost_ret (v := .string ((⟨#[]⟩ : ByteArray) ++ hk : ByteArray)) (by simp [results, Try.f18, go_sem]) rfl ⟨TxtIs.ret HT'.out, hBw⟩
          · have HE0 : Hid (kidsP [32] subs = [32] ++ kidsP [] subs ∧ kidsP [91] subs = [91] ++ kidsP [] subs) := ⟨kidsP_head hs0 _, kidsP_head hs0 _⟩
            have s0 : (0 : Int) < subs.length := by omega
            have HTN : Hid ((hn = true ∨ hbd = 1) → TxtIs ((⟨#[]⟩ : ByteArray) ++ ⟨#[40]⟩ ++ hk ++ (⟨#[32]⟩ ++ kb) ++ ⟨#[41]⟩) PT) := fun hc => by
              rw [HV2.out, if_pos hc, HE0.out.1]
              have := (((HSB.out.add (TxtIs.of [40])).add HKT.out).add ((TxtIs.of [32]).add HKF.out)).add (TxtIs.of [41])
              simpa only [List.append_assoc] using this
            have HTO : Hid (¬ (hn = true ∨ hbd = 1) → TxtIs ((⟨#[]⟩ : ByteArray) ++ hk ++ ⟨#[91]⟩ ++ kb ++ ⟨#[93]⟩) PT) := fun hc => by
              rw [HV2.out, if_neg hc, if_neg hs0, HE0.out.2]
              have := (((HSB.out.add HKT.out).add (TxtIs.of [91])).add HKF.out).add (TxtIs.of [93])
              simpa only [List.append_assoc] using this
            have z7 : ((⟨#[32]⟩ : ByteArray) ++ kb).size ≤ 1000000000001 := by rw [ByteArray.size_append]; show 1 + _ ≤ _; omega
            have z8 : ((⟨#[]⟩ : ByteArray) ++ ⟨#[40]⟩ : ByteArray).size ≤ 1000000000001 := by rw [ByteArray.size_append]; show _ + 1 ≤ _; omega
            have z9 : ((⟨#[]⟩ : ByteArray) ++ ⟨#[40]⟩ ++ hk : ByteArray).size ≤ 2000000000001 := by rw [ByteArray.size_append]; omega
            have z10 : ((⟨#[]⟩ : ByteArray) ++ ⟨#[40]⟩ ++ hk ++ (⟨#[32]⟩ ++ kb) : ByteArray).size ≤ 3000000000002 := by rw [ByteArray.size_append]; omega
            have y8 : ((⟨#[]⟩ : ByteArray) ++ hk : ByteArray).size ≤ 2000000000000 := by rw [ByteArray.size_append]; omega
            have y9 : ((⟨#[]⟩ : ByteArray) ++ hk ++ ⟨#[91]⟩ : ByteArray).size ≤ 2000000000001 := by rw [ByteArray.size_append]; show _ + 1 ≤ _; omega
            have y10 : ((⟨#[]⟩ : ByteArray) ++ hk ++ ⟨#[91]⟩ ++ kb : ByteArray).size ≤ 3000000000001 := by rw [ByteArray.size_append]; omega
            clear HE0 HKF HV2 HFP HSB HKT hs0
            cases hn with
            | true =>
              have HT' : Hid (TxtIs ((⟨#[]⟩ : ByteArray) ++ ⟨#[40]⟩ ++ hk ++ (⟨#[32]⟩ ++ kb) ++ ⟨#[41]⟩ : ByteArray) PT) := HTN.out (.inl rfl)
              clear HTN HTO
              go_wp2_with fail
              refine bodyPost_ret (v := .string ((⟨#[]⟩ : ByteArray) ++ ⟨#[40]⟩ ++ hk ++ (⟨#[32]⟩ ++ kb) ++ ⟨#[41]⟩ : ByteArray)) (by simp [results, Try.f18, go_sem]) rfl ⟨TxtIs.ret HT'.out, hBw⟩
            | false =>
              by_cases hb1 : hbd = 1
              · have HT' : Hid (TxtIs ((⟨#[]⟩ : ByteArray) ++ ⟨#[40]⟩ ++ hk ++ (⟨#[32]⟩ ++ kb) ++ ⟨#[41]⟩ : ByteArray) PT) := HTN.out (.inr hb1)
                subst hb1
                clear HTN HTO
                go_wp2_with fail
                refine bodyPost_ret (v := .string ((⟨#[]⟩ : ByteArray) ++ ⟨#[40]⟩ ++ hk ++ (⟨#[32]⟩ ++ kb) ++ ⟨#[41]⟩ : ByteArray)) (by simp [results, Try.f18, go_sem]) rfl ⟨TxtIs.ret HT'.out, hBw⟩
              · have HT' : Hid (TxtIs ((⟨#[]⟩ : ByteArray) ++ hk ++ ⟨#[91]⟩ ++ kb ++ ⟨#[93]⟩ : ByteArray) PT) := HTO.out (by simp [hb1])
                clear HTN HTO
                go_wp2_with fail
                refine bodyPost_ret (v := .string ((⟨#[]⟩ : ByteArray) ++ hk ++ ⟨#[91]⟩ ++ kb ++ ⟨#[93]⟩ : ByteArray)) (by simp [results, Try.f18, go_sem]) rfl ⟨TxtIs.ret HT'.out, hBw⟩
    · have hfz' : ¬ hf.toList = [] := by
        rw [ByteArray.toList_eq]
        intro e
        have := congrArg List.length e
        rw [toList_len] at this
        exact hfz this
      have hfz2 : hf.toList.isEmpty = false := by simpa using hfz'
      have hlf : FP.length = hf.size + 2 := by rw [HFP.out, if_neg hfz, List.length_append, toList_len]; rfl
      have z0 : hf.size ≤ 1000000000000 := by omega
      have HSB : Hid (TxtIs (hf ++ ⟨#[58, 32]⟩) FP) := by
        show TxtIs _ _
        rw [HFP.out, if_neg hfz]
        exact (TxtIs.self hf).add (TxtIs.of [58, 32])
      clear hlf
      have HSZ := HSB.out.size
      by_cases b2 : hbd = 2
      case pos =>
        subst b2
        have HT : Hid (TxtIs ((hf ++ ⟨#[58, 32]⟩ : ByteArray) ++ ⟨#[40, 77, 73, 83, 83, 73, 78, 71, 32]⟩ ++ hk ++ ⟨#[41]⟩) PT) := by
          show TxtIs _ _
          rw [HV.out, if_pos rfl]
          have := ((HSB.out.add (TxtIs.of [40, 77, 73, 83, 83, 73, 78, 71, 32])).add HKT.out).add (TxtIs.of [41])
          simpa only [List.append_assoc] using this
        rw [if_pos rfl] at hlen
        simp only [List.length_append, List.length_cons, List.length_nil] at hlen
        have z1 : (hf ++ ⟨#[58, 32]⟩ : ByteArray).size ≤ 1000000000000 := by omega
        have z2 : hk.size ≤ 1000000000000 := by omega
        have z3 : ((hf ++ ⟨#[58, 32]⟩ : ByteArray) ++ ⟨#[40, 77, 73, 83, 83, 73, 78, 71, 32]⟩ : ByteArray).size ≤ 1000000000010 := by rw [ByteArray.size_append]; show _ + 9 ≤ _; omega
        have z4 : ((hf ++ ⟨#[58, 32]⟩ : ByteArray) ++ ⟨#[40, 77, 73, 83, 83, 73, 78, 71, 32]⟩ ++ hk : ByteArray).size ≤ 2000000000010 := by rw [ByteArray.size_append]; omega
        clear HIH HS0 HV HFP HSB HKT HSZ HK0
        go_wp2_with fail
        refine bodyPost_ret (v := .string ((hf ++ ⟨#[58, 32]⟩ : ByteArray) ++ ⟨#[40, 77, 73, 83, 83, 73, 78, 71, 32]⟩ ++ hk ++ ⟨#[41]⟩ : ByteArray)) (by simp [results, Try.f18, go_sem]) rfl ⟨TxtIs.ret HT.out, hB0⟩
      rw [if_neg b2] at hlen
      have HV2 : Hid (PT = FP ++ (if hn = true ∨ hbd = 1 then [40] ++ hk.data.toList ++ kidsP [32] subs ++ [41] else hk.data.toList ++ (kidsP [91] subs ++ if subs.length = 0 then [] else [93]))) := by show _ = _; rw [HV.out, if_neg b2]
      have HKL : Hid ((kidsP [] subs).length ≤ 1000000000000 ∧ (hf ++ ⟨#[58, 32]⟩ : ByteArray).size ≤ 1000000000000 ∧ hk.size ≤ 1000000000000) := by
        have h1 := kidsP_len [32] subs
        have h2 := kidsP_len [91] subs
        by_cases hc : hn = true ∨ hbd = 1
        · rw [if_pos hc] at hlen
          simp only [List.length_append, List.length_cons, List.length_nil] at hlen
          refine ⟨by omega, by omega, by omega⟩
        · rw [if_neg hc] at hlen
          simp only [List.length_append] at hlen
          refine ⟨by omega, by omega, by omega⟩
      have hkl := HKL.out.1
      have z1 := HKL.out.2.1
      have z2 := HKL.out.2.2
      have b2b : (hbd == 2) = false := by simpa using b2
      clear hlen HV HKL HSZ HK0
      go_wp2_with fail
      generalize w.alloc (Obj.cells #[Value.string hk, Value.bool hn, Value.string hf, Value.int IntKind.i64 hfr, Value.int IntKind.i64 hto, Value.int IntKind.i64 hbd, Value.slice ba subs.length bc] 24) = W0 at *
      go_loopw [4, 5] (fun s c wr => ∃ (j : Nat) (kb : ByteArray), c = .int .i64 j ∧ s = .string kb ∧ j ≤ subs.length ∧ Hid (TxtIs kb (kidsP [] (subs.take j))) ∧ Below W0.heap.size W0 wr) (fun _ c _ => subs.length - (intOf c).toNat)
      case atStart => exact ⟨0, _, rfl, rfl, Nat.zero_le _, rfl, Below.refl _ _⟩
      case round =>
        obtain ⟨j, kb, rfl, rfl, hj, HKB, hB⟩ := hrel
        obtain ⟨d0, d1, d2, d3, d4, d5, d6⟩ := r7.but (D := fun _ => False) (But.of_next hB) hz (fun h => h)
        simp only [Nat.zero_add] at d1 d2 d3 d4 d5 d6
        have hBw : Below w.heap.size w wr := below_next hB0 hB
        have HKS := HKB.out.size
        have hkle := kidsP_le [] subs j
        have z5 : kb.size ≤ 1000000000000 := by omega
        by_cases hlt : j < subs.length
        · have k1 : (j : Int) < subs.length := by omega
          obtain ⟨b, off, ka, kc, rfl, _, hb, ⟨e0, e1, e2, e3, e4, e5, e6⟩, hT⟩ := HS0.out.at hB hlt
          have hmem := kidsP_mem hlt
          have hrec := HIH.out _ _ wr hT (by omega)
          have HN : Hid (kidsP [] (subs.take (j + 1)) = kidsP [] (subs.take j) ++ (aheadP [] j ++ printN subs[j])) := kidsP_take hlt []
          have HPJ : Hid (TxtIs ⟨(printN subs[j]).toArray⟩ (printN subs[j])) := rfl
          have hps := HPJ.out.size
          have z6 : (⟨(printN subs[j]).toArray⟩ : ByteArray).size ≤ 1000000000000 := by omega
          clear hps hmem
          generalize (⟨(printN subs[j]).toArray⟩ : ByteArray) = pb at *
          generalize printN subs[j] = pj at *
          generalize subs[j].h = sh at *
          generalize subs[j].kids.length = skl at *
          obtain ⟨gk, gn, gf, gfr, gto, gbd⟩ := sh
          unfold ndV at hrec
          simp only at *
          clear HS0 hT HIH HV2 HFP HSB HKT hkle HKS
          by_cases hj0 : 0 < j
          · have kj : (0 : Int) < j := by omega
            have HT2 : Hid (TxtIs (kb ++ ⟨#[32]⟩ ++ pb) (kidsP [] (subs.take (j + 1)))) := by
              show TxtIs _ _
              rw [HN.out, show aheadP [] j = [32] by unfold aheadP; rw [if_neg (by omega)], ← List.append_assoc]
              exact (HKB.out.add (TxtIs.of [32])).add HPJ.out
            have z7 : (kb ++ ⟨#[32]⟩ : ByteArray).size ≤ 1000000000001 := by rw [ByteArray.size_append]; show _ + 1 ≤ _; omega
            clear HN HPJ HKB
            go_wp2_with (go_at_call 18; refine hrec.mono ?_; rintro e w2 ⟨rfl, hb2⟩)
            exact ⟨⟨j + 1, _, by go_num, rfl, by omega, HT2, below_next hB hb2⟩, by simp [intOf]; omega⟩
          · have kj : ¬ (0 : Int) < j := by omega
            have HT2 : Hid (TxtIs (kb ++ pb) (kidsP [] (subs.take (j + 1)))) := by
              show TxtIs _ _
              rw [HN.out, show aheadP [] j = [] by unfold aheadP; rw [if_pos (by omega)], List.nil_append]
              exact HKB.out.add HPJ.out
            clear HN HPJ HKB
            go_wp2_with (go_at_call 18; refine hrec.mono ?_; rintro e w2 ⟨rfl, hb2⟩)
            exact ⟨⟨j + 1, _, by go_num, rfl, by omega, HT2, below_next hB hb2⟩, by simp [intOf]; omega⟩
        · have k1 : ¬ (j : Int) < subs.length := by omega
          have HKF : Hid (TxtIs kb (kidsP [] subs)) := by
            have := HKB.out
            rwa [List.take_of_length_le (by omega)] at this
          clear HKB HKS hkle HIH HS0
          by_cases hs0 : subs.length = 0
          · have HE0 : Hid (kidsP [32] subs = kidsP [] subs ∧ kidsP [91] subs = kidsP [] subs) := by
              have : subs = [] := List.eq_nil_of_length_eq_zero hs0
              subst this
              exact ⟨rfl, rfl⟩
            have s0 : ¬ (0 : Int) < subs.length := by omega
            have HTN : Hid ((hn = true ∨ hbd = 1) → TxtIs ((hf ++ ⟨#[58, 32]⟩ : ByteArray) ++ ⟨#[40]⟩ ++ hk ++ kb ++ ⟨#[41]⟩) PT) := fun hc => by
              rw [HV2.out, if_pos hc, HE0.out.1]
              have := (((HSB.out.add (TxtIs.of [40])).add HKT.out).add HKF.out).add (TxtIs.of [41])
              simpa only [List.append_assoc] using this
            have HTO : Hid (¬ (hn = true ∨ hbd = 1) → TxtIs ((hf ++ ⟨#[58, 32]⟩ : ByteArray) ++ hk) PT) := fun hc => by
              rw [HV2.out, if_neg hc, if_pos hs0, List.append_nil]
              have h0 : subs = [] := List.eq_nil_of_length_eq_zero hs0
              subst h0
              have := HSB.out.add HKT.out
              simpa only [kidsP, List.append_nil] using this
            have z8 : ((hf ++ ⟨#[58, 32]⟩ : ByteArray) ++ ⟨#[40]⟩ : ByteArray).size ≤ 1000000000001 := by rw [ByteArray.size_append]; show _ + 1 ≤ _; omega
            have z9 : ((hf ++ ⟨#[58, 32]⟩ : ByteArray) ++ ⟨#[40]⟩ ++ hk : ByteArray).size ≤ 2000000000001 := by rw [ByteArray.size_append]; omega
            have z10 : ((hf ++ ⟨#[58, 32]⟩ : ByteArray) ++ ⟨#[40]⟩ ++ hk ++ kb : ByteArray).size ≤ 3000000000001 := by rw [ByteArray.size_append]; omega
            clear HE0 HKF HV2 HFP HSB HKT hs0
            cases hn with
            | true =>
              have HT' : Hid (TxtIs ((hf ++ ⟨#[58, 32]⟩ : ByteArray) ++ ⟨#[40]⟩ ++ hk ++ kb ++ ⟨#[41]⟩ : ByteArray) PT) := HTN.out (.inl rfl)
              clear HTN HTO
              go_wp2_with fail
              refine bodyPost_ret (v := .string ((hf ++ ⟨#[58, 32]⟩ : ByteArray) ++ ⟨#[40]⟩ ++ hk ++ kb ++ ⟨#[41]⟩ : ByteArray)) (by simp [results, Try.f18, go_sem]) rfl ⟨TxtIs.ret HT'.out, hBw⟩
            | false =>
              by_cases hb1 : hbd = 1
              · have HT' : Hid (TxtIs ((hf ++ ⟨#[58, 32]⟩ : ByteArray) ++ ⟨#[40]⟩ ++ hk ++ kb ++ ⟨#[41]⟩ : ByteArray) PT) := HTN.out (.inr hb1)
                subst hb1
                clear HTN HTO
                go_wp2_with fail
                refine bodyPost_ret (v := .string ((hf ++ ⟨#[58, 32]⟩ : ByteArray) ++ ⟨#[40]⟩ ++ hk ++ kb ++ ⟨#[41]⟩ : ByteArray)) (by simp [results, Try.f18, go_sem]) rfl ⟨TxtIs.ret HT'.out, hBw⟩
              · have HT' : Hid (TxtIs ((hf ++ ⟨#[58, 32]⟩ : ByteArray) ++ hk : ByteArray) PT) := HTO.out (by simp [hb1])
                clear HTN HTO
                go_wp2_with fail
                refine bodyPost_ret (v := .string ((hf ++ ⟨#[58, 32]⟩ : ByteArray) ++ hk : ByteArray)) (by simp [results, Try.f18, go_sem]) rfl ⟨TxtIs.ret HT'.out, hBw⟩
          · have HE0 : Hid (kidsP [32] subs = [32] ++ kidsP [] subs ∧ kidsP [91] subs = [91] ++ kidsP [] subs) := ⟨kidsP_head hs0 _, kidsP_head hs0 _⟩
            have s0 : (0 : Int) < subs.length := by omega
            have HTN : Hid ((hn = true ∨ hbd = 1) → TxtIs ((hf ++ ⟨#[58, 32]⟩ : ByteArray) ++ ⟨#[40]⟩ ++ hk ++ (⟨#[32]⟩ ++ kb) ++ ⟨#[41]⟩) PT) := fun hc => by
              rw [HV2.out, if_pos hc, HE0.out.1]
              have := (((HSB.out.add (TxtIs.of [40])).add HKT.out).add ((TxtIs.of [32]).add HKF.out)).add (TxtIs.of [41])
              simpa only [List.append_assoc] using this
            have HTO : Hid (¬ (hn = true ∨ hbd = 1) → TxtIs ((hf ++ ⟨#[58, 32]⟩ : ByteArray) ++ hk ++ ⟨#[91]⟩ ++ kb ++ ⟨#[93]⟩) PT) := fun hc => by
              rw [HV2.out, if_neg hc, if_neg hs0, HE0.out.2]
              have := (((HSB.out.add HKT.out).add (TxtIs.of [91])).add HKF.out).add (TxtIs.of [93])
              simpa only [List.append_assoc] using this
            have z7 : ((⟨#[32]⟩ : ByteArray) ++ kb).size ≤ 1000000000001 := by rw [ByteArray.size_append]; show 1 + _ ≤ _; omega
            have z8 : ((hf ++ ⟨#[58, 32]⟩ : ByteArray) ++ ⟨#[40]⟩ : ByteArray).size ≤ 1000000000001 := by rw [ByteArray.size_append]; show _ + 1 ≤ _; omega
            have z9 : ((hf ++ ⟨#[58, 32]⟩ : ByteArray) ++ ⟨#[40]⟩ ++ hk : ByteArray).size ≤ 2000000000001 := by rw [ByteArray.size_append]; omega
            have z10 : ((hf ++ ⟨#[58, 32]⟩ : ByteArray) ++ ⟨#[40]⟩ ++ hk ++ (⟨#[32]⟩ ++ kb) : ByteArray).size ≤ 3000000000002 := by rw [ByteArray.size_append]; omega
            have y8 : ((hf ++ ⟨#[58, 32]⟩ : ByteArray) ++ hk : ByteArray).size ≤ 2000000000000 := by rw [ByteArray.size_append]; omega
            have y9 : ((hf ++ ⟨#[58, 32]⟩ : ByteArray) ++ hk ++ ⟨#[91]⟩ : ByteArray).size ≤ 2000000000001 := by rw [ByteArray.size_append]; show _ + 1 ≤ _; omega
            have y10 : ((hf ++ ⟨#[58, 32]⟩ : ByteArray) ++ hk ++ ⟨#[91]⟩ ++ kb : ByteArray).size ≤ 3000000000001 := by rw [ByteArray.size_append]; omega
            clear HE0 HKF HV2 HFP HSB HKT hs0
            cases hn with
            | true =>
              have HT' : Hid (TxtIs ((hf ++ ⟨#[58, 32]⟩ : ByteArray) ++ ⟨#[40]⟩ ++ hk ++ (⟨#[32]⟩ ++ kb) ++ ⟨#[41]⟩ : ByteArray) PT) := HTN.out (.inl rfl)
              clear HTN HTO
              go_wp2_with fail
              refine bodyPost_ret (v := .string ((hf ++ ⟨#[58, 32]⟩ : ByteArray) ++ ⟨#[40]⟩ ++ hk ++ (⟨#[32]⟩ ++ kb) ++ ⟨#[41]⟩ : ByteArray)) (by simp [results, Try.f18, go_sem]) rfl ⟨TxtIs.ret HT'.out, hBw⟩
            | false =>
              by_cases hb1 : hbd = 1
              · have HT' : Hid (TxtIs ((hf ++ ⟨#[58, 32]⟩ : ByteArray) ++ ⟨#[40]⟩ ++ hk ++ (⟨#[32]⟩ ++ kb) ++ ⟨#[41]⟩ : ByteArray) PT) := HTN.out (.inr hb1)
                subst hb1
                clear HTN HTO
                go_wp2_with fail
                refine bodyPost_ret (v := .string ((hf ++ ⟨#[58, 32]⟩ : ByteArray) ++ ⟨#[40]⟩ ++ hk ++ (⟨#[32]⟩ ++ kb) ++ ⟨#[41]⟩ : ByteArray)) (by simp [results, Try.f18, go_sem]) rfl ⟨TxtIs.ret HT'.out, hBw⟩
              · have HT' : Hid (TxtIs ((hf ++ ⟨#[58, 32]⟩ : ByteArray) ++ hk ++ ⟨#[91]⟩ ++ kb ++ ⟨#[93]⟩ : ByteArray) PT) := HTO.out (by simp [hb1])
                clear HTN HTO
                go_wp2_with fail
                refine bodyPost_ret (v := .string ((hf ++ ⟨#[58, 32]⟩ : ByteArray) ++ hk ++ ⟨#[91]⟩ ++ kb ++ ⟨#[93]⟩ : ByteArray)) (by simp [results, Try.f18, go_sem]) rfl ⟨TxtIs.ret HT'.out, hBw⟩
end Go.Proofs.Ythmpnhjlblcgdaa
