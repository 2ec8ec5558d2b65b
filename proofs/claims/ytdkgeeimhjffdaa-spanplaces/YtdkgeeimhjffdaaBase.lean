/- A slice of ranges as it lies in a world, and the functions that only read one: small, Size, Fit, Has, Same. -/
import Derived.Test.YtdkgeeimhjffdaaProg
import Derived.Test.YtdkgeeimhjffdaaSets
import Derived.WalkKit
import Derived.WalkSpells
import Derived.WalkLawsBesides
import Derived.Deep.QuietTactic
import Derived.BigQuiet
namespace Go.Proofs.Ytdkgeeimhjffdaa
open Go.RowKit

theorem ret_int {k : IntKind} {a b : Int} (h : a = b) : Ending.returned (.int k a) = .returned (.int k b) := by rw [h]
theorem ret_bool {a b : Bool} (h : a = b) : Ending.returned (.bool a) = .returned (.bool b) := by rw [h]
theorem below_then {n : Nat} {w W W' : World} (h : Below n w W) (hb : Below W.heap.size W W') (hn : n ≤ W.heap.size) : Below n w W' := h.trans (hb.mono hn)
theorem below_drewN {B : Nat} {a w : World} (h : Below B a w) (n : Nat) : Below B a (w.drewN n) := ⟨h.os, h.tape, h.output, h.size, h.block⟩
theorem add_plain (b o j : Nat) : (⟨b, o, none⟩ : Addr).add j = ⟨b, o + j, none⟩ := by unfold Addr.add; split <;> simp_all

/-- The cells from the address on hold the ranges. -/
def RgAt (es : List Rg) (ao : Option Addr) (W : World) : Prop :=
  ∀ (i : Nat) (r : Rg), es[i]? = some r → ∃ b off, ao = some ⟨b, off, none⟩ ∧ b < W.heap.size ∧ W.cell? ⟨b, off + i * 2, none⟩ = some (.int .i64 r.1) ∧ W.cell? ⟨b, off + i * 2 + 1, none⟩ = some (.int .i64 r.2)
theorem RgAt.next {es : List Rg} {ao : Option Addr} {W W' : World} (h : RgAt es ao W) (hb : Below W.heap.size W W') : RgAt es ao W' := fun i r hr => by
  obtain ⟨b, off, h0, h1, h2, h3⟩ := h i r hr
  exact ⟨b, off, h0, Nat.lt_of_lt_of_le h1 hb.size, (hb.cell (p := ⟨b, off + i * 2, none⟩) h1).trans h2, (hb.cell (p := ⟨b, off + i * 2 + 1, none⟩) h1).trans h3⟩
theorem RgAt.nil (ao : Option Addr) (W : World) : RgAt [] ao W := fun i r hr => by simp at hr
theorem RgAt.at {es : List Rg} {ao : Option Addr} {w W : World} (h : RgAt es ao w) (hb : Below w.heap.size w W) {j : Nat} (hj : j < es.length) :
    ∃ b off, ao = some ⟨b, off, none⟩ ∧ W.cell? ⟨b, off + j * 2, none⟩ = some (.int .i64 es[j].1) ∧ W.cell? ⟨b, off + j * 2 + 1, none⟩ = some (.int .i64 es[j].2) := by
  obtain ⟨b, off, h0, _, h2, h3⟩ := h.next hb j es[j] (by simp [hj])
  exact ⟨b, off, h0, h2, h3⟩

def sizeN : List Rg → Int
  | [] => 0
  | r :: t => (r.2 - r.1) + sizeN t
theorem sizeN_nonneg {l : List Rg} (h : Fit l) : 0 ≤ sizeN l := by
  induction l with
  | nil => simp [sizeN]
  | cons r t ih =>
    have := ih h.tail
    have := h.1 r (by simp)
    simp only [sizeN]
    omega
theorem sizeN_le {X : Int} : ∀ {l : List Rg} {m : Int}, Fit l → m ≤ X → (∀ r ∈ l, m ≤ r.1 ∧ r.2 ≤ X) → sizeN l ≤ X - m
  | [], m, _, h, _ => by simp [sizeN]; omega
  | r :: t, m, hf, h, hr => by
    have h0 := hf.1 r (by simp)
    have h1 := hr r (by simp)
    have := sizeN_le (l := t) (m := r.2) hf.tail h1.2 (fun s hs => ⟨by have := hf.head s hs; omega, (hr s (by simp [hs])).2⟩)
    simp only [sizeN]
    omega
theorem sizeN_max {l : List Rg} (hf : Fit l) (ho : ∀ r ∈ l, RgOk r) : sizeN l ≤ 9223372036854775807 := by
  have := sizeN_le (X := 9223372036854775807) (m := 0) hf (by omega) (fun r hr => ⟨(hf.1 r hr).1, (ho r hr).2.2.2⟩)
  omega
theorem Fit.drop {l : List Rg} (h : Fit l) (j : Nat) : Fit (l.drop j) := ⟨fun r hr => h.1 r (List.mem_of_mem_drop hr), h.2.sublist (List.drop_sublist _ _)⟩

set_option maxHeartbeats 400000 in
theorem size_any (es : List Rg) (ao : Option Addr) (cap : Nat) (w : World) (hc : RgAt es ao w) (hf : Fit es) (ho : ∀ r ∈ es, RgOk r) (hl : es.length ≤ 1000000) :
    Calls Try.prog 25 #[.slice ao es.length cap] w fun e w' => e = .returned (.int .i64 (sizeN es)) ∧ Below w.heap.size w w' := by
  go_enter Try.func25, Try.ntmps25
  go_wp2
  go_loopw [3, 8] (fun t i wr => ∃ (T : Int) (j : Nat), t = .int .i64 T ∧ i = .int .i64 j ∧ j ≤ es.length ∧ 0 ≤ T ∧ sizeN es = T + sizeN (es.drop j) ∧ Below w.heap.size w wr) (fun _ i _ => es.length - (intOf i).toNat)
  case atStart => exact ⟨0, 0, rfl, rfl, Nat.zero_le _, Int.le_refl _, by simp, Below.refl _ _⟩
  case round =>
    obtain ⟨T, j, rfl, rfl, hj, hT, hrel, B1⟩ := hrel
    by_cases hlt : j < es.length
    · obtain ⟨b, off, rfl, c0, c1⟩ := hc.at B1 hlt
      have hm := sizeN_max hf ho
      have h0 := hf.1 _ (List.getElem_mem hlt)
      have hn := sizeN_nonneg (hf.drop (j + 1))
      rw [List.drop_eq_getElem_cons hlt] at hrel
      simp only [sizeN] at hrel
      generalize es[j] = r at *
      obtain ⟨r0, r1⟩ := r
      simp only at c0 c1 hrel h0
      have HR : Hid (sizeN es = T + (r1 - r0) + sizeN (es.drop (j + 1))) := by show _ = _; omega
      have k1 : 0 ≤ r1 - r0 := by omega
      have k2 : r1 - r0 ≤ 9223372036854775807 := by omega
      have k3 : T + (r1 - r0) ≤ 9223372036854775807 := by omega
      clear hrel hc hf ho hm hn
      go_wp2
      exact ⟨⟨T + (r1 - r0), j + 1, by go_num, by go_num, by omega, by omega, HR.out, B1.alloc B1.size _⟩, by simp [intOf]; omega⟩
    · have HS : Hid (sizeN es = T) := by
        show _ = _
        rw [hrel, List.drop_of_length_le (by omega)]
        simp [sizeN]
      clear hrel hc hf ho
      go_wp2
      go_ret
      exact ⟨ret_int HS.out.symm, B1⟩

set_option maxHeartbeats 400000 in
theorem small_any (ao : Option Addr) (n cap : Nat) (w : World) : Calls Try.prog 8 #[.slice ao n cap] w fun e w' => e = .returned (.bool (decide (n ≤ 100))) ∧ w' = w := by
  go_enter Try.func8, Try.ntmps8
  go_wp2
  go_ret
  exact ⟨ret_bool (by simp; omega), rfl⟩

def fitB : Int → List Rg → Bool
  | _, [] => true
  | e, r :: t => if r.1 ≤ e ∨ r.2 ≤ r.1 then false else fitB r.2 t
theorem fitB_iff : ∀ (l : List Rg) (e : Int), -1 ≤ e → (fitB e l = true ↔ Fit l ∧ ∀ r ∈ l, e < r.1)
  | [], e, _ => by simp [fitB, Fit.nil]
  | r :: t, e, he => by
    rw [fitB]
    by_cases h : r.1 ≤ e ∨ r.2 ≤ r.1
    · rw [if_pos h]
      simp only [Bool.false_eq_true, false_iff]
      rintro ⟨h1, h2⟩
      have := h1.1 r (by simp)
      have := h2 r (by simp)
      omega
    · rw [if_neg h, fitB_iff t r.2 (by omega)]
      constructor
      · rintro ⟨h1, h2⟩
        refine ⟨⟨fun s hs => ?_, List.pairwise_cons.2 ⟨h2, h1.2⟩⟩, fun s hs => ?_⟩
        · rcases List.mem_cons.1 hs with rfl | hs
          · omega
          · exact h1.1 s hs
        · rcases List.mem_cons.1 hs with rfl | hs
          · omega
          · have := h2 s hs; omega
      · rintro ⟨h1, h2⟩
        exact ⟨h1.tail, h1.head⟩
theorem fitB_fit (l : List Rg) : fitB (-1) l = true ↔ Fit l := by
  rw [fitB_iff l (-1) (Int.le_refl _)]
  exact ⟨fun h => h.1, fun h => ⟨h, fun r hr => by have := h.1 r hr; omega⟩⟩

set_option maxHeartbeats 400000 in
theorem fit_any (es : List Rg) (ao : Option Addr) (cap : Nat) (w : World) (hc : RgAt es ao w) (hl : es.length ≤ 1000000) :
    Calls Try.prog 13 #[.slice ao es.length cap] w fun e w' => e = .returned (.bool (fitB (-1) es)) ∧ Below w.heap.size w w' := by
  go_enter Try.func13, Try.ntmps13
  go_wp2
  go_loopw [3, 8] (fun t i wr => ∃ (T : Int) (j : Nat), t = .int .i64 T ∧ i = .int .i64 j ∧ j ≤ es.length ∧ fitB (-1) es = fitB T (es.drop j) ∧ Below w.heap.size w wr) (fun _ i _ => es.length - (intOf i).toNat)
  case atStart => exact ⟨-1, 0, rfl, rfl, Nat.zero_le _, by simp, Below.refl _ _⟩
  case round =>
    obtain ⟨T, j, rfl, rfl, hj, hrel, B1⟩ := hrel
    by_cases hlt : j < es.length
    · obtain ⟨b, off, rfl, c0, c1⟩ := hc.at B1 hlt
      rw [List.drop_eq_getElem_cons hlt, fitB] at hrel
      generalize es[j] = r at *
      obtain ⟨r0, r1⟩ := r
      simp only at c0 c1 hrel
      by_cases h1 : r0 ≤ T
      · have HR : Hid (fitB (-1) es = false) := by show _ = _; rw [hrel, if_pos (.inl h1)]
        clear hrel hc
        go_wp2
        go_ret
        exact ⟨ret_bool HR.out.symm, B1.alloc B1.size _⟩
      · by_cases h2 : r1 ≤ r0
        · have HR : Hid (fitB (-1) es = false) := by show _ = _; rw [hrel, if_pos (.inr h2)]
          clear hrel hc
          go_wp2
          go_ret
          exact ⟨ret_bool HR.out.symm, B1.alloc B1.size _⟩
        · have HR : Hid (fitB (-1) es = fitB r1 (es.drop (j + 1))) := by show _ = _; rw [hrel, if_neg (by omega)]
          clear hrel hc
          go_wp2
          exact ⟨⟨r1, j + 1, rfl, by go_num, by omega, HR.out, B1.alloc B1.size _⟩, by simp [intOf]; omega⟩
    · have HS : Hid (fitB (-1) es = true) := by
        show _ = _
        rw [hrel, List.drop_of_length_le (by omega)]
        rfl
      clear hrel hc
      go_wp2
      go_ret
      exact ⟨ret_bool HS.out.symm, B1⟩

set_option maxHeartbeats 400000 in
theorem has_any (es : List Rg) (ao : Option Addr) (cap : Nat) (x : Int) (w : World) (hc : RgAt es ao w) (hl : es.length ≤ 1000000) :
    Calls Try.prog 31 #[.slice ao es.length cap, .int .i64 x] w fun e w' => e = .returned (.bool (hasL es x)) ∧ Below w.heap.size w w' := by
  go_enter Try.func31, Try.ntmps31
  go_wp2
  go_loopw [5] (fun i wr => ∃ (j : Nat), i = .int .i64 j ∧ j ≤ es.length ∧ hasL es x = hasL (es.drop j) x ∧ Below w.heap.size w wr) (fun i _ => es.length - (intOf i).toNat)
  case atStart => exact ⟨0, rfl, Nat.zero_le _, by simp, Below.refl _ _⟩
  case round =>
    obtain ⟨j, rfl, hj, hrel, B1⟩ := hrel
    by_cases hlt : j < es.length
    · obtain ⟨b, off, rfl, c0, c1⟩ := hc.at B1 hlt
      rw [List.drop_eq_getElem_cons hlt, hasL_cons] at hrel
      generalize es[j] = r at *
      obtain ⟨r0, r1⟩ := r
      simp only at c0 c1 hrel
      by_cases h1 : 0 ≤ x
      · by_cases h2 : r0 ≤ x
        · by_cases h3 : x < r1
          · have HR : Hid (hasL es x = true) := by show _ = _; rw [hrel, decide_eq_true ⟨h1, h2, h3⟩]; rfl
            clear hrel hc
            go_wp2
            go_ret
            exact ⟨ret_bool HR.out.symm, B1⟩
          · have HR : Hid (hasL es x = hasL (es.drop (j + 1)) x) := by show _ = _; rw [hrel, decide_eq_false (by omega)]; rfl
            clear hrel hc
            go_wp2
            exact ⟨⟨j + 1, by go_num, by omega, HR.out, B1⟩, by simp [intOf]; omega⟩
        · have HR : Hid (hasL es x = hasL (es.drop (j + 1)) x) := by show _ = _; rw [hrel, decide_eq_false (by omega)]; rfl
          clear hrel hc
          go_wp2
          exact ⟨⟨j + 1, by go_num, by omega, HR.out, B1⟩, by simp [intOf]; omega⟩
      · have HR : Hid (hasL es x = hasL (es.drop (j + 1)) x) := by show _ = _; rw [hrel, decide_eq_false (by omega)]; rfl
        clear hrel hc
        go_wp2
        exact ⟨⟨j + 1, by go_num, by omega, HR.out, B1⟩, by simp [intOf]; omega⟩
    · have HS : Hid (hasL es x = false) := by
        show _ = _
        rw [hrel, List.drop_of_length_le (by omega)]
        rfl
      clear hrel hc
      go_wp2
      go_ret
      exact ⟨ret_bool HS.out.symm, B1⟩

set_option maxHeartbeats 800000 in
theorem same_any (es fs : List Rg) (ao bo : Option Addr) (cap dap : Nat) (w : World) (hc : RgAt es ao w) (hd : RgAt fs bo w) (hl : es.length ≤ 1000000) (_hm : fs.length ≤ 1000000) :
    Calls Try.prog 10 #[.slice ao es.length cap, .slice bo fs.length dap] w fun e w' => e = .returned (.bool (decide (es = fs))) ∧ Below w.heap.size w w' := by
  by_cases hn : es.length = fs.length
  · have hn' : (es.length : Int) = fs.length := by omega
    rw [← hn]
    go_enter Try.func10, Try.ntmps10
    go_wp2
    go_loopw [5] (fun i wr => ∃ (j : Nat), i = .int .i64 j ∧ j ≤ es.length ∧ (es = fs ↔ es.drop j = fs.drop j) ∧ Below w.heap.size w wr) (fun i _ => es.length - (intOf i).toNat)
    case atStart => exact ⟨0, rfl, Nat.zero_le _, by simp, Below.refl _ _⟩
    case round =>
      obtain ⟨j, rfl, hj, hrel, B1⟩ := hrel
      by_cases hlt : j < es.length
      · have hlt2 : j < fs.length := by omega
        obtain ⟨b, off, rfl, c0, c1⟩ := hc.at B1 hlt
        obtain ⟨b2, off2, rfl, d0, d1⟩ := hd.at B1 hlt2
        rw [List.drop_eq_getElem_cons hlt, List.drop_eq_getElem_cons hlt2] at hrel
        generalize es[j] = r at *
        generalize fs[j] = q at *
        obtain ⟨r0, r1⟩ := r
        obtain ⟨q0, q1⟩ := q
        simp only at c0 c1 d0 d1
        simp only [List.cons.injEq, Prod.mk.injEq] at hrel
        have HN : Hid (es.length = fs.length) := hn
        clear hc hd hn hn' hlt2
        by_cases h1 : r0 = q0
        · by_cases h2 : r1 = q1
          · have HR : Hid (es = fs ↔ es.drop (j + 1) = fs.drop (j + 1)) := by show _ ↔ _; rw [hrel]; exact ⟨fun h => h.2, fun h => ⟨⟨h1, h2⟩, h⟩⟩
            clear hrel
            subst h1 h2
            go_wp2
            go_quiet (fail)
            go_wp2
            exact ⟨⟨j + 1, by go_num, by omega, HR.out, below_drewN B1 _⟩, by simp [intOf]; omega⟩
          · have HR : Hid (¬ es = fs) := by show ¬ _; rw [hrel]; exact fun h => h2 h.1.2
            clear hrel
            subst h1
            have h3 : (r1 == q1) = false := by simpa using h2
            go_wp2
            go_quiet (fail)
            go_wp2
            go_ret
            exact ⟨ret_bool (by simp [HR.out]), below_drewN B1 _⟩
        · have HR : Hid (¬ es = fs) := by show ¬ _; rw [hrel]; exact fun h => h1 h.1.1
          clear hrel
          have h3 : (r0 == q0) = false := by simpa using h1
          go_wp2
          go_quiet (fail)
          go_wp2
          go_ret
          exact ⟨ret_bool (by simp [HR.out]), below_drewN B1 _⟩
      · have HS : Hid (es = fs) := by
          show _ = _
          rw [hrel, List.drop_of_length_le (by omega), List.drop_of_length_le (by omega)]
        clear hrel hc hd
        go_wp2
        go_ret
        exact ⟨ret_bool (by simp [HS.out]), B1⟩
  · have hn' : ¬ (es.length : Int) = fs.length := by omega
    have HS : Hid (¬ es = fs) := fun h => hn (by rw [h])
    have hn2 : ((es.length : Int) != fs.length) = true := by simpa using hn'
    clear hc hd hn
    go_enter Try.func10, Try.ntmps10
    go_wp2
    go_ret
    exact ⟨ret_bool (by simp [HS.out]), Below.refl _ _⟩
end Go.Proofs.Ytdkgeeimhjffdaa
