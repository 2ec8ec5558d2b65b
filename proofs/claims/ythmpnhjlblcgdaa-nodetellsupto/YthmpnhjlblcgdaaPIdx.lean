/- At's question, and the first of the kids of which it is true. -/
import Derived.Test.YthmpnhjlblcgdaaNRows
namespace Go.Proofs.Ythmpnhjlblcgdaa
open Go.RowKit

def hasB (h : Hd) (f t : Int) : Bool := decide (h.frm ≤ f) && decide (t ≤ h.to)
def idxN (l : List Nd) (f t : Int) : Int := match l.findIdx? (fun k => hasB k.h f t) with
  | none => -1
  | some i => i
theorem idxN_some {l : List Nd} {f t : Int} {j : Nat} (hj : j < l.length) (h : hasB l[j].h f t = true) (hb : ∀ i (hi : i < l.length), i < j → hasB l[i].h f t = false) : idxN l f t = j := by
  have : l.findIdx? (fun k => hasB k.h f t) = some j := List.findIdx?_eq_some_iff_getElem.2 ⟨hj, h, fun i hi => by have := hb i (by omega) hi; simp [this]⟩
  unfold idxN
  rw [this]
theorem idxN_none {l : List Nd} {f t : Int} (hb : ∀ i (hi : i < l.length), hasB l[i].h f t = false) : idxN l f t = -1 := by
  have : l.findIdx? (fun k => hasB k.h f t) = none := List.findIdx?_eq_none_iff.2 (fun x hx => by
    obtain ⟨i, hi, rfl⟩ := List.getElem_of_mem hx
    exact hb i hi)
  unfold idxN
  rw [this]

set_option maxRecDepth 100000 in
set_option maxHeartbeats 2000000 in
theorem holds_any (h : Hd) (kv : Value) (P1 P2 : Nat) (f t : Int) (w : World) (c1 : w.cell? ⟨P1, 0, none⟩ = some (.int .i64 f)) (c2 : w.cell? ⟨P2, 0, none⟩ = some (.int .i64 t)) :
    Calls Try.prog 41 #[ndV h kv, .pointer (some ⟨P1, 0, none⟩), .pointer (some ⟨P2, 0, none⟩)] w fun e w' => e = .returned (.bool (hasB h f t)) ∧ Below w.heap.size w w' := by
  obtain ⟨zk, zn, zf, zr, zt, zb⟩ := h
  unfold ndV hasB
  simp only
  have hB0 : Below w.heap.size w (w.alloc (Obj.cells #[Value.string zk, Value.bool zn, Value.string zf, Value.int IntKind.i64 zr, Value.int IntKind.i64 zt, Value.int IntKind.i64 zb, kv] 24)) := (Below.refl _ _).alloc (Nat.le_refl _) _
  have d1 := (hB0.cell (p := ⟨P1, 0, none⟩) (World.block_lt_of_cell? _ _ c1)).trans c1
  have d2 := (hB0.cell (p := ⟨P2, 0, none⟩) (World.block_lt_of_cell? _ _ c2)).trans c2
  by_cases g1 : zr ≤ f
  · go_enter Try.func41, Try.ntmps41
    go_wp2
    all_goals
      go_ret
      exact ⟨ret_bool (by simp_all), hB0⟩
  · have g1' : f < zr := by omega
    go_enter Try.func41, Try.ntmps41
    go_wp2
    all_goals
      go_ret
      exact ⟨ret_bool (by simp; omega), hB0⟩

set_option maxRecDepth 100000 in
set_option maxHeartbeats 2000000 in
theorem idx_any {A : Nat → Prop} (n : Nat) (subs : List Nd) (ba : Option Addr) (bc P1 P2 : Nat) (f t : Int) (w : World) (hK : KidsAt A n subs ba w) (hlb : subs.length ≤ 140737488351232) (c1 : w.cell? ⟨P1, 0, none⟩ = some (.int .i64 f)) (c2 : w.cell? ⟨P2, 0, none⟩ = some (.int .i64 t)) :
    Calls Try.prog 42 #[.slice ba subs.length bc, .func (.func 41) #[] #[.pointer (some ⟨P1, 0, none⟩), .pointer (some ⟨P2, 0, none⟩)]] w fun e w' => e = .returned (.int .i64 (idxN subs f t)) ∧ Below w.heap.size w w' := by
  have HV : Hid (idxN subs f t = idxN subs f t) := rfl
  have HC : Hid (∀ W, Below w.heap.size w W → W.cell? ⟨P1, 0, none⟩ = some (.int .i64 f) ∧ W.cell? ⟨P2, 0, none⟩ = some (.int .i64 t)) := fun W hb => ⟨(hb.cell (p := ⟨P1, 0, none⟩) (World.block_lt_of_cell? _ _ c1)).trans c1, (hb.cell (p := ⟨P2, 0, none⟩) (World.block_lt_of_cell? _ _ c2)).trans c2⟩
  have HS : Hid (∀ j (hj : j < subs.length), hasB subs[j].h f t = true → (∀ i (hi : i < subs.length), i < j → hasB subs[i].h f t = false) → idxN subs f t = j) := fun j hj h1 h2 => idxN_some hj h1 h2
  have HN : Hid ((∀ i (hi : i < subs.length), hasB subs[i].h f t = false) → idxN subs f t = -1) := fun h => idxN_none h
  generalize idxN subs f t = V at *
  have HK : Hid (KidsAt A n subs ba w) := hK
  clear hK c1 c2 HV
  go_enter Try.func42, Try.ntmps42
  go_wp2
  go_loopw [8] (fun c wr => ∃ j : Nat, c = .int .i64 j ∧ j ≤ subs.length ∧ Below w.heap.size w wr ∧ Hid (∀ i (hi : i < subs.length), i < j → hasB subs[i].h f t = false)) (fun c _ => subs.length - (intOf c).toNat)
  case atStart => exact ⟨0, rfl, Nat.zero_le _, Below.refl _ _, fun i _ h => by omega⟩
  case round =>
    obtain ⟨j, rfl, hj, hB, HF⟩ := hrel
    by_cases hlt : j < subs.length
    · have k1 : (j : Int) < subs.length := by omega
      obtain ⟨b, off, ka, kc, rfl, _, hb, ⟨e0, e1, e2, e3, e4, e5, e6⟩, _⟩ := HK.out.at hB hlt
      obtain ⟨q1, q2⟩ := HC.out wr hB
      have hh := holds_any subs[j].h (.slice ka subs[j].kids.length kc) P1 P2 f t wr q1 q2
      cases hsb : hasB subs[j].h f t with
      | true =>
        have hV := HS.out j hlt hsb HF.out
        rw [hsb] at hh
        generalize subs[j].h = sh at *
        generalize subs[j].kids.length = sk at *
        obtain ⟨xk, xn, xf, xr, xt, xb⟩ := sh
        unfold ndV at hh
        simp only at *
        have HVV : Hid (V = (j : Int)) := hV
        clear HF HS HN HK HC hV hsb
        go_wp2_with fail
        refine hh.mono ?_
        rintro e w2 ⟨rfl, hb2⟩
        clear hh
        go_wp2
        go_ret
        exact ⟨ret_int HVV.out.symm, below_next hB hb2⟩
      | false =>
        have HF2 : Hid (∀ i (hi : i < subs.length), i < j + 1 → hasB subs[i].h f t = false) := fun i hi h => by
          by_cases e : i = j
          · subst e; exact hsb
          · exact HF.out i hi (by omega)
        rw [hsb] at hh
        generalize subs[j].h = sh at *
        generalize subs[j].kids.length = sk at *
        obtain ⟨xk, xn, xf, xr, xt, xb⟩ := sh
        unfold ndV at hh
        simp only at *
        clear HF HS HN HK HC hsb
        go_wp2_with fail
        refine hh.mono ?_
        rintro e w2 ⟨rfl, hb2⟩
        clear hh
        go_wp2
        exact ⟨⟨j + 1, by go_num, by omega, below_next hB hb2, HF2⟩, by simp [intOf]; omega⟩
    · have k1 : ¬ (j : Int) < subs.length := by omega
      have HVV : Hid (V = -1) := HN.out (fun i hi => HF.out i hi (by omega))
      clear HF HS HN HK HC
      go_wp2
      go_ret
      exact ⟨ret_int HVV.out.symm, hB⟩
end Go.Proofs.Ythmpnhjlblcgdaa
