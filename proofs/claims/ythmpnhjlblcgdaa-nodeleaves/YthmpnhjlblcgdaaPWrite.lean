/- write, writeKids, Print. -/
import Derived.Test.YthmpnhjlblcgdaaPBuild
import Derived.Test.YthmpnhjlblcgdaaRSame
namespace Go.Proofs.Ythmpnhjlblcgdaa
open Go.RowKit Go.Shelf

def fieldP (h : Hd) : List UInt8 := if h.field.size = 0 then [] else h.field.data.toList ++ [58, 32]
mutual
def printN : Nd → List UInt8
  | .mk h l => fieldP h ++ (if h.bad = 2 then [40, 77, 73, 83, 83, 73, 78, 71, 32] ++ h.kind.data.toList ++ [41] else if h.named = true ∨ h.bad = 1 then [40] ++ h.kind.data.toList ++ kidsP [32] l ++ [41] else h.kind.data.toList ++ (kidsP [91] l ++ (if l.length = 0 then [] else [93])))
def kidsP (ahead : List UInt8) : List Nd → List UInt8
  | [] => []
  | t :: l => ahead ++ printN t ++ kidsP [32] l
 end
theorem printN_mk (t : Nd) : printN t = fieldP t.h ++ (if t.h.bad = 2 then [40, 77, 73, 83, 83, 73, 78, 71, 32] ++ t.h.kind.data.toList ++ [41] else if t.h.named = true ∨ t.h.bad = 1 then [40] ++ t.h.kind.data.toList ++ kidsP [32] t.kids ++ [41] else t.h.kind.data.toList ++ (kidsP [91] t.kids ++ (if t.kids.length = 0 then [] else [93]))) := by
  cases t
  rw [printN]
  rfl
def aheadP (a : List UInt8) (j : Nat) : List UInt8 := if j = 0 then a else [32]
theorem kidsP_app (a : List UInt8) (l : List Nd) (t : Nd) : kidsP a (l ++ [t]) = kidsP a l ++ (aheadP a l.length ++ printN t) := by
  induction l generalizing a with
  | nil => simp [kidsP, aheadP]
  | cons x l ih =>
    rw [List.cons_append, kidsP, ih, kidsP]
    simp [aheadP]
theorem kidsP_take {l : List Nd} {j : Nat} (h : j < l.length) (a : List UInt8) : kidsP a (l.take (j + 1)) = kidsP a (l.take j) ++ (aheadP a j ++ printN l[j]) := by
  rw [List.take_succ_eq_append_getElem h, kidsP_app]
  simp [Nat.min_eq_left (Nat.le_of_lt h)]
theorem kidsP_le (a : List UInt8) (l : List Nd) (j : Nat) : (kidsP a (l.take j)).length ≤ (kidsP a l).length := by
  rcases Nat.lt_or_ge j l.length with h | h
  · have : ∀ k, j + k ≤ l.length → (kidsP a (l.take j)).length ≤ (kidsP a (l.take (j + k))).length := by
      intro k
      induction k with
      | zero => intro _; exact Nat.le_refl _
      | succ k ih =>
        intro hk
        rw [show j + (k + 1) = (j + k) + 1 from rfl, kidsP_take (by omega)]
        have := ih (by omega)
        simp only [List.length_append]
        omega
    have h2 := this (l.length - j) (by omega)
    rw [show j + (l.length - j) = l.length by omega, List.take_length] at h2
    exact h2
  · rw [List.take_of_length_le h]; exact Nat.le_refl _
theorem toList_len (s : ByteArray) : s.data.toList.length = s.size := by rw [Array.length_toList]; rfl
theorem szB (a : Array UInt8) : (ByteArray.mk a).size = a.size := rfl
/-- What a call of write leaves. -/
def Wrote (f B b : Nat) (args : Array Value) (l add : List UInt8) (W : World) : Prop :=
  Calls Try.prog f args W fun e w' => e = .returned (.tuple #[]) ∧ BAt B b (l ++ add) w' ∧ BStep B b W w'
/-- The contract of write, at one depth of trees. -/
def Writes (A : Nat → Prop) (n : Nat) : Prop := ∀ (t : Nd) (v : Value) (B b : Nat) (l : List UInt8) (w0 w : World), TAt A n t v w0 → Below w0.heap.size w0 w → w0.heap.size ≤ B → BAt B b l w → l.length + (printN t).length + 1000 ≤ 140737488355328 → B ≤ w.heap.size →
    Wrote 38 B b #[.pointer (some ⟨b, 0, none⟩), v] l (printN t) w

set_option maxRecDepth 100000 in
set_option maxHeartbeats 4000000 in
theorem writeKids_of {A : Nat → Prop} (n : Nat) (ih : Writes A n) (subs : List Nd) (ba : Option Addr) (bc B b : Nat) (ah bh : ByteArray) (l : List UInt8) (w0 w : World) (hK : KidsAt A n subs ba w0) (hlb : subs.length ≤ 140737488351232) (h0 : Below w0.heap.size w0 w) (hB0 : w0.heap.size ≤ B) (h : BAt B b l w)
    (hlen : l.length + (kidsP ah.data.toList subs).length + 1000 ≤ 140737488355328) (hbh : bh.size ≤ 10) (hBw : B ≤ w.heap.size) :
    Wrote 49 B b #[.pointer (some ⟨b, 0, none⟩), .slice ba subs.length bc, .string ah, .string bh] l (kidsP ah.data.toList subs ++ (if subs.length = 0 then [] else bh.data.toList)) w := by
  unfold Wrote
  by_cases hz : subs.length = 0
  · have hz' : (subs.length : Int) = 0 := by omega
    have hs : subs = [] := List.eq_nil_of_length_eq_zero hz
    rw [if_pos hz, hs]
    simp only [kidsP, List.append_nil, List.length_nil]
    clear ih hK hz hz'
    go_enter Try.func49, Try.ntmps49
    go_wp2
    exact bodyPost_ret (results_none rfl _ _ _) rfl ⟨rfl, h, BStep.refl _ _ _⟩
  · have hz' : ((subs.length : Int) == 0) = false := beq_eq_false_iff_ne.2 (by omega)
    have hz2 : ¬ (subs.length : Int) = 0 := by omega
    rw [if_neg hz]
    have HK : Hid (KidsAt A n subs ba w0) := hK
    have HIH : Hid (Writes A n) := ih
    have HLEN : Hid (l.length + (kidsP ah.data.toList subs).length + 1000 ≤ 140737488355328) := hlen
    have HNZ : Hid (¬ subs.length = 0) := hz
    clear hK ih hlen hz
    go_enter Try.func49, Try.ntmps49
    go_wp2
    go_loopw [2, 15] (fun s c wr => ∃ (j : Nat) (sb : ByteArray), c = .int .i64 j ∧ s = .string sb ∧ j ≤ subs.length ∧ Hid (sb.data.toList = aheadP ah.data.toList j) ∧ BAt B b (l ++ kidsP ah.data.toList (subs.take j)) wr ∧ BStep B b w wr) (fun _ c _ => subs.length - (intOf c).toNat)
    case atStart => exact ⟨0, ah, rfl, rfl, Nat.zero_le _, by show _ = _; simp [aheadP], by simpa [kidsP] using h, BStep.refl _ _ _⟩
    case round =>
      obtain ⟨j, sb, rfl, rfl, hj, HSB, hAr, hS⟩ := hrel
      have hBr : B ≤ wr.heap.size := Nat.le_trans hBw hS.size
      have h0r : Below w0.heap.size w0 wr := hS.from h0 hB0
      by_cases hlt : j < subs.length
      · have k1 : (j : Int) < subs.length := by omega
        obtain ⟨b2, off, ka, kc, rfl, _, hb, ⟨e0, e1, e2, e3, e4, e5, e6⟩, hT⟩ := HK.out.at h0r hlt
        have HT0 : Hid (TAt A n subs[j] (ndV subs[j].h (.slice ka subs[j].kids.length kc)) w0 ∨ True) := .inr trivial
        have HTR : Hid (TAt A n subs[j] (ndV subs[j].h (.slice ka subs[j].kids.length kc)) w0) := by
          obtain ⟨b3, off3, ka3, kc3, q0, q1, q2, q3, q4⟩ := HK.out j subs[j] (by simp [hlt])
          cases q0
          have e6' : wr.cell? ⟨b2, off + j * 7 + 6, none⟩ = w0.cell? ⟨b2, off + j * 7 + 6, none⟩ := h0r.cell (p := ⟨b2, off + j * 7 + 6, none⟩) q2
          have q36 := q3.2.2.2.2.2.2
          rw [e6', q36] at e6
          cases e6
          exact q4
        have HPT : Hid (kidsP ah.data.toList (subs.take (j + 1)) = kidsP ah.data.toList (subs.take j) ++ (aheadP ah.data.toList j ++ printN subs[j])) := kidsP_take hlt _
        have hle := kidsP_le ah.data.toList subs (j + 1)
        rw [HPT.out] at hle
        simp only [List.length_append] at hle
        have hsl := HSB.out
        have hlen := HLEN.out
        have hsbl := toList_len sb
        rw [hsl] at hsbl
        generalize hpj : printN subs[j] = PJ at *
        have HPJ : Hid (printN subs[j] = PJ) := hpj
        have HWR : Hid (∀ (l' : List UInt8) (W : World), Below w0.heap.size w0 W → BAt B b l' W → l'.length + PJ.length + 1000 ≤ 140737488355328 → B ≤ W.heap.size → Calls Try.prog 38 #[.pointer (some ⟨b, 0, none⟩), ndV subs[j].h (.slice ka subs[j].kids.length kc)] W fun e w' => e = .returned (.tuple #[]) ∧ BAt B b (l' ++ PJ) w' ∧ BStep B b W w') := fun l' W q1 q2 q3 q4 => by
          have := HIH.out subs[j] _ B b l' w0 W HTR.out q1 hB0 q2 (by rw [HPJ.out]; exact q3) q4
          unfold Wrote at this
          rw [HPJ.out] at this
          exact this
        clear hpj hT HTR HT0 HPJ
        generalize subs[j].h = sh at *
        generalize subs[j].kids.length = sk at *
        obtain ⟨xk, xn, xf, xr, xt, xb⟩ := sh
        unfold ndV at HWR
        simp only at *
        have hbx : (wr.alloc (Obj.cells #[Value.string xk, Value.bool xn, Value.string xf, Value.int IntKind.i64 xr, Value.int IntKind.i64 xt, Value.int IntKind.i64 xb, Value.slice ka sk kc] 24)).heap[wr.heap.size]? = some (.cells #[Value.string xk, Value.bool xn, Value.string xf, Value.int IntKind.i64 xr, Value.int IntKind.i64 xt, Value.int IntKind.i64 xb, Value.slice ka sk kc] 24 (0, 0)) := World.alloc_heap_new wr _
        have hbn : wr.heap.size ≠ b := by have := hAr.lt; omega
        have hS1 : BStep B b w (wr.alloc (Obj.cells #[Value.string xk, Value.bool xn, Value.string xf, Value.int IntKind.i64 xr, Value.int IntKind.i64 xt, Value.int IntKind.i64 xb, Value.slice ka sk kc] 24)) := hS.trans (BStep.alloc B b wr _ hBr)
        have h1 := hAr.alloc (Obj.cells #[Value.string xk, Value.bool xn, Value.string xf, Value.int IntKind.i64 xr, Value.int IntKind.i64 xt, Value.int IntKind.i64 xb, Value.slice ka sk kc] 24)
        have hB1 : B ≤ (wr.alloc (Obj.cells #[Value.string xk, Value.bool xn, Value.string xf, Value.int IntKind.i64 xr, Value.int IntKind.i64 xt, Value.int IntKind.i64 xb, Value.slice ka sk kc] 24)).heap.size := Nat.le_trans hBw hS1.size
        have hws := writeString_any B b _ sb _ h1 (by simp only [List.length_append]; omega) hB1
        rw [hsl] at hws
        have HS1 : Hid (BStep B b w (wr.alloc (Obj.cells #[Value.string xk, Value.bool xn, Value.string xf, Value.int IntKind.i64 xr, Value.int IntKind.i64 xt, Value.int IntKind.i64 xb, Value.slice ka sk kc] 24))) := hS1
        go_wp2_with fail
        refine hws.mono ?_
        rintro e w3 ⟨rfl, h3, hs3⟩
        have hB3 : B ≤ w3.heap.size := Nat.le_trans hB1 hs3.size
        have hbx3 := hs3.box hbx hbn (by decide)
        have HS3 : Hid (BStep B b w w3) := HS1.out.trans hs3
        have hwr := HWR.out _ w3 (HS3.out.from h0 hB0) h3 (by simp only [List.length_append]; omega) hB3
        have c : ∀ o, w3.cell? ⟨wr.heap.size, o, none⟩ = #[Value.string xk, Value.bool xn, Value.string xf, Value.int IntKind.i64 xr, Value.int IntKind.i64 xt, Value.int IntKind.i64 xb, Value.slice ka sk kc][o]? := fun o => by simp [World.cell?, hbx3]
        have c0 : w3.cell? ⟨wr.heap.size, 0, none⟩ = some (.string xk) := c 0
        have c1 : w3.cell? ⟨wr.heap.size, 1, none⟩ = some (.bool xn) := c 1
        have c2 : w3.cell? ⟨wr.heap.size, 2, none⟩ = some (.string xf) := c 2
        have c3 : w3.cell? ⟨wr.heap.size, 3, none⟩ = some (.int .i64 xr) := c 3
        have c4 : w3.cell? ⟨wr.heap.size, 4, none⟩ = some (.int .i64 xt) := c 4
        have c5 : w3.cell? ⟨wr.heap.size, 5, none⟩ = some (.int .i64 xb) := c 5
        have c6 : w3.cell? ⟨wr.heap.size, 6, none⟩ = some (.slice ka sk kc) := c 6
        clear hws HWR HIH HK c hbx hbx3 h1 h3 hS1 hs3
        go_wp2_with fail
        refine hwr.mono ?_
        rintro e w4 ⟨rfl, h4, hs4⟩
        have HE : Hid (BAt B b (l ++ kidsP ah.data.toList (subs.take (j + 1))) w4) := by
          show BAt _ _ _ _
          rw [HPT.out]
          simpa [List.append_assoc] using h4
        have HS4 : Hid (BStep B b w w4) := HS3.out.trans hs4
        clear hwr h4 hs4 c0 c1 c2 c3 c4 c5 c6
        go_wp2_with fail
        exact ⟨⟨j + 1, ⟨#[32]⟩, by go_num, rfl, by omega, by show _ = _; simp [aheadP], HE.out, HS4.out⟩, by simp [intOf]; omega⟩
      · have k1 : ¬ (j : Int) < subs.length := by omega
        have hjs : subs.take j = subs := List.take_of_length_le (by omega)
        rw [hjs] at hAr
        have hlen := HLEN.out
        have hws := writeString_any B b _ bh wr hAr (by simp only [List.length_append]; omega) hBr
        clear HK HIH
        go_wp2_with fail
        refine hws.mono ?_
        rintro e w3 ⟨rfl, h3, hs3⟩
        have HE : Hid (BAt B b (l ++ (kidsP ah.data.toList subs ++ bh.data.toList)) w3) := by show BAt _ _ _ _; simpa [List.append_assoc] using h3
        have HS3 : Hid (BStep B b w w3) := hS.trans hs3
        clear hws h3 hs3
        go_wp2_with fail
        go_end0
        exact ⟨rfl, HE.out, HS3.out⟩

set_option maxRecDepth 100000 in
set_option maxHeartbeats 8000000 in
theorem write_step {A : Nat → Prop} (n : Nat) (ih : Writes A n) : Writes A (n + 1) := by
  intro t v B b l w0 w h h0 hB0 hA0 hlen hBw
  unfold Wrote
  obtain ⟨ba, bc, rfl, hok, _, _, hlb, hsubs0⟩ := h
  have hsubs : KidsAt A n t.kids ba w0 := hsubs0
  clear hsubs0
  have HWK : Hid (∀ (ah bh : ByteArray) (l' : List UInt8) (W : World), Below w0.heap.size w0 W → BAt B b l' W → l'.length + (kidsP ah.data.toList t.kids).length + 1000 ≤ 140737488355328 → bh.size ≤ 10 → B ≤ W.heap.size → Calls Try.prog 49 #[.pointer (some ⟨b, 0, none⟩), .slice ba t.kids.length bc, .string ah, .string bh] W fun e w' => e = .returned (.tuple #[]) ∧ BAt B b (l' ++ (kidsP ah.data.toList t.kids ++ (if t.kids.length = 0 then [] else bh.data.toList))) w' ∧ BStep B b W w') := fun ah bh l' W q1 q2 q3 q5 q4 => writeKids_of n ih t.kids ba bc B b ah bh l' w0 W hsubs hlb q1 hB0 q2 q3 q5 q4
  clear hsubs ih
  have HPR := printN_mk t
  generalize printN t = PT at *
  have hk := hok.kind
  have hf := hok.field
  clear hok
  generalize hkl : t.kids.length = kl at *
  generalize t.kids = subs at *
  generalize t.h = hd at *
  obtain ⟨zk, zn, zf, zr, zt, zb⟩ := hd
  unfold ndV
  simp only at *
  have hbx0 : (w.alloc (Obj.cells #[Value.string zk, Value.bool zn, Value.string zf, Value.int IntKind.i64 zr, Value.int IntKind.i64 zt, Value.int IntKind.i64 zb, Value.slice ba kl bc] 24)).heap[w.heap.size]? = some (.cells #[Value.string zk, Value.bool zn, Value.string zf, Value.int IntKind.i64 zr, Value.int IntKind.i64 zt, Value.int IntKind.i64 zb, Value.slice ba kl bc] 24 (0, 0)) := World.alloc_heap_new w _
  have hbn0 : w.heap.size ≠ b := by have := hA0.lt; omega
  have HS0 : Hid (BStep B b w (w.alloc (Obj.cells #[Value.string zk, Value.bool zn, Value.string zf, Value.int IntKind.i64 zr, Value.int IntKind.i64 zt, Value.int IntKind.i64 zb, Value.slice ba kl bc] 24))) := BStep.alloc B b w _ hBw
  have hS0 : BStep B b w (w.alloc (Obj.cells #[Value.string zk, Value.bool zn, Value.string zf, Value.int IntKind.i64 zr, Value.int IntKind.i64 zt, Value.int IntKind.i64 zb, Value.slice ba kl bc] 24)) := BStep.alloc B b w _ hBw
  have hA1 := hA0.alloc (Obj.cells #[Value.string zk, Value.bool zn, Value.string zf, Value.int IntKind.i64 zr, Value.int IntKind.i64 zt, Value.int IntKind.i64 zb, Value.slice ba kl bc] 24)
  have hB1' : B ≤ (w.alloc (Obj.cells #[Value.string zk, Value.bool zn, Value.string zf, Value.int IntKind.i64 zr, Value.int IntKind.i64 zt, Value.int IntKind.i64 zb, Value.slice ba kl bc] 24)).heap.size := Nat.le_trans hBw hS0.size
  by_cases hfz : zf.size = 0
  · have hfz' : zf.toList = [] := by
      rw [ByteArray.toList_eq]
      exact List.eq_nil_of_length_eq_zero (by rw [toList_len]; exact hfz)
    have HPT0 : Hid (fieldP ⟨zk, zn, zf, zr, zt, zb⟩ = []) := by show _ = _; unfold fieldP; rw [if_pos hfz]
    rw [HPT0.out, List.nil_append] at HPR
    go_enter Try.func38, Try.ntmps38
    by_cases hb2 : zb = 2
    · subst hb2
      have HPT : Hid (PT = ([40, 77, 73, 83, 83, 73, 78, 71, 32] ++ zk.data.toList ++ [41])) := by show _ = _; rw [HPR]; simp []
      have hlen2 := hlen
      rw [HPT.out] at hlen2
      clear HPR hlen
      have hc0 := writeString_any B b (l) ⟨#[40, 77, 73, 83, 83, 73, 78, 71, 32]⟩ _ hA1 (by show (l).length + 9 ≤ 140737488355328; simp only [List.length_append, List.length_cons, List.length_nil, toList_len] at hlen2 ⊢; omega) hB1'
      go_wp2_with fail
      refine hc0.mono ?_
      rintro e wk0 ⟨rfl, hr0, hs0⟩
      have hk0 : BAt B b ((l) ++ [40, 77, 73, 83, 83, 73, 78, 71, 32]) wk0 := hr0
      clear hr0
      have hBk0 : B ≤ wk0.heap.size := Nat.le_trans hB1' hs0.size
      have HSk0 : Hid (BStep B b w wk0) := HS0.out.trans hs0
      have hbx1 := hs0.box hbx0 hbn0 (by decide)
      have qc0 : ∀ o, wk0.cell? ⟨w.heap.size, o, none⟩ = #[Value.string zk, Value.bool zn, Value.string zf, Value.int IntKind.i64 zr, Value.int IntKind.i64 zt, Value.int IntKind.i64 2, Value.slice ba kl bc][o]? := fun o => by simp [World.cell?, hbx1]
      have q00 : wk0.cell? ⟨w.heap.size, 0, none⟩ = some (.string zk) := qc0 0
      have q01 : wk0.cell? ⟨w.heap.size, 1, none⟩ = some (.bool zn) := qc0 1
      have q02 : wk0.cell? ⟨w.heap.size, 2, none⟩ = some (.string zf) := qc0 2
      have q03 : wk0.cell? ⟨w.heap.size, 3, none⟩ = some (.int .i64 zr) := qc0 3
      have q04 : wk0.cell? ⟨w.heap.size, 4, none⟩ = some (.int .i64 zt) := qc0 4
      have q05 : wk0.cell? ⟨w.heap.size, 5, none⟩ = some (.int .i64 2) := qc0 5
      have q06 : wk0.cell? ⟨w.heap.size, 6, none⟩ = some (.slice ba kl bc) := qc0 6
      clear hc0 qc0
      have hc1 := writeString_any B b ((l) ++ [40, 77, 73, 83, 83, 73, 78, 71, 32]) zk _ hk0 (by show ((l) ++ [40, 77, 73, 83, 83, 73, 78, 71, 32]).length + zk.size ≤ 140737488355328; simp only [List.length_append, List.length_cons, List.length_nil, toList_len] at hlen2 ⊢; omega) hBk0
      go_wp2_with fail
      refine hc1.mono ?_
      rintro e wk1 ⟨rfl, hr1, hs1⟩
      have hk1 : BAt B b (((l) ++ [40, 77, 73, 83, 83, 73, 78, 71, 32]) ++ zk.data.toList) wk1 := hr1
      clear hr1
      have hBk1 : B ≤ wk1.heap.size := Nat.le_trans hBk0 hs1.size
      have HSk1 : Hid (BStep B b w wk1) := HSk0.out.trans hs1
      have hbx2 := hs1.box hbx1 hbn0 (by decide)
      have qc1 : ∀ o, wk1.cell? ⟨w.heap.size, o, none⟩ = #[Value.string zk, Value.bool zn, Value.string zf, Value.int IntKind.i64 zr, Value.int IntKind.i64 zt, Value.int IntKind.i64 2, Value.slice ba kl bc][o]? := fun o => by simp [World.cell?, hbx2]
      have q10 : wk1.cell? ⟨w.heap.size, 0, none⟩ = some (.string zk) := qc1 0
      have q11 : wk1.cell? ⟨w.heap.size, 1, none⟩ = some (.bool zn) := qc1 1
      have q12 : wk1.cell? ⟨w.heap.size, 2, none⟩ = some (.string zf) := qc1 2
      have q13 : wk1.cell? ⟨w.heap.size, 3, none⟩ = some (.int .i64 zr) := qc1 3
      have q14 : wk1.cell? ⟨w.heap.size, 4, none⟩ = some (.int .i64 zt) := qc1 4
      have q15 : wk1.cell? ⟨w.heap.size, 5, none⟩ = some (.int .i64 2) := qc1 5
      have q16 : wk1.cell? ⟨w.heap.size, 6, none⟩ = some (.slice ba kl bc) := qc1 6
      clear hc1 qc1 q00 q01 q02 q03 q04 q05 q06
      have hc2 := writeString_any B b (((l) ++ [40, 77, 73, 83, 83, 73, 78, 71, 32]) ++ zk.data.toList) ⟨#[41]⟩ _ hk1 (by show (((l) ++ [40, 77, 73, 83, 83, 73, 78, 71, 32]) ++ zk.data.toList).length + 1 ≤ 140737488355328; simp only [List.length_append, List.length_cons, List.length_nil, toList_len] at hlen2 ⊢; omega) hBk1
      go_wp2_with fail
      refine hc2.mono ?_
      rintro e wk2 ⟨rfl, hr2, hs2⟩
      have hk2 : BAt B b ((((l) ++ [40, 77, 73, 83, 83, 73, 78, 71, 32]) ++ zk.data.toList) ++ [41]) wk2 := hr2
      clear hr2
      have hBk2 : B ≤ wk2.heap.size := Nat.le_trans hBk1 hs2.size
      have HSk2 : Hid (BStep B b w wk2) := HSk1.out.trans hs2
      have hbx3 := hs2.box hbx2 hbn0 (by decide)
      have HE : Hid (BAt B b (l ++ PT) wk2) := by show BAt _ _ _ _; rw [HPT.out]; simpa using hk2
      go_wp2_with fail
      go_end0
      exact ⟨rfl, HE.out, HSk2.out⟩
    · have hb2' : (zb == 2) = false := beq_eq_false_iff_ne.2 hb2
      cases zn with
      | true =>
        have HPT : Hid (PT = ([40] ++ zk.data.toList ++ kidsP [32] subs ++ [41])) := by show _ = _; rw [HPR]; simp [hb2]
        have hlen2 := hlen
        rw [HPT.out] at hlen2
        clear HPR hlen
        have hc0 := writeString_any B b (l) ⟨#[40]⟩ _ hA1 (by show (l).length + 1 ≤ 140737488355328; simp only [List.length_append, List.length_cons, List.length_nil, toList_len] at hlen2 ⊢; omega) hB1'
        go_wp2_with fail
        refine hc0.mono ?_
        rintro e wk0 ⟨rfl, hr0, hs0⟩
        have hk0 : BAt B b ((l) ++ [40]) wk0 := hr0
        clear hr0
        have hBk0 : B ≤ wk0.heap.size := Nat.le_trans hB1' hs0.size
        have HSk0 : Hid (BStep B b w wk0) := HS0.out.trans hs0
        have hbx1 := hs0.box hbx0 hbn0 (by decide)
        have qc0 : ∀ o, wk0.cell? ⟨w.heap.size, o, none⟩ = #[Value.string zk, Value.bool true, Value.string zf, Value.int IntKind.i64 zr, Value.int IntKind.i64 zt, Value.int IntKind.i64 zb, Value.slice ba kl bc][o]? := fun o => by simp [World.cell?, hbx1]
        have q00 : wk0.cell? ⟨w.heap.size, 0, none⟩ = some (.string zk) := qc0 0
        have q01 : wk0.cell? ⟨w.heap.size, 1, none⟩ = some (.bool true) := qc0 1
        have q02 : wk0.cell? ⟨w.heap.size, 2, none⟩ = some (.string zf) := qc0 2
        have q03 : wk0.cell? ⟨w.heap.size, 3, none⟩ = some (.int .i64 zr) := qc0 3
        have q04 : wk0.cell? ⟨w.heap.size, 4, none⟩ = some (.int .i64 zt) := qc0 4
        have q05 : wk0.cell? ⟨w.heap.size, 5, none⟩ = some (.int .i64 zb) := qc0 5
        have q06 : wk0.cell? ⟨w.heap.size, 6, none⟩ = some (.slice ba kl bc) := qc0 6
        clear hc0 qc0
        have hc1 := writeString_any B b ((l) ++ [40]) zk _ hk0 (by show ((l) ++ [40]).length + zk.size ≤ 140737488355328; simp only [List.length_append, List.length_cons, List.length_nil, toList_len] at hlen2 ⊢; omega) hBk0
        go_wp2_with fail
        refine hc1.mono ?_
        rintro e wk1 ⟨rfl, hr1, hs1⟩
        have hk1 : BAt B b (((l) ++ [40]) ++ zk.data.toList) wk1 := hr1
        clear hr1
        have hBk1 : B ≤ wk1.heap.size := Nat.le_trans hBk0 hs1.size
        have HSk1 : Hid (BStep B b w wk1) := HSk0.out.trans hs1
        have hbx2 := hs1.box hbx1 hbn0 (by decide)
        have qc1 : ∀ o, wk1.cell? ⟨w.heap.size, o, none⟩ = #[Value.string zk, Value.bool true, Value.string zf, Value.int IntKind.i64 zr, Value.int IntKind.i64 zt, Value.int IntKind.i64 zb, Value.slice ba kl bc][o]? := fun o => by simp [World.cell?, hbx2]
        have q10 : wk1.cell? ⟨w.heap.size, 0, none⟩ = some (.string zk) := qc1 0
        have q11 : wk1.cell? ⟨w.heap.size, 1, none⟩ = some (.bool true) := qc1 1
        have q12 : wk1.cell? ⟨w.heap.size, 2, none⟩ = some (.string zf) := qc1 2
        have q13 : wk1.cell? ⟨w.heap.size, 3, none⟩ = some (.int .i64 zr) := qc1 3
        have q14 : wk1.cell? ⟨w.heap.size, 4, none⟩ = some (.int .i64 zt) := qc1 4
        have q15 : wk1.cell? ⟨w.heap.size, 5, none⟩ = some (.int .i64 zb) := qc1 5
        have q16 : wk1.cell? ⟨w.heap.size, 6, none⟩ = some (.slice ba kl bc) := qc1 6
        clear hc1 qc1 q00 q01 q02 q03 q04 q05 q06
        have hc2 := HWK.out ⟨#[32]⟩ ⟨#[]⟩ (((l) ++ [40]) ++ zk.data.toList) _ (HSk1.out.from h0 hB0) hk1 (by show (((l) ++ [40]) ++ zk.data.toList).length + (kidsP [32] subs).length + 1000 ≤ 140737488355328; simp only [List.length_append, List.length_cons, List.length_nil, toList_len] at hlen2 ⊢; omega) (by decide) hBk1
        go_wp2_with fail
        refine hc2.mono ?_
        rintro e wk2 ⟨rfl, hr2, hs2⟩
        have hk2 : BAt B b ((((l) ++ [40]) ++ zk.data.toList) ++ kidsP [32] subs) wk2 := by simpa using hr2
        clear hr2
        have hBk2 : B ≤ wk2.heap.size := Nat.le_trans hBk1 hs2.size
        have HSk2 : Hid (BStep B b w wk2) := HSk1.out.trans hs2
        have hbx3 := hs2.box hbx2 hbn0 (by decide)
        have qc2 : ∀ o, wk2.cell? ⟨w.heap.size, o, none⟩ = #[Value.string zk, Value.bool true, Value.string zf, Value.int IntKind.i64 zr, Value.int IntKind.i64 zt, Value.int IntKind.i64 zb, Value.slice ba kl bc][o]? := fun o => by simp [World.cell?, hbx3]
        have q20 : wk2.cell? ⟨w.heap.size, 0, none⟩ = some (.string zk) := qc2 0
        have q21 : wk2.cell? ⟨w.heap.size, 1, none⟩ = some (.bool true) := qc2 1
        have q22 : wk2.cell? ⟨w.heap.size, 2, none⟩ = some (.string zf) := qc2 2
        have q23 : wk2.cell? ⟨w.heap.size, 3, none⟩ = some (.int .i64 zr) := qc2 3
        have q24 : wk2.cell? ⟨w.heap.size, 4, none⟩ = some (.int .i64 zt) := qc2 4
        have q25 : wk2.cell? ⟨w.heap.size, 5, none⟩ = some (.int .i64 zb) := qc2 5
        have q26 : wk2.cell? ⟨w.heap.size, 6, none⟩ = some (.slice ba kl bc) := qc2 6
        clear hc2 qc2 q10 q11 q12 q13 q14 q15 q16
        have hc3 := writeString_any B b ((((l) ++ [40]) ++ zk.data.toList) ++ kidsP [32] subs) ⟨#[41]⟩ _ hk2 (by show ((((l) ++ [40]) ++ zk.data.toList) ++ kidsP [32] subs).length + 1 ≤ 140737488355328; simp only [List.length_append, List.length_cons, List.length_nil, toList_len] at hlen2 ⊢; omega) hBk2
        go_wp2_with fail
        refine hc3.mono ?_
        rintro e wk3 ⟨rfl, hr3, hs3⟩
        have hk3 : BAt B b (((((l) ++ [40]) ++ zk.data.toList) ++ kidsP [32] subs) ++ [41]) wk3 := hr3
        clear hr3
        have hBk3 : B ≤ wk3.heap.size := Nat.le_trans hBk2 hs3.size
        have HSk3 : Hid (BStep B b w wk3) := HSk2.out.trans hs3
        have hbx4 := hs3.box hbx3 hbn0 (by decide)
        have HE : Hid (BAt B b (l ++ PT) wk3) := by show BAt _ _ _ _; rw [HPT.out]; simpa using hk3
        go_wp2_with fail
        go_end0
        exact ⟨rfl, HE.out, HSk3.out⟩
      | false =>
        by_cases hb1 : zb = 1
        · subst hb1
          have HPT : Hid (PT = ([40] ++ zk.data.toList ++ kidsP [32] subs ++ [41])) := by show _ = _; rw [HPR]; simp []
          have hlen2 := hlen
          rw [HPT.out] at hlen2
          clear HPR hlen
          have hc0 := writeString_any B b (l) ⟨#[40]⟩ _ hA1 (by show (l).length + 1 ≤ 140737488355328; simp only [List.length_append, List.length_cons, List.length_nil, toList_len] at hlen2 ⊢; omega) hB1'
          go_wp2_with fail
          refine hc0.mono ?_
          rintro e wk0 ⟨rfl, hr0, hs0⟩
          have hk0 : BAt B b ((l) ++ [40]) wk0 := hr0
          clear hr0
          have hBk0 : B ≤ wk0.heap.size := Nat.le_trans hB1' hs0.size
          have HSk0 : Hid (BStep B b w wk0) := HS0.out.trans hs0
          have hbx1 := hs0.box hbx0 hbn0 (by decide)
          have qc0 : ∀ o, wk0.cell? ⟨w.heap.size, o, none⟩ = #[Value.string zk, Value.bool false, Value.string zf, Value.int IntKind.i64 zr, Value.int IntKind.i64 zt, Value.int IntKind.i64 1, Value.slice ba kl bc][o]? := fun o => by simp [World.cell?, hbx1]
          have q00 : wk0.cell? ⟨w.heap.size, 0, none⟩ = some (.string zk) := qc0 0
          have q01 : wk0.cell? ⟨w.heap.size, 1, none⟩ = some (.bool false) := qc0 1
          have q02 : wk0.cell? ⟨w.heap.size, 2, none⟩ = some (.string zf) := qc0 2
          have q03 : wk0.cell? ⟨w.heap.size, 3, none⟩ = some (.int .i64 zr) := qc0 3
          have q04 : wk0.cell? ⟨w.heap.size, 4, none⟩ = some (.int .i64 zt) := qc0 4
          have q05 : wk0.cell? ⟨w.heap.size, 5, none⟩ = some (.int .i64 1) := qc0 5
          have q06 : wk0.cell? ⟨w.heap.size, 6, none⟩ = some (.slice ba kl bc) := qc0 6
          clear hc0 qc0
          have hc1 := writeString_any B b ((l) ++ [40]) zk _ hk0 (by show ((l) ++ [40]).length + zk.size ≤ 140737488355328; simp only [List.length_append, List.length_cons, List.length_nil, toList_len] at hlen2 ⊢; omega) hBk0
          go_wp2_with fail
          refine hc1.mono ?_
          rintro e wk1 ⟨rfl, hr1, hs1⟩
          have hk1 : BAt B b (((l) ++ [40]) ++ zk.data.toList) wk1 := hr1
          clear hr1
          have hBk1 : B ≤ wk1.heap.size := Nat.le_trans hBk0 hs1.size
          have HSk1 : Hid (BStep B b w wk1) := HSk0.out.trans hs1
          have hbx2 := hs1.box hbx1 hbn0 (by decide)
          have qc1 : ∀ o, wk1.cell? ⟨w.heap.size, o, none⟩ = #[Value.string zk, Value.bool false, Value.string zf, Value.int IntKind.i64 zr, Value.int IntKind.i64 zt, Value.int IntKind.i64 1, Value.slice ba kl bc][o]? := fun o => by simp [World.cell?, hbx2]
          have q10 : wk1.cell? ⟨w.heap.size, 0, none⟩ = some (.string zk) := qc1 0
          have q11 : wk1.cell? ⟨w.heap.size, 1, none⟩ = some (.bool false) := qc1 1
          have q12 : wk1.cell? ⟨w.heap.size, 2, none⟩ = some (.string zf) := qc1 2
          have q13 : wk1.cell? ⟨w.heap.size, 3, none⟩ = some (.int .i64 zr) := qc1 3
          have q14 : wk1.cell? ⟨w.heap.size, 4, none⟩ = some (.int .i64 zt) := qc1 4
          have q15 : wk1.cell? ⟨w.heap.size, 5, none⟩ = some (.int .i64 1) := qc1 5
          have q16 : wk1.cell? ⟨w.heap.size, 6, none⟩ = some (.slice ba kl bc) := qc1 6
          clear hc1 qc1 q00 q01 q02 q03 q04 q05 q06
          have hc2 := HWK.out ⟨#[32]⟩ ⟨#[]⟩ (((l) ++ [40]) ++ zk.data.toList) _ (HSk1.out.from h0 hB0) hk1 (by show (((l) ++ [40]) ++ zk.data.toList).length + (kidsP [32] subs).length + 1000 ≤ 140737488355328; simp only [List.length_append, List.length_cons, List.length_nil, toList_len] at hlen2 ⊢; omega) (by decide) hBk1
          go_wp2_with fail
          refine hc2.mono ?_
          rintro e wk2 ⟨rfl, hr2, hs2⟩
          have hk2 : BAt B b ((((l) ++ [40]) ++ zk.data.toList) ++ kidsP [32] subs) wk2 := by simpa using hr2
          clear hr2
          have hBk2 : B ≤ wk2.heap.size := Nat.le_trans hBk1 hs2.size
          have HSk2 : Hid (BStep B b w wk2) := HSk1.out.trans hs2
          have hbx3 := hs2.box hbx2 hbn0 (by decide)
          have qc2 : ∀ o, wk2.cell? ⟨w.heap.size, o, none⟩ = #[Value.string zk, Value.bool false, Value.string zf, Value.int IntKind.i64 zr, Value.int IntKind.i64 zt, Value.int IntKind.i64 1, Value.slice ba kl bc][o]? := fun o => by simp [World.cell?, hbx3]
          have q20 : wk2.cell? ⟨w.heap.size, 0, none⟩ = some (.string zk) := qc2 0
          have q21 : wk2.cell? ⟨w.heap.size, 1, none⟩ = some (.bool false) := qc2 1
          have q22 : wk2.cell? ⟨w.heap.size, 2, none⟩ = some (.string zf) := qc2 2
          have q23 : wk2.cell? ⟨w.heap.size, 3, none⟩ = some (.int .i64 zr) := qc2 3
          have q24 : wk2.cell? ⟨w.heap.size, 4, none⟩ = some (.int .i64 zt) := qc2 4
          have q25 : wk2.cell? ⟨w.heap.size, 5, none⟩ = some (.int .i64 1) := qc2 5
          have q26 : wk2.cell? ⟨w.heap.size, 6, none⟩ = some (.slice ba kl bc) := qc2 6
          clear hc2 qc2 q10 q11 q12 q13 q14 q15 q16
          have hc3 := writeString_any B b ((((l) ++ [40]) ++ zk.data.toList) ++ kidsP [32] subs) ⟨#[41]⟩ _ hk2 (by show ((((l) ++ [40]) ++ zk.data.toList) ++ kidsP [32] subs).length + 1 ≤ 140737488355328; simp only [List.length_append, List.length_cons, List.length_nil, toList_len] at hlen2 ⊢; omega) hBk2
          go_wp2_with fail
          refine hc3.mono ?_
          rintro e wk3 ⟨rfl, hr3, hs3⟩
          have hk3 : BAt B b (((((l) ++ [40]) ++ zk.data.toList) ++ kidsP [32] subs) ++ [41]) wk3 := hr3
          clear hr3
          have hBk3 : B ≤ wk3.heap.size := Nat.le_trans hBk2 hs3.size
          have HSk3 : Hid (BStep B b w wk3) := HSk2.out.trans hs3
          have hbx4 := hs3.box hbx3 hbn0 (by decide)
          have HE : Hid (BAt B b (l ++ PT) wk3) := by show BAt _ _ _ _; rw [HPT.out]; simpa using hk3
          go_wp2_with fail
          go_end0
          exact ⟨rfl, HE.out, HSk3.out⟩
        · have hb1' : (zb == 1) = false := beq_eq_false_iff_ne.2 hb1
          have HPT : Hid (PT = (zk.data.toList ++ (kidsP [91] subs ++ (if kl = 0 then [] else [93])))) := by show _ = _; rw [HPR]; simp [hb2, hb1]
          have hlen2 := hlen
          rw [HPT.out] at hlen2
          clear HPR hlen
          have hc0 := writeString_any B b (l) zk _ hA1 (by show (l).length + zk.size ≤ 140737488355328; simp only [List.length_append, toList_len] at hlen2 ⊢; omega) hB1'
          go_wp2_with fail
          refine hc0.mono ?_
          rintro e wk0 ⟨rfl, hr0, hs0⟩
          have hk0 : BAt B b ((l) ++ zk.data.toList) wk0 := hr0
          clear hr0
          have hBk0 : B ≤ wk0.heap.size := Nat.le_trans hB1' hs0.size
          have HSk0 : Hid (BStep B b w wk0) := HS0.out.trans hs0
          have hbx1 := hs0.box hbx0 hbn0 (by decide)
          have qc0 : ∀ o, wk0.cell? ⟨w.heap.size, o, none⟩ = #[Value.string zk, Value.bool false, Value.string zf, Value.int IntKind.i64 zr, Value.int IntKind.i64 zt, Value.int IntKind.i64 zb, Value.slice ba kl bc][o]? := fun o => by simp [World.cell?, hbx1]
          have q00 : wk0.cell? ⟨w.heap.size, 0, none⟩ = some (.string zk) := qc0 0
          have q01 : wk0.cell? ⟨w.heap.size, 1, none⟩ = some (.bool false) := qc0 1
          have q02 : wk0.cell? ⟨w.heap.size, 2, none⟩ = some (.string zf) := qc0 2
          have q03 : wk0.cell? ⟨w.heap.size, 3, none⟩ = some (.int .i64 zr) := qc0 3
          have q04 : wk0.cell? ⟨w.heap.size, 4, none⟩ = some (.int .i64 zt) := qc0 4
          have q05 : wk0.cell? ⟨w.heap.size, 5, none⟩ = some (.int .i64 zb) := qc0 5
          have q06 : wk0.cell? ⟨w.heap.size, 6, none⟩ = some (.slice ba kl bc) := qc0 6
          clear hc0 qc0
          have hc1 := HWK.out ⟨#[91]⟩ ⟨#[93]⟩ ((l) ++ zk.data.toList) _ (HSk0.out.from h0 hB0) hk0 (by show ((l) ++ zk.data.toList).length + (kidsP [91] subs).length + 1000 ≤ 140737488355328; simp only [List.length_append, toList_len] at hlen2 ⊢; omega) (by decide) hBk0
          go_wp2_with fail
          refine hc1.mono ?_
          rintro e wk1 ⟨rfl, hr1, hs1⟩
          have hk1 : BAt B b (((l) ++ zk.data.toList) ++ (kidsP [91] subs ++ (if kl = 0 then [] else [93]))) wk1 := hr1
          clear hr1
          have hBk1 : B ≤ wk1.heap.size := Nat.le_trans hBk0 hs1.size
          have HSk1 : Hid (BStep B b w wk1) := HSk0.out.trans hs1
          have hbx2 := hs1.box hbx1 hbn0 (by decide)
          have HE : Hid (BAt B b (l ++ PT) wk1) := by show BAt _ _ _ _; rw [HPT.out]; simpa using hk1
          go_wp2_with fail
          go_end0
          exact ⟨rfl, HE.out, HSk1.out⟩
  · have hfz' : ¬ zf.toList = [] := by
      rw [ByteArray.toList_eq]
      intro e
      have := congrArg List.length e
      rw [toList_len] at this
      exact hfz this
    have hfz2 : zf.toList.isEmpty = false := by simpa using hfz'
    have HPT0 : Hid (fieldP ⟨zk, zn, zf, zr, zt, zb⟩ = zf.data.toList ++ [58, 32]) := by show _ = _; unfold fieldP; rw [if_neg hfz]
    rw [HPT0.out] at HPR
    go_enter Try.func38, Try.ntmps38
    by_cases hb2 : zb = 2
    · subst hb2
      have HPT : Hid (PT = zf.data.toList ++ [58, 32] ++ ([40, 77, 73, 83, 83, 73, 78, 71, 32] ++ zk.data.toList ++ [41])) := by show _ = _; rw [HPR]; simp []
      have hlen2 := hlen
      rw [HPT.out] at hlen2
      clear HPR hlen
      have hc0 := writeString_any B b (l) zf _ hA1 (by show (l).length + zf.size ≤ 140737488355328; simp only [List.length_append, List.length_cons, List.length_nil, toList_len] at hlen2 ⊢; omega) hB1'
      go_wp2_with fail
      refine hc0.mono ?_
      rintro e wk0 ⟨rfl, hr0, hs0⟩
      have hk0 : BAt B b ((l) ++ zf.data.toList) wk0 := hr0
      clear hr0
      have hBk0 : B ≤ wk0.heap.size := Nat.le_trans hB1' hs0.size
      have HSk0 : Hid (BStep B b w wk0) := HS0.out.trans hs0
      have hbx1 := hs0.box hbx0 hbn0 (by decide)
      have qc0 : ∀ o, wk0.cell? ⟨w.heap.size, o, none⟩ = #[Value.string zk, Value.bool zn, Value.string zf, Value.int IntKind.i64 zr, Value.int IntKind.i64 zt, Value.int IntKind.i64 2, Value.slice ba kl bc][o]? := fun o => by simp [World.cell?, hbx1]
      have q00 : wk0.cell? ⟨w.heap.size, 0, none⟩ = some (.string zk) := qc0 0
      have q01 : wk0.cell? ⟨w.heap.size, 1, none⟩ = some (.bool zn) := qc0 1
      have q02 : wk0.cell? ⟨w.heap.size, 2, none⟩ = some (.string zf) := qc0 2
      have q03 : wk0.cell? ⟨w.heap.size, 3, none⟩ = some (.int .i64 zr) := qc0 3
      have q04 : wk0.cell? ⟨w.heap.size, 4, none⟩ = some (.int .i64 zt) := qc0 4
      have q05 : wk0.cell? ⟨w.heap.size, 5, none⟩ = some (.int .i64 2) := qc0 5
      have q06 : wk0.cell? ⟨w.heap.size, 6, none⟩ = some (.slice ba kl bc) := qc0 6
      clear hc0 qc0
      have hc1 := writeString_any B b ((l) ++ zf.data.toList) ⟨#[58, 32]⟩ _ hk0 (by show ((l) ++ zf.data.toList).length + 2 ≤ 140737488355328; simp only [List.length_append, List.length_cons, List.length_nil, toList_len] at hlen2 ⊢; omega) hBk0
      go_wp2_with fail
      refine hc1.mono ?_
      rintro e wk1 ⟨rfl, hr1, hs1⟩
      have hk1 : BAt B b (((l) ++ zf.data.toList) ++ [58, 32]) wk1 := hr1
      clear hr1
      have hBk1 : B ≤ wk1.heap.size := Nat.le_trans hBk0 hs1.size
      have HSk1 : Hid (BStep B b w wk1) := HSk0.out.trans hs1
      have hbx2 := hs1.box hbx1 hbn0 (by decide)
      have qc1 : ∀ o, wk1.cell? ⟨w.heap.size, o, none⟩ = #[Value.string zk, Value.bool zn, Value.string zf, Value.int IntKind.i64 zr, Value.int IntKind.i64 zt, Value.int IntKind.i64 2, Value.slice ba kl bc][o]? := fun o => by simp [World.cell?, hbx2]
      have q10 : wk1.cell? ⟨w.heap.size, 0, none⟩ = some (.string zk) := qc1 0
      have q11 : wk1.cell? ⟨w.heap.size, 1, none⟩ = some (.bool zn) := qc1 1
      have q12 : wk1.cell? ⟨w.heap.size, 2, none⟩ = some (.string zf) := qc1 2
      have q13 : wk1.cell? ⟨w.heap.size, 3, none⟩ = some (.int .i64 zr) := qc1 3
      have q14 : wk1.cell? ⟨w.heap.size, 4, none⟩ = some (.int .i64 zt) := qc1 4
      have q15 : wk1.cell? ⟨w.heap.size, 5, none⟩ = some (.int .i64 2) := qc1 5
      have q16 : wk1.cell? ⟨w.heap.size, 6, none⟩ = some (.slice ba kl bc) := qc1 6
      clear hc1 qc1 q00 q01 q02 q03 q04 q05 q06
      have hc2 := writeString_any B b (((l) ++ zf.data.toList) ++ [58, 32]) ⟨#[40, 77, 73, 83, 83, 73, 78, 71, 32]⟩ _ hk1 (by show (((l) ++ zf.data.toList) ++ [58, 32]).length + 9 ≤ 140737488355328; simp only [List.length_append, List.length_cons, List.length_nil, toList_len] at hlen2 ⊢; omega) hBk1
      go_wp2_with fail
      refine hc2.mono ?_
      rintro e wk2 ⟨rfl, hr2, hs2⟩
      have hk2 : BAt B b ((((l) ++ zf.data.toList) ++ [58, 32]) ++ [40, 77, 73, 83, 83, 73, 78, 71, 32]) wk2 := hr2
      clear hr2
      have hBk2 : B ≤ wk2.heap.size := Nat.le_trans hBk1 hs2.size
      have HSk2 : Hid (BStep B b w wk2) := HSk1.out.trans hs2
      have hbx3 := hs2.box hbx2 hbn0 (by decide)
      have qc2 : ∀ o, wk2.cell? ⟨w.heap.size, o, none⟩ = #[Value.string zk, Value.bool zn, Value.string zf, Value.int IntKind.i64 zr, Value.int IntKind.i64 zt, Value.int IntKind.i64 2, Value.slice ba kl bc][o]? := fun o => by simp [World.cell?, hbx3]
      have q20 : wk2.cell? ⟨w.heap.size, 0, none⟩ = some (.string zk) := qc2 0
      have q21 : wk2.cell? ⟨w.heap.size, 1, none⟩ = some (.bool zn) := qc2 1
      have q22 : wk2.cell? ⟨w.heap.size, 2, none⟩ = some (.string zf) := qc2 2
      have q23 : wk2.cell? ⟨w.heap.size, 3, none⟩ = some (.int .i64 zr) := qc2 3
      have q24 : wk2.cell? ⟨w.heap.size, 4, none⟩ = some (.int .i64 zt) := qc2 4
      have q25 : wk2.cell? ⟨w.heap.size, 5, none⟩ = some (.int .i64 2) := qc2 5
      have q26 : wk2.cell? ⟨w.heap.size, 6, none⟩ = some (.slice ba kl bc) := qc2 6
      clear hc2 qc2 q10 q11 q12 q13 q14 q15 q16
      have hc3 := writeString_any B b ((((l) ++ zf.data.toList) ++ [58, 32]) ++ [40, 77, 73, 83, 83, 73, 78, 71, 32]) zk _ hk2 (by show ((((l) ++ zf.data.toList) ++ [58, 32]) ++ [40, 77, 73, 83, 83, 73, 78, 71, 32]).length + zk.size ≤ 140737488355328; simp only [List.length_append, List.length_cons, List.length_nil, toList_len] at hlen2 ⊢; omega) hBk2
      go_wp2_with fail
      refine hc3.mono ?_
      rintro e wk3 ⟨rfl, hr3, hs3⟩
      have hk3 : BAt B b (((((l) ++ zf.data.toList) ++ [58, 32]) ++ [40, 77, 73, 83, 83, 73, 78, 71, 32]) ++ zk.data.toList) wk3 := hr3
      clear hr3
      have hBk3 : B ≤ wk3.heap.size := Nat.le_trans hBk2 hs3.size
      have HSk3 : Hid (BStep B b w wk3) := HSk2.out.trans hs3
      have hbx4 := hs3.box hbx3 hbn0 (by decide)
      have qc3 : ∀ o, wk3.cell? ⟨w.heap.size, o, none⟩ = #[Value.string zk, Value.bool zn, Value.string zf, Value.int IntKind.i64 zr, Value.int IntKind.i64 zt, Value.int IntKind.i64 2, Value.slice ba kl bc][o]? := fun o => by simp [World.cell?, hbx4]
      have q30 : wk3.cell? ⟨w.heap.size, 0, none⟩ = some (.string zk) := qc3 0
      have q31 : wk3.cell? ⟨w.heap.size, 1, none⟩ = some (.bool zn) := qc3 1
      have q32 : wk3.cell? ⟨w.heap.size, 2, none⟩ = some (.string zf) := qc3 2
      have q33 : wk3.cell? ⟨w.heap.size, 3, none⟩ = some (.int .i64 zr) := qc3 3
      have q34 : wk3.cell? ⟨w.heap.size, 4, none⟩ = some (.int .i64 zt) := qc3 4
      have q35 : wk3.cell? ⟨w.heap.size, 5, none⟩ = some (.int .i64 2) := qc3 5
      have q36 : wk3.cell? ⟨w.heap.size, 6, none⟩ = some (.slice ba kl bc) := qc3 6
      clear hc3 qc3 q20 q21 q22 q23 q24 q25 q26
      have hc4 := writeString_any B b (((((l) ++ zf.data.toList) ++ [58, 32]) ++ [40, 77, 73, 83, 83, 73, 78, 71, 32]) ++ zk.data.toList) ⟨#[41]⟩ _ hk3 (by show (((((l) ++ zf.data.toList) ++ [58, 32]) ++ [40, 77, 73, 83, 83, 73, 78, 71, 32]) ++ zk.data.toList).length + 1 ≤ 140737488355328; simp only [List.length_append, List.length_cons, List.length_nil, toList_len] at hlen2 ⊢; omega) hBk3
      go_wp2_with fail
      refine hc4.mono ?_
      rintro e wk4 ⟨rfl, hr4, hs4⟩
      have hk4 : BAt B b ((((((l) ++ zf.data.toList) ++ [58, 32]) ++ [40, 77, 73, 83, 83, 73, 78, 71, 32]) ++ zk.data.toList) ++ [41]) wk4 := hr4
      clear hr4
      have hBk4 : B ≤ wk4.heap.size := Nat.le_trans hBk3 hs4.size
      have HSk4 : Hid (BStep B b w wk4) := HSk3.out.trans hs4
      have hbx5 := hs4.box hbx4 hbn0 (by decide)
      have HE : Hid (BAt B b (l ++ PT) wk4) := by show BAt _ _ _ _; rw [HPT.out]; simpa using hk4
      go_wp2_with fail
      go_end0
      exact ⟨rfl, HE.out, HSk4.out⟩
    · have hb2' : (zb == 2) = false := beq_eq_false_iff_ne.2 hb2
      cases zn with
      | true =>
        have HPT : Hid (PT = zf.data.toList ++ [58, 32] ++ ([40] ++ zk.data.toList ++ kidsP [32] subs ++ [41])) := by show _ = _; rw [HPR]; simp [hb2]
        have hlen2 := hlen
        rw [HPT.out] at hlen2
        clear HPR hlen
        have hc0 := writeString_any B b (l) zf _ hA1 (by show (l).length + zf.size ≤ 140737488355328; simp only [List.length_append, List.length_cons, List.length_nil, toList_len] at hlen2 ⊢; omega) hB1'
        go_wp2_with fail
        refine hc0.mono ?_
        rintro e wk0 ⟨rfl, hr0, hs0⟩
        have hk0 : BAt B b ((l) ++ zf.data.toList) wk0 := hr0
        clear hr0
        have hBk0 : B ≤ wk0.heap.size := Nat.le_trans hB1' hs0.size
        have HSk0 : Hid (BStep B b w wk0) := HS0.out.trans hs0
        have hbx1 := hs0.box hbx0 hbn0 (by decide)
        have qc0 : ∀ o, wk0.cell? ⟨w.heap.size, o, none⟩ = #[Value.string zk, Value.bool true, Value.string zf, Value.int IntKind.i64 zr, Value.int IntKind.i64 zt, Value.int IntKind.i64 zb, Value.slice ba kl bc][o]? := fun o => by simp [World.cell?, hbx1]
        have q00 : wk0.cell? ⟨w.heap.size, 0, none⟩ = some (.string zk) := qc0 0
        have q01 : wk0.cell? ⟨w.heap.size, 1, none⟩ = some (.bool true) := qc0 1
        have q02 : wk0.cell? ⟨w.heap.size, 2, none⟩ = some (.string zf) := qc0 2
        have q03 : wk0.cell? ⟨w.heap.size, 3, none⟩ = some (.int .i64 zr) := qc0 3
        have q04 : wk0.cell? ⟨w.heap.size, 4, none⟩ = some (.int .i64 zt) := qc0 4
        have q05 : wk0.cell? ⟨w.heap.size, 5, none⟩ = some (.int .i64 zb) := qc0 5
        have q06 : wk0.cell? ⟨w.heap.size, 6, none⟩ = some (.slice ba kl bc) := qc0 6
        clear hc0 qc0
        have hc1 := writeString_any B b ((l) ++ zf.data.toList) ⟨#[58, 32]⟩ _ hk0 (by show ((l) ++ zf.data.toList).length + 2 ≤ 140737488355328; simp only [List.length_append, List.length_cons, List.length_nil, toList_len] at hlen2 ⊢; omega) hBk0
        go_wp2_with fail
        refine hc1.mono ?_
        rintro e wk1 ⟨rfl, hr1, hs1⟩
        have hk1 : BAt B b (((l) ++ zf.data.toList) ++ [58, 32]) wk1 := hr1
        clear hr1
        have hBk1 : B ≤ wk1.heap.size := Nat.le_trans hBk0 hs1.size
        have HSk1 : Hid (BStep B b w wk1) := HSk0.out.trans hs1
        have hbx2 := hs1.box hbx1 hbn0 (by decide)
        have qc1 : ∀ o, wk1.cell? ⟨w.heap.size, o, none⟩ = #[Value.string zk, Value.bool true, Value.string zf, Value.int IntKind.i64 zr, Value.int IntKind.i64 zt, Value.int IntKind.i64 zb, Value.slice ba kl bc][o]? := fun o => by simp [World.cell?, hbx2]
        have q10 : wk1.cell? ⟨w.heap.size, 0, none⟩ = some (.string zk) := qc1 0
        have q11 : wk1.cell? ⟨w.heap.size, 1, none⟩ = some (.bool true) := qc1 1
        have q12 : wk1.cell? ⟨w.heap.size, 2, none⟩ = some (.string zf) := qc1 2
        have q13 : wk1.cell? ⟨w.heap.size, 3, none⟩ = some (.int .i64 zr) := qc1 3
        have q14 : wk1.cell? ⟨w.heap.size, 4, none⟩ = some (.int .i64 zt) := qc1 4
        have q15 : wk1.cell? ⟨w.heap.size, 5, none⟩ = some (.int .i64 zb) := qc1 5
        have q16 : wk1.cell? ⟨w.heap.size, 6, none⟩ = some (.slice ba kl bc) := qc1 6
        clear hc1 qc1 q00 q01 q02 q03 q04 q05 q06
        have hc2 := writeString_any B b (((l) ++ zf.data.toList) ++ [58, 32]) ⟨#[40]⟩ _ hk1 (by show (((l) ++ zf.data.toList) ++ [58, 32]).length + 1 ≤ 140737488355328; simp only [List.length_append, List.length_cons, List.length_nil, toList_len] at hlen2 ⊢; omega) hBk1
        go_wp2_with fail
        refine hc2.mono ?_
        rintro e wk2 ⟨rfl, hr2, hs2⟩
        have hk2 : BAt B b ((((l) ++ zf.data.toList) ++ [58, 32]) ++ [40]) wk2 := hr2
        clear hr2
        have hBk2 : B ≤ wk2.heap.size := Nat.le_trans hBk1 hs2.size
        have HSk2 : Hid (BStep B b w wk2) := HSk1.out.trans hs2
        have hbx3 := hs2.box hbx2 hbn0 (by decide)
        have qc2 : ∀ o, wk2.cell? ⟨w.heap.size, o, none⟩ = #[Value.string zk, Value.bool true, Value.string zf, Value.int IntKind.i64 zr, Value.int IntKind.i64 zt, Value.int IntKind.i64 zb, Value.slice ba kl bc][o]? := fun o => by simp [World.cell?, hbx3]
        have q20 : wk2.cell? ⟨w.heap.size, 0, none⟩ = some (.string zk) := qc2 0
        have q21 : wk2.cell? ⟨w.heap.size, 1, none⟩ = some (.bool true) := qc2 1
        have q22 : wk2.cell? ⟨w.heap.size, 2, none⟩ = some (.string zf) := qc2 2
        have q23 : wk2.cell? ⟨w.heap.size, 3, none⟩ = some (.int .i64 zr) := qc2 3
        have q24 : wk2.cell? ⟨w.heap.size, 4, none⟩ = some (.int .i64 zt) := qc2 4
        have q25 : wk2.cell? ⟨w.heap.size, 5, none⟩ = some (.int .i64 zb) := qc2 5
        have q26 : wk2.cell? ⟨w.heap.size, 6, none⟩ = some (.slice ba kl bc) := qc2 6
        clear hc2 qc2 q10 q11 q12 q13 q14 q15 q16
        have hc3 := writeString_any B b ((((l) ++ zf.data.toList) ++ [58, 32]) ++ [40]) zk _ hk2 (by show ((((l) ++ zf.data.toList) ++ [58, 32]) ++ [40]).length + zk.size ≤ 140737488355328; simp only [List.length_append, List.length_cons, List.length_nil, toList_len] at hlen2 ⊢; omega) hBk2
        go_wp2_with fail
        refine hc3.mono ?_
        rintro e wk3 ⟨rfl, hr3, hs3⟩
        have hk3 : BAt B b (((((l) ++ zf.data.toList) ++ [58, 32]) ++ [40]) ++ zk.data.toList) wk3 := hr3
        clear hr3
        have hBk3 : B ≤ wk3.heap.size := Nat.le_trans hBk2 hs3.size
        have HSk3 : Hid (BStep B b w wk3) := HSk2.out.trans hs3
        have hbx4 := hs3.box hbx3 hbn0 (by decide)
        have qc3 : ∀ o, wk3.cell? ⟨w.heap.size, o, none⟩ = #[Value.string zk, Value.bool true, Value.string zf, Value.int IntKind.i64 zr, Value.int IntKind.i64 zt, Value.int IntKind.i64 zb, Value.slice ba kl bc][o]? := fun o => by simp [World.cell?, hbx4]
        have q30 : wk3.cell? ⟨w.heap.size, 0, none⟩ = some (.string zk) := qc3 0
        have q31 : wk3.cell? ⟨w.heap.size, 1, none⟩ = some (.bool true) := qc3 1
        have q32 : wk3.cell? ⟨w.heap.size, 2, none⟩ = some (.string zf) := qc3 2
        have q33 : wk3.cell? ⟨w.heap.size, 3, none⟩ = some (.int .i64 zr) := qc3 3
        have q34 : wk3.cell? ⟨w.heap.size, 4, none⟩ = some (.int .i64 zt) := qc3 4
        have q35 : wk3.cell? ⟨w.heap.size, 5, none⟩ = some (.int .i64 zb) := qc3 5
        have q36 : wk3.cell? ⟨w.heap.size, 6, none⟩ = some (.slice ba kl bc) := qc3 6
        clear hc3 qc3 q20 q21 q22 q23 q24 q25 q26
        have hc4 := HWK.out ⟨#[32]⟩ ⟨#[]⟩ (((((l) ++ zf.data.toList) ++ [58, 32]) ++ [40]) ++ zk.data.toList) _ (HSk3.out.from h0 hB0) hk3 (by show (((((l) ++ zf.data.toList) ++ [58, 32]) ++ [40]) ++ zk.data.toList).length + (kidsP [32] subs).length + 1000 ≤ 140737488355328; simp only [List.length_append, List.length_cons, List.length_nil, toList_len] at hlen2 ⊢; omega) (by decide) hBk3
        go_wp2_with fail
        refine hc4.mono ?_
        rintro e wk4 ⟨rfl, hr4, hs4⟩
        have hk4 : BAt B b ((((((l) ++ zf.data.toList) ++ [58, 32]) ++ [40]) ++ zk.data.toList) ++ kidsP [32] subs) wk4 := by simpa using hr4
        clear hr4
        have hBk4 : B ≤ wk4.heap.size := Nat.le_trans hBk3 hs4.size
        have HSk4 : Hid (BStep B b w wk4) := HSk3.out.trans hs4
        have hbx5 := hs4.box hbx4 hbn0 (by decide)
        have qc4 : ∀ o, wk4.cell? ⟨w.heap.size, o, none⟩ = #[Value.string zk, Value.bool true, Value.string zf, Value.int IntKind.i64 zr, Value.int IntKind.i64 zt, Value.int IntKind.i64 zb, Value.slice ba kl bc][o]? := fun o => by simp [World.cell?, hbx5]
        have q40 : wk4.cell? ⟨w.heap.size, 0, none⟩ = some (.string zk) := qc4 0
        have q41 : wk4.cell? ⟨w.heap.size, 1, none⟩ = some (.bool true) := qc4 1
        have q42 : wk4.cell? ⟨w.heap.size, 2, none⟩ = some (.string zf) := qc4 2
        have q43 : wk4.cell? ⟨w.heap.size, 3, none⟩ = some (.int .i64 zr) := qc4 3
        have q44 : wk4.cell? ⟨w.heap.size, 4, none⟩ = some (.int .i64 zt) := qc4 4
        have q45 : wk4.cell? ⟨w.heap.size, 5, none⟩ = some (.int .i64 zb) := qc4 5
        have q46 : wk4.cell? ⟨w.heap.size, 6, none⟩ = some (.slice ba kl bc) := qc4 6
        clear hc4 qc4 q30 q31 q32 q33 q34 q35 q36
        have hc5 := writeString_any B b ((((((l) ++ zf.data.toList) ++ [58, 32]) ++ [40]) ++ zk.data.toList) ++ kidsP [32] subs) ⟨#[41]⟩ _ hk4 (by show ((((((l) ++ zf.data.toList) ++ [58, 32]) ++ [40]) ++ zk.data.toList) ++ kidsP [32] subs).length + 1 ≤ 140737488355328; simp only [List.length_append, List.length_cons, List.length_nil, toList_len] at hlen2 ⊢; omega) hBk4
        go_wp2_with fail
        refine hc5.mono ?_
        rintro e wk5 ⟨rfl, hr5, hs5⟩
        have hk5 : BAt B b (((((((l) ++ zf.data.toList) ++ [58, 32]) ++ [40]) ++ zk.data.toList) ++ kidsP [32] subs) ++ [41]) wk5 := hr5
        clear hr5
        have hBk5 : B ≤ wk5.heap.size := Nat.le_trans hBk4 hs5.size
        have HSk5 : Hid (BStep B b w wk5) := HSk4.out.trans hs5
        have hbx6 := hs5.box hbx5 hbn0 (by decide)
        have HE : Hid (BAt B b (l ++ PT) wk5) := by show BAt _ _ _ _; rw [HPT.out]; simpa using hk5
        go_wp2_with fail
        go_end0
        exact ⟨rfl, HE.out, HSk5.out⟩
      | false =>
        by_cases hb1 : zb = 1
        · subst hb1
          have HPT : Hid (PT = zf.data.toList ++ [58, 32] ++ ([40] ++ zk.data.toList ++ kidsP [32] subs ++ [41])) := by show _ = _; rw [HPR]; simp []
          have hlen2 := hlen
          rw [HPT.out] at hlen2
          clear HPR hlen
          have hc0 := writeString_any B b (l) zf _ hA1 (by show (l).length + zf.size ≤ 140737488355328; simp only [List.length_append, List.length_cons, List.length_nil, toList_len] at hlen2 ⊢; omega) hB1'
          go_wp2_with fail
          refine hc0.mono ?_
          rintro e wk0 ⟨rfl, hr0, hs0⟩
          have hk0 : BAt B b ((l) ++ zf.data.toList) wk0 := hr0
          clear hr0
          have hBk0 : B ≤ wk0.heap.size := Nat.le_trans hB1' hs0.size
          have HSk0 : Hid (BStep B b w wk0) := HS0.out.trans hs0
          have hbx1 := hs0.box hbx0 hbn0 (by decide)
          have qc0 : ∀ o, wk0.cell? ⟨w.heap.size, o, none⟩ = #[Value.string zk, Value.bool false, Value.string zf, Value.int IntKind.i64 zr, Value.int IntKind.i64 zt, Value.int IntKind.i64 1, Value.slice ba kl bc][o]? := fun o => by simp [World.cell?, hbx1]
          have q00 : wk0.cell? ⟨w.heap.size, 0, none⟩ = some (.string zk) := qc0 0
          have q01 : wk0.cell? ⟨w.heap.size, 1, none⟩ = some (.bool false) := qc0 1
          have q02 : wk0.cell? ⟨w.heap.size, 2, none⟩ = some (.string zf) := qc0 2
          have q03 : wk0.cell? ⟨w.heap.size, 3, none⟩ = some (.int .i64 zr) := qc0 3
          have q04 : wk0.cell? ⟨w.heap.size, 4, none⟩ = some (.int .i64 zt) := qc0 4
          have q05 : wk0.cell? ⟨w.heap.size, 5, none⟩ = some (.int .i64 1) := qc0 5
          have q06 : wk0.cell? ⟨w.heap.size, 6, none⟩ = some (.slice ba kl bc) := qc0 6
          clear hc0 qc0
          have hc1 := writeString_any B b ((l) ++ zf.data.toList) ⟨#[58, 32]⟩ _ hk0 (by show ((l) ++ zf.data.toList).length + 2 ≤ 140737488355328; simp only [List.length_append, List.length_cons, List.length_nil, toList_len] at hlen2 ⊢; omega) hBk0
          go_wp2_with fail
          refine hc1.mono ?_
          rintro e wk1 ⟨rfl, hr1, hs1⟩
          have hk1 : BAt B b (((l) ++ zf.data.toList) ++ [58, 32]) wk1 := hr1
          clear hr1
          have hBk1 : B ≤ wk1.heap.size := Nat.le_trans hBk0 hs1.size
          have HSk1 : Hid (BStep B b w wk1) := HSk0.out.trans hs1
          have hbx2 := hs1.box hbx1 hbn0 (by decide)
          have qc1 : ∀ o, wk1.cell? ⟨w.heap.size, o, none⟩ = #[Value.string zk, Value.bool false, Value.string zf, Value.int IntKind.i64 zr, Value.int IntKind.i64 zt, Value.int IntKind.i64 1, Value.slice ba kl bc][o]? := fun o => by simp [World.cell?, hbx2]
          have q10 : wk1.cell? ⟨w.heap.size, 0, none⟩ = some (.string zk) := qc1 0
          have q11 : wk1.cell? ⟨w.heap.size, 1, none⟩ = some (.bool false) := qc1 1
          have q12 : wk1.cell? ⟨w.heap.size, 2, none⟩ = some (.string zf) := qc1 2
          have q13 : wk1.cell? ⟨w.heap.size, 3, none⟩ = some (.int .i64 zr) := qc1 3
          have q14 : wk1.cell? ⟨w.heap.size, 4, none⟩ = some (.int .i64 zt) := qc1 4
          have q15 : wk1.cell? ⟨w.heap.size, 5, none⟩ = some (.int .i64 1) := qc1 5
          have q16 : wk1.cell? ⟨w.heap.size, 6, none⟩ = some (.slice ba kl bc) := qc1 6
          clear hc1 qc1 q00 q01 q02 q03 q04 q05 q06
          have hc2 := writeString_any B b (((l) ++ zf.data.toList) ++ [58, 32]) ⟨#[40]⟩ _ hk1 (by show (((l) ++ zf.data.toList) ++ [58, 32]).length + 1 ≤ 140737488355328; simp only [List.length_append, List.length_cons, List.length_nil, toList_len] at hlen2 ⊢; omega) hBk1
          go_wp2_with fail
          refine hc2.mono ?_
          rintro e wk2 ⟨rfl, hr2, hs2⟩
          have hk2 : BAt B b ((((l) ++ zf.data.toList) ++ [58, 32]) ++ [40]) wk2 := hr2
          clear hr2
          have hBk2 : B ≤ wk2.heap.size := Nat.le_trans hBk1 hs2.size
          have HSk2 : Hid (BStep B b w wk2) := HSk1.out.trans hs2
          have hbx3 := hs2.box hbx2 hbn0 (by decide)
          have qc2 : ∀ o, wk2.cell? ⟨w.heap.size, o, none⟩ = #[Value.string zk, Value.bool false, Value.string zf, Value.int IntKind.i64 zr, Value.int IntKind.i64 zt, Value.int IntKind.i64 1, Value.slice ba kl bc][o]? := fun o => by simp [World.cell?, hbx3]
          have q20 : wk2.cell? ⟨w.heap.size, 0, none⟩ = some (.string zk) := qc2 0
          have q21 : wk2.cell? ⟨w.heap.size, 1, none⟩ = some (.bool false) := qc2 1
          have q22 : wk2.cell? ⟨w.heap.size, 2, none⟩ = some (.string zf) := qc2 2
          have q23 : wk2.cell? ⟨w.heap.size, 3, none⟩ = some (.int .i64 zr) := qc2 3
          have q24 : wk2.cell? ⟨w.heap.size, 4, none⟩ = some (.int .i64 zt) := qc2 4
          have q25 : wk2.cell? ⟨w.heap.size, 5, none⟩ = some (.int .i64 1) := qc2 5
          have q26 : wk2.cell? ⟨w.heap.size, 6, none⟩ = some (.slice ba kl bc) := qc2 6
          clear hc2 qc2 q10 q11 q12 q13 q14 q15 q16
          have hc3 := writeString_any B b ((((l) ++ zf.data.toList) ++ [58, 32]) ++ [40]) zk _ hk2 (by show ((((l) ++ zf.data.toList) ++ [58, 32]) ++ [40]).length + zk.size ≤ 140737488355328; simp only [List.length_append, List.length_cons, List.length_nil, toList_len] at hlen2 ⊢; omega) hBk2
          go_wp2_with fail
          refine hc3.mono ?_
          rintro e wk3 ⟨rfl, hr3, hs3⟩
          have hk3 : BAt B b (((((l) ++ zf.data.toList) ++ [58, 32]) ++ [40]) ++ zk.data.toList) wk3 := hr3
          clear hr3
          have hBk3 : B ≤ wk3.heap.size := Nat.le_trans hBk2 hs3.size
          have HSk3 : Hid (BStep B b w wk3) := HSk2.out.trans hs3
          have hbx4 := hs3.box hbx3 hbn0 (by decide)
          have qc3 : ∀ o, wk3.cell? ⟨w.heap.size, o, none⟩ = #[Value.string zk, Value.bool false, Value.string zf, Value.int IntKind.i64 zr, Value.int IntKind.i64 zt, Value.int IntKind.i64 1, Value.slice ba kl bc][o]? := fun o => by simp [World.cell?, hbx4]
          have q30 : wk3.cell? ⟨w.heap.size, 0, none⟩ = some (.string zk) := qc3 0
          have q31 : wk3.cell? ⟨w.heap.size, 1, none⟩ = some (.bool false) := qc3 1
          have q32 : wk3.cell? ⟨w.heap.size, 2, none⟩ = some (.string zf) := qc3 2
          have q33 : wk3.cell? ⟨w.heap.size, 3, none⟩ = some (.int .i64 zr) := qc3 3
          have q34 : wk3.cell? ⟨w.heap.size, 4, none⟩ = some (.int .i64 zt) := qc3 4
          have q35 : wk3.cell? ⟨w.heap.size, 5, none⟩ = some (.int .i64 1) := qc3 5
          have q36 : wk3.cell? ⟨w.heap.size, 6, none⟩ = some (.slice ba kl bc) := qc3 6
          clear hc3 qc3 q20 q21 q22 q23 q24 q25 q26
          have hc4 := HWK.out ⟨#[32]⟩ ⟨#[]⟩ (((((l) ++ zf.data.toList) ++ [58, 32]) ++ [40]) ++ zk.data.toList) _ (HSk3.out.from h0 hB0) hk3 (by show (((((l) ++ zf.data.toList) ++ [58, 32]) ++ [40]) ++ zk.data.toList).length + (kidsP [32] subs).length + 1000 ≤ 140737488355328; simp only [List.length_append, List.length_cons, List.length_nil, toList_len] at hlen2 ⊢; omega) (by decide) hBk3
          go_wp2_with fail
          refine hc4.mono ?_
          rintro e wk4 ⟨rfl, hr4, hs4⟩
          have hk4 : BAt B b ((((((l) ++ zf.data.toList) ++ [58, 32]) ++ [40]) ++ zk.data.toList) ++ kidsP [32] subs) wk4 := by simpa using hr4
          clear hr4
          have hBk4 : B ≤ wk4.heap.size := Nat.le_trans hBk3 hs4.size
          have HSk4 : Hid (BStep B b w wk4) := HSk3.out.trans hs4
          have hbx5 := hs4.box hbx4 hbn0 (by decide)
          have qc4 : ∀ o, wk4.cell? ⟨w.heap.size, o, none⟩ = #[Value.string zk, Value.bool false, Value.string zf, Value.int IntKind.i64 zr, Value.int IntKind.i64 zt, Value.int IntKind.i64 1, Value.slice ba kl bc][o]? := fun o => by simp [World.cell?, hbx5]
          have q40 : wk4.cell? ⟨w.heap.size, 0, none⟩ = some (.string zk) := qc4 0
          have q41 : wk4.cell? ⟨w.heap.size, 1, none⟩ = some (.bool false) := qc4 1
          have q42 : wk4.cell? ⟨w.heap.size, 2, none⟩ = some (.string zf) := qc4 2
          have q43 : wk4.cell? ⟨w.heap.size, 3, none⟩ = some (.int .i64 zr) := qc4 3
          have q44 : wk4.cell? ⟨w.heap.size, 4, none⟩ = some (.int .i64 zt) := qc4 4
          have q45 : wk4.cell? ⟨w.heap.size, 5, none⟩ = some (.int .i64 1) := qc4 5
          have q46 : wk4.cell? ⟨w.heap.size, 6, none⟩ = some (.slice ba kl bc) := qc4 6
          clear hc4 qc4 q30 q31 q32 q33 q34 q35 q36
          have hc5 := writeString_any B b ((((((l) ++ zf.data.toList) ++ [58, 32]) ++ [40]) ++ zk.data.toList) ++ kidsP [32] subs) ⟨#[41]⟩ _ hk4 (by show ((((((l) ++ zf.data.toList) ++ [58, 32]) ++ [40]) ++ zk.data.toList) ++ kidsP [32] subs).length + 1 ≤ 140737488355328; simp only [List.length_append, List.length_cons, List.length_nil, toList_len] at hlen2 ⊢; omega) hBk4
          go_wp2_with fail
          refine hc5.mono ?_
          rintro e wk5 ⟨rfl, hr5, hs5⟩
          have hk5 : BAt B b (((((((l) ++ zf.data.toList) ++ [58, 32]) ++ [40]) ++ zk.data.toList) ++ kidsP [32] subs) ++ [41]) wk5 := hr5
          clear hr5
          have hBk5 : B ≤ wk5.heap.size := Nat.le_trans hBk4 hs5.size
          have HSk5 : Hid (BStep B b w wk5) := HSk4.out.trans hs5
          have hbx6 := hs5.box hbx5 hbn0 (by decide)
          have HE : Hid (BAt B b (l ++ PT) wk5) := by show BAt _ _ _ _; rw [HPT.out]; simpa using hk5
          go_wp2_with fail
          go_end0
          exact ⟨rfl, HE.out, HSk5.out⟩
        · have hb1' : (zb == 1) = false := beq_eq_false_iff_ne.2 hb1
          have HPT : Hid (PT = zf.data.toList ++ [58, 32] ++ (zk.data.toList ++ (kidsP [91] subs ++ (if kl = 0 then [] else [93])))) := by show _ = _; rw [HPR]; simp [hb2, hb1]
          have hlen2 := hlen
          rw [HPT.out] at hlen2
          clear HPR hlen
          have hc0 := writeString_any B b (l) zf _ hA1 (by show (l).length + zf.size ≤ 140737488355328; simp only [List.length_append, List.length_cons, List.length_nil, toList_len] at hlen2 ⊢; omega) hB1'
          go_wp2_with fail
          refine hc0.mono ?_
          rintro e wk0 ⟨rfl, hr0, hs0⟩
          have hk0 : BAt B b ((l) ++ zf.data.toList) wk0 := hr0
          clear hr0
          have hBk0 : B ≤ wk0.heap.size := Nat.le_trans hB1' hs0.size
          have HSk0 : Hid (BStep B b w wk0) := HS0.out.trans hs0
          have hbx1 := hs0.box hbx0 hbn0 (by decide)
          have qc0 : ∀ o, wk0.cell? ⟨w.heap.size, o, none⟩ = #[Value.string zk, Value.bool false, Value.string zf, Value.int IntKind.i64 zr, Value.int IntKind.i64 zt, Value.int IntKind.i64 zb, Value.slice ba kl bc][o]? := fun o => by simp [World.cell?, hbx1]
          have q00 : wk0.cell? ⟨w.heap.size, 0, none⟩ = some (.string zk) := qc0 0
          have q01 : wk0.cell? ⟨w.heap.size, 1, none⟩ = some (.bool false) := qc0 1
          have q02 : wk0.cell? ⟨w.heap.size, 2, none⟩ = some (.string zf) := qc0 2
          have q03 : wk0.cell? ⟨w.heap.size, 3, none⟩ = some (.int .i64 zr) := qc0 3
          have q04 : wk0.cell? ⟨w.heap.size, 4, none⟩ = some (.int .i64 zt) := qc0 4
          have q05 : wk0.cell? ⟨w.heap.size, 5, none⟩ = some (.int .i64 zb) := qc0 5
          have q06 : wk0.cell? ⟨w.heap.size, 6, none⟩ = some (.slice ba kl bc) := qc0 6
          clear hc0 qc0
          have hc1 := writeString_any B b ((l) ++ zf.data.toList) ⟨#[58, 32]⟩ _ hk0 (by show ((l) ++ zf.data.toList).length + 2 ≤ 140737488355328; simp only [List.length_append, List.length_cons, List.length_nil, toList_len] at hlen2 ⊢; omega) hBk0
          go_wp2_with fail
          refine hc1.mono ?_
          rintro e wk1 ⟨rfl, hr1, hs1⟩
          have hk1 : BAt B b (((l) ++ zf.data.toList) ++ [58, 32]) wk1 := hr1
          clear hr1
          have hBk1 : B ≤ wk1.heap.size := Nat.le_trans hBk0 hs1.size
          have HSk1 : Hid (BStep B b w wk1) := HSk0.out.trans hs1
          have hbx2 := hs1.box hbx1 hbn0 (by decide)
          have qc1 : ∀ o, wk1.cell? ⟨w.heap.size, o, none⟩ = #[Value.string zk, Value.bool false, Value.string zf, Value.int IntKind.i64 zr, Value.int IntKind.i64 zt, Value.int IntKind.i64 zb, Value.slice ba kl bc][o]? := fun o => by simp [World.cell?, hbx2]
          have q10 : wk1.cell? ⟨w.heap.size, 0, none⟩ = some (.string zk) := qc1 0
          have q11 : wk1.cell? ⟨w.heap.size, 1, none⟩ = some (.bool false) := qc1 1
          have q12 : wk1.cell? ⟨w.heap.size, 2, none⟩ = some (.string zf) := qc1 2
          have q13 : wk1.cell? ⟨w.heap.size, 3, none⟩ = some (.int .i64 zr) := qc1 3
          have q14 : wk1.cell? ⟨w.heap.size, 4, none⟩ = some (.int .i64 zt) := qc1 4
          have q15 : wk1.cell? ⟨w.heap.size, 5, none⟩ = some (.int .i64 zb) := qc1 5
          have q16 : wk1.cell? ⟨w.heap.size, 6, none⟩ = some (.slice ba kl bc) := qc1 6
          clear hc1 qc1 q00 q01 q02 q03 q04 q05 q06
          have hc2 := writeString_any B b (((l) ++ zf.data.toList) ++ [58, 32]) zk _ hk1 (by show (((l) ++ zf.data.toList) ++ [58, 32]).length + zk.size ≤ 140737488355328; simp only [List.length_append, List.length_cons, List.length_nil, toList_len] at hlen2 ⊢; omega) hBk1
          go_wp2_with fail
          refine hc2.mono ?_
          rintro e wk2 ⟨rfl, hr2, hs2⟩
          have hk2 : BAt B b ((((l) ++ zf.data.toList) ++ [58, 32]) ++ zk.data.toList) wk2 := hr2
          clear hr2
          have hBk2 : B ≤ wk2.heap.size := Nat.le_trans hBk1 hs2.size
          have HSk2 : Hid (BStep B b w wk2) := HSk1.out.trans hs2
          have hbx3 := hs2.box hbx2 hbn0 (by decide)
          have qc2 : ∀ o, wk2.cell? ⟨w.heap.size, o, none⟩ = #[Value.string zk, Value.bool false, Value.string zf, Value.int IntKind.i64 zr, Value.int IntKind.i64 zt, Value.int IntKind.i64 zb, Value.slice ba kl bc][o]? := fun o => by simp [World.cell?, hbx3]
          have q20 : wk2.cell? ⟨w.heap.size, 0, none⟩ = some (.string zk) := qc2 0
          have q21 : wk2.cell? ⟨w.heap.size, 1, none⟩ = some (.bool false) := qc2 1
          have q22 : wk2.cell? ⟨w.heap.size, 2, none⟩ = some (.string zf) := qc2 2
          have q23 : wk2.cell? ⟨w.heap.size, 3, none⟩ = some (.int .i64 zr) := qc2 3
          have q24 : wk2.cell? ⟨w.heap.size, 4, none⟩ = some (.int .i64 zt) := qc2 4
          have q25 : wk2.cell? ⟨w.heap.size, 5, none⟩ = some (.int .i64 zb) := qc2 5
          have q26 : wk2.cell? ⟨w.heap.size, 6, none⟩ = some (.slice ba kl bc) := qc2 6
          clear hc2 qc2 q10 q11 q12 q13 q14 q15 q16
          have hc3 := HWK.out ⟨#[91]⟩ ⟨#[93]⟩ ((((l) ++ zf.data.toList) ++ [58, 32]) ++ zk.data.toList) _ (HSk2.out.from h0 hB0) hk2 (by show ((((l) ++ zf.data.toList) ++ [58, 32]) ++ zk.data.toList).length + (kidsP [91] subs).length + 1000 ≤ 140737488355328; simp only [List.length_append, List.length_cons, List.length_nil, toList_len] at hlen2 ⊢; omega) (by decide) hBk2
          go_wp2_with fail
          refine hc3.mono ?_
          rintro e wk3 ⟨rfl, hr3, hs3⟩
          have hk3 : BAt B b (((((l) ++ zf.data.toList) ++ [58, 32]) ++ zk.data.toList) ++ (kidsP [91] subs ++ (if kl = 0 then [] else [93]))) wk3 := hr3
          clear hr3
          have hBk3 : B ≤ wk3.heap.size := Nat.le_trans hBk2 hs3.size
          have HSk3 : Hid (BStep B b w wk3) := HSk2.out.trans hs3
          have hbx4 := hs3.box hbx3 hbn0 (by decide)
          have HE : Hid (BAt B b (l ++ PT) wk3) := by show BAt _ _ _ _; rw [HPT.out]; simpa using hk3
          go_wp2_with fail
          go_end0
          exact ⟨rfl, HE.out, HSk3.out⟩
theorem writes_all {A : Nat → Prop} : ∀ n, Writes A n
  | 0 => fun _ _ _ _ _ _ _ h => h.elim
  | n + 1 => write_step n (writes_all n)
end Go.Proofs.Ythmpnhjlblcgdaa
