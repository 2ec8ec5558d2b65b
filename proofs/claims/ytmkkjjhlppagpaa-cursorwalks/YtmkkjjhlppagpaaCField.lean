/- Field. -/
import Derived.Test.YtmkkjjhlppagpaaCBeside
import Derived.Laws.Strings
namespace Go.Proofs.Ytmkkjjhlppagpaa
open Go.RowKit

theorem bytes_beq (a b : ByteArray) : (a.toList == b.toList) = decide (a = b) := by
  by_cases e : a = b
  · subst e; simp
  · have : a.toList ≠ b.toList := fun h => e (by rw [ByteArray.toList_eq, ByteArray.toList_eq] at h; exact ByteArray.ext (Array.toList_inj.1 h))
    rw [decide_eq_false e, beq_eq_false_iff_ne.2 this]
def fldB (h : Hd) (f : ByteArray) : Bool := decide (h.field = f)
def idxF (l : List Nd) (f : ByteArray) : Int := match l.findIdx? (fun k => fldB k.h f) with
  | none => -1
  | some i => i
theorem idxF_some {l : List Nd} {f : ByteArray} {j : Nat} (hj : j < l.length) (h : fldB l[j].h f = true) (hb : ∀ i (hi : i < l.length), i < j → fldB l[i].h f = false) : idxF l f = j := by
  have : l.findIdx? (fun k => fldB k.h f) = some j := List.findIdx?_eq_some_iff_getElem.2 ⟨hj, h, fun i hi => by have := hb i (by omega) hi; simp [this]⟩
  unfold idxF
  rw [this]
theorem idxF_none {l : List Nd} {f : ByteArray} (hb : ∀ i (hi : i < l.length), fldB l[i].h f = false) : idxF l f = -1 := by
  have : l.findIdx? (fun k => fldB k.h f) = none := List.findIdx?_eq_none_iff.2 (fun x hx => by
    obtain ⟨i, hi, rfl⟩ := List.getElem_of_mem hx
    exact hb i hi)
  unfold idxF
  rw [this]

set_option maxRecDepth 100000 in
set_option maxHeartbeats 2000000 in
theorem field1_any (h : Hd) (kv : Value) (P1 : Nat) (f : ByteArray) (w : World) (c1 : w.cell? ⟨P1, 0, none⟩ = some (.string f)) :
    Calls Try.prog 36 #[ndV h kv, .pointer (some ⟨P1, 0, none⟩)] w fun e w' => e = .returned (.bool (fldB h f)) ∧ Below w.heap.size w w' := by
  obtain ⟨zk, zn, zf, zr, zt, zb⟩ := h
  unfold ndV fldB
  simp only
  have hB0 : Below w.heap.size w (w.alloc (Obj.cells #[Value.string zk, Value.bool zn, Value.string zf, Value.int IntKind.i64 zr, Value.int IntKind.i64 zt, Value.int IntKind.i64 zb, kv] 24)) := (Below.refl _ _).alloc (Nat.le_refl _) _
  have d1 := (hB0.cell (p := ⟨P1, 0, none⟩) (World.block_lt_of_cell? _ _ c1)).trans c1
  go_enter Try.func36, Try.ntmps36
  go_wp2
  all_goals
    go_ret
    exact ⟨ret_bool (bytes_beq zf f), hB0⟩

set_option maxRecDepth 100000 in
set_option maxHeartbeats 2000000 in
theorem idxF_any {A : Nat → Prop} (n : Nat) (subs : List Nd) (ba : Option Addr) (bc P1 : Nat) (f : ByteArray) (w : World) (hK : KidsAt A n subs ba w) (hlb : subs.length ≤ 140737488351232) (c1 : w.cell? ⟨P1, 0, none⟩ = some (.string f)) :
    Calls Try.prog 35 #[.slice ba subs.length bc, .func (.func 36) #[] #[.pointer (some ⟨P1, 0, none⟩)]] w fun e w' => e = .returned (.int .i64 (idxF subs f)) ∧ Below w.heap.size w w' := by
  have HV : Hid (idxF subs f = idxF subs f) := rfl
  have HC : Hid (∀ W, Below w.heap.size w W → W.cell? ⟨P1, 0, none⟩ = some (.string f)) := fun W hb => (hb.cell (p := ⟨P1, 0, none⟩) (World.block_lt_of_cell? _ _ c1)).trans c1
  have HS : Hid (∀ j (hj : j < subs.length), fldB subs[j].h f = true → (∀ i (hi : i < subs.length), i < j → fldB subs[i].h f = false) → idxF subs f = j) := fun j hj h1 h2 => idxF_some hj h1 h2
  have HN : Hid ((∀ i (hi : i < subs.length), fldB subs[i].h f = false) → idxF subs f = -1) := fun h => idxF_none h
  generalize idxF subs f = V at *
  have HK : Hid (KidsAt A n subs ba w) := hK
  clear hK c1 HV
  go_enter Try.func35, Try.ntmps35
  go_wp2
  go_loopw [8] (fun c wr => ∃ j : Nat, c = .int .i64 j ∧ j ≤ subs.length ∧ Below w.heap.size w wr ∧ Hid (∀ i (hi : i < subs.length), i < j → fldB subs[i].h f = false)) (fun c _ => subs.length - (intOf c).toNat)
  case atStart => exact ⟨0, rfl, Nat.zero_le _, Below.refl _ _, fun i _ h => by omega⟩
  case round =>
    obtain ⟨j, rfl, hj, hB, HF⟩ := hrel
    by_cases hlt : j < subs.length
    · have k1 : (j : Int) < subs.length := by omega
      obtain ⟨b, off, ka, kc, rfl, _, hb, ⟨e0, e1, e2, e3, e4, e5, e6⟩, _⟩ := HK.out.at hB hlt
      have q1 := HC.out wr hB
      have hh := field1_any subs[j].h (.slice ka subs[j].kids.length kc) P1 f wr q1
      cases hsb : fldB subs[j].h f with
      | true =>
        have hV := HS.out j hlt hsb HF.out
        rw [hsb] at hh
        generalize subs[j].h = sh at *
        generalize subs[j].kids.length = sk at *
        obtain ⟨xk, xn, xf, xr, xt, xb⟩ := sh
        unfold ndV at hh
        simp only at *
        have HVV : Hid (V = (j : Int)) := hV
        clear HF HS HN HK HC hV hsb
        go_wp2_with fail
        refine hh.mono ?_
        rintro e w2 ⟨rfl, hb2⟩
        clear hh
        go_wp2
        go_ret
        exact ⟨ret_int HVV.out.symm, below_next hB hb2⟩
      | false =>
        have HF2 : Hid (∀ i (hi : i < subs.length), i < j + 1 → fldB subs[i].h f = false) := fun i hi h => by
          by_cases e : i = j
          · subst e; exact hsb
          · exact HF.out i hi (by omega)
        rw [hsb] at hh
        generalize subs[j].h = sh at *
        generalize subs[j].kids.length = sk at *
        obtain ⟨xk, xn, xf, xr, xt, xb⟩ := sh
        unfold ndV at hh
        simp only at *
        clear HF HS HN HK HC hsb
        go_wp2_with fail
        refine hh.mono ?_
        rintro e w2 ⟨rfl, hb2⟩
        clear hh
        go_wp2
        exact ⟨⟨j + 1, by go_num, by omega, below_next hB hb2, HF2⟩, by simp [intOf]; omega⟩
    · have k1 : ¬ (j : Int) < subs.length := by omega
      have HVV : Hid (V = -1) := HN.out (fun i hi => HF.out i hi (by omega))
      clear HF HS HN HK HC
      go_wp2
      go_ret
      exact ⟨ret_int HVV.out.symm, hB⟩

set_option maxRecDepth 100000 in
set_option maxHeartbeats 4000000 in
theorem field_any {A : Nat → Prop} (n : Nat) (t : Nd) (v : Value) (p : List Int) (pv : Value) (f : ByteArray) (w : World) (h : TAt A n t v w) (hc : cntN t ≤ 5000) (hp : SlP p pv w) (hpl : p.length ≤ 140737488351232) :
    Calls Try.prog 21 #[v, pv, .string f] w fun e w' => GivesP w.heap.size (fieldN t p f) e w' ∧ Below w.heap.size w w' := by
  have HP : Hid (∀ W, Below w.heap.size w W → SlP p pv W) := fun W hb => hp.next hb
  obtain ⟨ba, bc, rfl, _⟩ := h.val
  obtain ⟨W0, hW0⟩ : ∃ W0, W0 = (w.alloc (Obj.cells #[.string t.h.kind, .bool t.h.named, .string t.h.field, .int .i64 t.h.frm, .int .i64 t.h.to, .int .i64 t.h.bad, .slice ba t.kids.length bc] 24)).alloc (Obj.cells #[.string f] 9) := ⟨_, rfl⟩
  have hB0 : Below w.heap.size w W0 := by rw [hW0]; exact ((Below.refl _ _).alloc (Nat.le_refl _) _).alloc (by simp) _
  have hz : W0.heap.size = w.heap.size + 1 + 1 := by rw [hW0]; simp
  have hl := lead_call n t _ p pv W0 (h.next hB0) hc (hp.next hB0) hpl
  have cb : W0.heap[w.heap.size + 1]? = some (.cells #[.string f] 9 (0, 0)) := by
    have := World.alloc_heap_new (w.alloc (Obj.cells #[.string t.h.kind, .bool t.h.named, .string t.h.field, .int .i64 t.h.frm, .int .i64 t.h.to, .int .i64 t.h.bad, .slice ba t.kids.length bc] 24)) (Obj.cells #[.string f] 9)
    rw [World.size_alloc] at this
    rw [hW0]; exact this
  have c1 : W0.cell? ⟨w.heap.size + 1, 0, none⟩ = some (.string f) := by simp [World.cell?, cb]
  have HC1 : Hid (∀ W, Below W0.heap.size W0 W → W.cell? ⟨w.heap.size + 1, 0, none⟩ = some (.string f)) := fun W hW => (hW.cell (p := ⟨w.heap.size + 1, 0, none⟩) (by simp only; omega)).trans c1
  have HB : Hid _ := hB0
  have HS : Hid (w.heap.size ≤ W0.heap.size) := hB0.size
  have HL : Hid (∀ x, findN t p = some x → p.length ≤ 5000) := fun x hx => by have := findN_len p t x hx; omega
  have HD : Hid (fieldN t p f = match findN t p with
    | none => none
    | some x => (fieldI x f).map (fun (i : Nat) => p ++ [(i : Int)])) := rfl
  generalize fieldN t p f = D at *
  obtain ⟨pa, pc, rfl, _⟩ := hp
  clear h hB0 hc c1 cb hz
  generalize t.h = hd at *
  generalize t.kids.length = tl at *
  obtain ⟨zk, zn, zf, zr, zt, zb⟩ := hd
  unfold ndV at *
  simp only at *
  rw [hW0] at hl
  go_enter Try.func21, Try.ntmps21
  go_wp2_with fail
  refine hl.mono ?_
  rw [← hW0]
  rintro e w1 ⟨⟨hd1, ka, kl, kc, rfl, hh, hkl, hk, m, hT⟩, hb1⟩
  clear hl hW0
  generalize hF : findN t p = F at *
  have HB1 : Hid (Below w.heap.size w w1) := HB.out.trans (hb1.mono HS.out)
  cases F with
  | none =>
    have HE : Hid (D = none) := HD.out
    obtain ⟨uk, un, uf, ur, ut, ub⟩ := hd1
    clear hb1 HD hkl hh hT
    go_wp2_with fail
    refine bodyPost_ret (v := .tuple #[.slice none 0 0, .bool false]) (by simp [results, Try.f21, go_sem]) rfl ?_
    rw [HE.out]
    exact ⟨GivesP.none, HB1.out.alloc (by have := HB1.out.size; omega) _⟩
  | some x =>
    have hpl5 := HL.out x rfl
    simp only [Option.getD_some] at hh hkl hT
    subst hh hkl
    obtain ⟨m2, q1, q2, q3, _, hxl, hKx⟩ := TAt.succ hT
    have hB2 : Below w1.heap.size w1 (w1.alloc (Obj.cells #[.string x.h.kind, .bool x.h.named, .string x.h.field, .int .i64 x.h.frm, .int .i64 x.h.to, .int .i64 x.h.bad, .slice ka x.kids.length kc] 24)) := (Below.refl _ _).alloc (Nat.le_refl _) _
    have HB2 : Hid (Below w.heap.size w (w1.alloc (Obj.cells #[.string x.h.kind, .bool x.h.named, .string x.h.field, .int .i64 x.h.frm, .int .i64 x.h.to, .int .i64 x.h.bad, .slice ka x.kids.length kc] 24))) := below_next HB1.out hB2
    have hidx := idxF_any m2 x.kids ka kc (w.heap.size + 1) f (w1.alloc (Obj.cells #[.string x.h.kind, .bool x.h.named, .string x.h.field, .int .i64 x.h.frm, .int .i64 x.h.to, .int .i64 x.h.bad, .slice ka x.kids.length kc] 24)) (KidsAt.next hKx hB2) hk (HC1.out _ (below_next hb1 hB2))
    have HDX : Hid (D = (fieldI x f).map (fun (i : Nat) => p ++ [(i : Int)])) := HD.out
    have HID : Hid (idxF x.kids f = match fieldI x f with
      | none => -1
      | some i => (i : Int)) := rfl
    have HIL : Hid (∀ i, fieldI x f = some i → i < x.kids.length) := fun i hi => (List.findIdx?_eq_some_iff_getElem.1 hi).1
    generalize idxF x.kids f = I at *
    generalize fieldI x f = J at *
    generalize x.h = xh at *
    generalize x.kids.length = xl at *
    obtain ⟨uk, un, uf, ur, ut, ub⟩ := xh
    clear hb1 hB2 HB HS HD hT hKx q1 q2 q3 HB1 HC1
    simp only at *
    cases J with
    | none =>
      obtain rfl : I = -1 := HID.out
      have HE : Hid (D = none) := HDX.out
      clear HDX HID HIL
      go_wp2_with fail
      refine hidx.mono ?_
      rintro e w2 ⟨rfl, hb2⟩
      have HB3 : Hid (Below w.heap.size w w2) := below_next HB2.out hb2
      clear hidx hb2 HB2
      go_wp2_with fail
      refine bodyPost_ret (v := .tuple #[.slice none 0 0, .bool false]) (by simp [results, Try.f21, go_sem]) rfl ?_
      rw [HE.out]
      exact ⟨GivesP.none, HB3.out⟩
    | some i =>
      obtain rfl : I = (i : Int) := HID.out
      have HE : Hid (D = some (p ++ [(i : Int)])) := HDX.out
      have hi := HIL.out i rfl
      have k1 : ¬ (i : Int) < 0 := by omega
      clear HDX HID HIL
      go_wp2_with fail
      refine hidx.mono ?_
      rintro e w2 ⟨rfl, hb2⟩
      have HB5 : Hid (Below w.heap.size w (w2.alloc (Obj.cells #[.int .i64 i] 3))) := below_next (below_next HB2.out hb2) ((Below.refl _ _).alloc (Nat.le_refl _) _)
      have ht := told_any p [(i : Int)] _ _ _ (HP.out _ HB5.out) (SlP.one (W := w2) i) (by omega) (by simp)
      clear hidx hb2 HB2
      go_wp2_with fail
      refine ht.mono ?_
      rintro e w3 ⟨⟨v, rfl, hv⟩, hb3⟩
      have HR : Hid (OwnI w.heap.size (p ++ [(i : Int)]) v w3 ∧ Below w.heap.size w w3) := ⟨own_base hv HB5.out.size, below_next HB5.out hb3⟩
      clear ht hv hb3 HB5
      go_wp2_with fail
      refine bodyPost_ret (v := .tuple #[v, .bool true]) (by simp [results, Try.f21, go_sem]) rfl ?_
      rw [HE.out]
      exact ⟨GivesP.some HR.out.1, HR.out.2⟩
end Go.Proofs.Ytmkkjjhlppagpaa
