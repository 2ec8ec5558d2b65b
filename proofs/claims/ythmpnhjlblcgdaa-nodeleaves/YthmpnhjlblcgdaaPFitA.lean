/- fitBad, fitKids, fitAlone. -/
import Derived.Test.YthmpnhjlblcgdaaRSmall
namespace Go.Proofs.Ythmpnhjlblcgdaa
open Go.RowKit

def badB (h : Hd) (n : Nat) : Bool := if h.bad = 2 then decide (n = 0) && (h.frm == h.to) else (h.bad == 0) || (h.bad == 1)
def kidsB : List Nd → Int → Int → Bool
  | [], _, _ => true
  | k :: l, f, t => decide (f ≤ k.h.frm) && decide (k.h.to ≤ t) && kidsB l k.h.to t
def headB (h : Hd) (size : Int) : Bool := decide (0 ≤ h.frm) && decide (h.frm ≤ h.to) && decide (h.to ≤ size) && decide (0 < h.kind.size) && decide (h.kind.size ≤ 80) && decide (h.field.size ≤ 32)
def aloneB (t : Nd) (size : Int) : Bool := headB t.h size && badB t.h t.kids.length && kidsB t.kids t.h.frm t.h.to
theorem kidsB_drop {l : List Nd} {j : Nat} (h : j < l.length) (f t : Int) : kidsB (l.drop j) f t = (decide (f ≤ l[j].h.frm) && decide (l[j].h.to ≤ t) && kidsB (l.drop (j + 1)) l[j].h.to t) := by
  rw [List.drop_eq_getElem_cons h, kidsB]

set_option maxRecDepth 100000 in
set_option maxHeartbeats 2000000 in
theorem fitBad_any (h : Hd) (ba : Option Addr) (n bc : Nat) (w : World) :
    Calls Try.prog 46 #[ndV h (.slice ba n bc)] w fun e w' => e = .returned (.bool (badB h n)) ∧ Below w.heap.size w w' := by
  obtain ⟨zk, zn, zf, zr, zt, zb⟩ := h
  have hB0 : Below w.heap.size w (w.alloc (Obj.cells #[Value.string zk, Value.bool zn, Value.string zf, Value.int IntKind.i64 zr, Value.int IntKind.i64 zt, Value.int IntKind.i64 zb, Value.slice ba n bc] 24)) := (Below.refl _ _).alloc (Nat.le_refl _) _
  unfold ndV badB
  simp only
  by_cases h2 : zb = 2
  · subst h2
    rw [if_pos rfl]
    by_cases h0 : n = 0
    · subst h0
      go_enter Try.func46, Try.ntmps46
      go_wp2
      all_goals
        go_ret
        exact ⟨ret_bool (by simp_all), hB0⟩
    · have h3 : ¬ (n : Int) = 0 := by omega
      have h4 : ((n : Int) == 0) = false := beq_eq_false_iff_ne.2 h3
      go_enter Try.func46, Try.ntmps46
      go_wp2
      all_goals
        go_ret
        exact ⟨ret_bool (by simp_all), hB0⟩
  · rw [if_neg h2]
    have h4 : (zb == 2) = false := beq_eq_false_iff_ne.2 h2
    go_enter Try.func46, Try.ntmps46
    go_wp2
    all_goals
      go_ret
      exact ⟨ret_bool (by simp_all), (Below.refl _ _).alloc (Nat.le_refl _) _⟩

set_option maxRecDepth 100000 in
set_option maxHeartbeats 4000000 in
theorem fitKids_any {A : Nat → Prop} (n : Nat) (t : Nd) (v : Value) (w : World) (h : TAt A n t v w) :
    Calls Try.prog 47 #[v] w fun e w' => e = .returned (.bool (kidsB t.kids t.h.frm t.h.to)) ∧ Below w.heap.size w w' := by
  cases n with
  | zero => exact h.elim
  | succ n =>
    obtain ⟨ba, bc, rfl, hok, _, _, hlb, hsubs0⟩ := h
    have hsubs : KidsAt A n t.kids ba w := hsubs0
    clear hsubs0 hok
    generalize t.kids = subs at *
    generalize t.h = hd at *
    obtain ⟨zk, zn, zf, zr, zt, zb⟩ := hd
    unfold ndV
    simp only
    obtain ⟨V, hV⟩ : ∃ V, kidsB subs zr zt = V := ⟨_, rfl⟩
    have HV : Hid (kidsB subs zr zt = V) := hV
    rw [hV]
    clear hV
    have hB0 : Below w.heap.size w (w.alloc (Obj.cells #[Value.string zk, Value.bool zn, Value.string zf, Value.int IntKind.i64 zr, Value.int IntKind.i64 zt, Value.int IntKind.i64 zb, Value.slice ba subs.length bc] 24)) := (Below.refl _ _).alloc (Nat.le_refl _) _
    have c4 : (w.alloc (Obj.cells #[Value.string zk, Value.bool zn, Value.string zf, Value.int IntKind.i64 zr, Value.int IntKind.i64 zt, Value.int IntKind.i64 zb, Value.slice ba subs.length bc] 24)).cell? ⟨w.heap.size, 4, none⟩ = some (.int .i64 zt) := by simp
    have hz : w.heap.size < (w.alloc (Obj.cells #[Value.string zk, Value.bool zn, Value.string zf, Value.int IntKind.i64 zr, Value.int IntKind.i64 zt, Value.int IntKind.i64 zb, Value.slice ba subs.length bc] 24)).heap.size := by simp
    go_enter Try.func47, Try.ntmps47
    go_wp2
    have hs0 : KidsAt A n subs ba (w.alloc (Obj.cells #[Value.string zk, Value.bool zn, Value.string zf, Value.int IntKind.i64 zr, Value.int IntKind.i64 zt, Value.int IntKind.i64 zb, Value.slice ba subs.length bc] 24)) := hsubs.next hB0
    generalize w.alloc (Obj.cells #[Value.string zk, Value.bool zn, Value.string zf, Value.int IntKind.i64 zr, Value.int IntKind.i64 zt, Value.int IntKind.i64 zb, Value.slice ba subs.length bc] 24) = W0 at *
    obtain ⟨P, HP⟩ : ∃ P, Hid (P = w.heap.size) := ⟨_, rfl⟩
    rw [← HP.out] at c4 hz ⊢
    clear hsubs
    go_loopw [3, 11] (fun l c wr => ∃ (j : Nat) (lf : Int), c = .int .i64 j ∧ l = .int .i64 lf ∧ j ≤ subs.length ∧ Below W0.heap.size W0 wr ∧ Hid (V = kidsB (subs.drop j) lf zt)) (fun _ c _ => subs.length - (intOf c).toNat)
    case atStart => exact ⟨0, zr, rfl, rfl, Nat.zero_le _, Below.refl _ _, HV.out.symm⟩
    case round =>
      obtain ⟨j, lf, rfl, rfl, hj, hB, HF⟩ := hrel
      have d4 := (hB.cell (p := ⟨P, 4, none⟩) hz).trans c4
      have hBw : Below w.heap.size w wr := below_next hB0 hB
      by_cases hlt : j < subs.length
      · have k1 : (j : Int) < subs.length := by omega
        obtain ⟨b, off, ka, kc, rfl, _, hb, ⟨e0, e1, e2, e3, e4, e5, e6⟩, _⟩ := hs0.at hB hlt
        have HF2 : Hid (V = (decide (lf ≤ subs[j].h.frm) && decide (subs[j].h.to ≤ zt) && kidsB (subs.drop (j + 1)) subs[j].h.to zt)) := by
          show _ = _
          rw [HF.out, kidsB_drop hlt]
        generalize subs[j].h = sh at *
        generalize subs[j].kids.length = sk at *
        obtain ⟨xk, xn, xf, xr, xt, xb⟩ := sh
        simp only at *
        have hBk : Below wr.heap.size wr (wr.alloc (Obj.cells #[Value.string xk, Value.bool xn, Value.string xf, Value.int IntKind.i64 xr, Value.int IntKind.i64 xt, Value.int IntKind.i64 xb, Value.slice ka sk kc] 24)) := (Below.refl _ _).alloc (Nat.le_refl _) _
        have d4' := (hBk.cell (p := ⟨P, 4, none⟩) (Nat.lt_of_lt_of_le hz hB.size)).trans d4
        clear HF HV hs0
        by_cases q1 : lf ≤ xr
        · by_cases q2 : xt ≤ zt
          · have q1' : ¬ xr < lf := by omega
            have q2' : ¬ zt < xt := by omega
            have HF3 : Hid (V = kidsB (subs.drop (j + 1)) xt zt) := by show _ = _; rw [HF2.out]; simp [q1, q2]
            clear HF2
            go_wp2
            exact ⟨⟨j + 1, xt, by go_num, rfl, by omega, below_next hB hBk, HF3⟩, by simp [intOf]; omega⟩
          · have q1' : ¬ xr < lf := by omega
            have q2' : zt < xt := by omega
            have HF3 : Hid (V = false) := by show _ = _; rw [HF2.out]; simp [q2]
            clear HF2
            go_wp2
            go_ret
            exact ⟨ret_bool HF3.out.symm, below_next hBw hBk⟩
        · have q1' : xr < lf := by omega
          have HF3 : Hid (V = false) := by show _ = _; rw [HF2.out]; simp [q1]
          clear HF2
          go_wp2
          go_ret
          exact ⟨ret_bool HF3.out.symm, below_next hBw hBk⟩
      · have k1 : ¬ (j : Int) < subs.length := by omega
        have HF3 : Hid (V = true) := by show _ = _; rw [HF.out, List.drop_of_length_le (by omega), kidsB]
        clear HF HV hs0
        go_wp2
        go_ret
        exact ⟨ret_bool HF3.out.symm, hBw⟩

set_option maxRecDepth 100000 in
set_option maxHeartbeats 4000000 in
theorem fitAlone_any {A : Nat → Prop} (n : Nat) (t : Nd) (v : Value) (size : Int) (w : World) (h : TAt A n t v w) :
    Calls Try.prog 34 #[v, .int .i64 size] w fun e w' => e = .returned (.bool (aloneB t size)) ∧ Below w.heap.size w w' := by
  have HK : Hid (∀ W, Below w.heap.size w W → Calls Try.prog 47 #[v] W fun e w' => e = .returned (.bool (kidsB t.kids t.h.frm t.h.to)) ∧ Below W.heap.size W w') := fun W hb => fitKids_any n t v W (h.next hb)
  obtain ⟨ba, bc, rfl, hkl⟩ := h.val
  have HB : Hid (∀ W, Calls Try.prog 46 #[ndV t.h (.slice ba t.kids.length bc)] W fun e w' => e = .returned (.bool (badB t.h t.kids.length)) ∧ Below W.heap.size W w') := fun W => fitBad_any t.h ba _ bc W
  have hk := h.ok.kind
  have hf := h.ok.field
  clear h
  unfold aloneB headB
  generalize kidsB t.kids t.h.frm t.h.to = KB at *
  generalize t.kids.length = kl at *
  generalize badB t.h kl = BB at *
  generalize t.h = hd at *
  obtain ⟨zk, zn, zf, zr, zt, zb⟩ := hd
  unfold ndV at *
  simp only at *
  have hB0 : Below w.heap.size w (w.alloc (Obj.cells #[Value.string zk, Value.bool zn, Value.string zf, Value.int IntKind.i64 zr, Value.int IntKind.i64 zt, Value.int IntKind.i64 zb, Value.slice ba kl bc] 24)) := (Below.refl _ _).alloc (Nat.le_refl _) _
  have r7 : Row7 w.heap.size 0 ⟨zk, zn, zf, zr, zt, zb⟩ (.slice ba kl bc) (w.alloc (Obj.cells #[Value.string zk, Value.bool zn, Value.string zf, Value.int IntKind.i64 zr, Value.int IntKind.i64 zt, Value.int IntKind.i64 zb, Value.slice ba kl bc] 24)) := by refine ⟨?_, ?_, ?_, ?_, ?_, ?_, ?_⟩ <;> simp
  obtain ⟨ks, hks⟩ : ∃ ks : Nat, zk.size = ks := ⟨_, rfl⟩
  obtain ⟨fs, hfs⟩ : ∃ fs : Nat, zf.size = fs := ⟨_, rfl⟩
  rw [hks, hfs]
  rw [hks] at hk
  rw [hfs] at hf
  have hbd := HB.out (w.alloc (Obj.cells #[Value.string zk, Value.bool zn, Value.string zf, Value.int IntKind.i64 zr, Value.int IntKind.i64 zt, Value.int IntKind.i64 zb, Value.slice ba kl bc] 24))
  by_cases g : 0 ≤ zr ∧ zr ≤ zt ∧ zt ≤ size ∧ 0 < ks ∧ ks ≤ 80 ∧ fs ≤ 32
  · obtain ⟨g1, g2, g3, g4, g5, g6⟩ := g
    have g4' : (0 : Int) < ks := by omega
    have g5' : (ks : Int) ≤ 80 := by omega
    have g6' : (fs : Int) ≤ 32 := by omega
    have HX : Hid ((decide (0 ≤ zr) && decide (zr ≤ zt) && decide (zt ≤ size) && decide (0 < ks) && decide (ks ≤ 80) && decide (fs ≤ 32) && BB && KB) = (BB && KB)) := by show _ = _; simp [g1, g2, g3, g4, g5, g6]
    rw [HX.out]
    clear HX
    go_enter Try.func34, Try.ntmps34
    cases BB with
    | false =>
      go_wp2_with (go_at_call 46; refine hbd.mono ?_; rintro e w2 ⟨rfl, hb2⟩)
      all_goals
        go_ret
        exact ⟨ret_bool (by simp), below_next hB0 hb2⟩
    | true =>
      go_wp2_with fail
      refine hbd.mono ?_
      rintro e w2 ⟨rfl, hb2⟩
      have hkd := HK.out w2 (below_next hB0 hb2)
      obtain ⟨r0, r1, r2, r3, r4, r5, r6⟩ := r7.but (D := fun _ => False) (But.of_next hb2) (by simp) (fun h => h)
      simp only [Nat.zero_add] at r1 r2 r3 r4 r5 r6
      clear hbd
      go_wp2_with (go_at_call 47; refine hkd.mono ?_; rintro e w3 ⟨rfl, hb3⟩)
      all_goals
        go_ret
        exact ⟨ret_bool (by simp), below_next (below_next hB0 hb2) hb3⟩
  · have HX : Hid ((decide (0 ≤ zr) && decide (zr ≤ zt) && decide (zt ≤ size) && decide (0 < ks) && decide (ks ≤ 80) && decide (fs ≤ 32) && BB && KB) = false) := by
      show _ = _
      rw [Bool.eq_false_iff]
      intro h
      simp only [Bool.and_eq_true, decide_eq_true_eq] at h
      exact g ⟨h.1.1.1.1.1.1.1, h.1.1.1.1.1.1.2, h.1.1.1.1.1.2, h.1.1.1.1.2, h.1.1.1.2, h.1.1.2⟩
    rw [HX.out]
    clear HX
    have HG : Hid (¬ (0 ≤ zr ∧ zr ≤ zt ∧ zt ≤ size ∧ 0 < ks ∧ ks ≤ 80 ∧ fs ≤ 32)) := g
    clear g HB HK hbd r7
    go_enter Try.func34, Try.ntmps34
    go_wp2_with fail
    all_goals first
      | (go_ret; exact ⟨rfl, hB0⟩)
      | (exfalso; exact HG.out ⟨by omega, by omega, by omega, by omega, by omega, by omega⟩)
end Go.Proofs.Ythmpnhjlblcgdaa
