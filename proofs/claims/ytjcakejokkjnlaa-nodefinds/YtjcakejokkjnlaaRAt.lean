/- The document's has, At. -/
import Derived.Test.YtjcakejokkjnlaaPFind
namespace Go.Proofs.Ytjcakejokkjnlaa
open Go.RowKit

set_option maxRecDepth 100000 in
set_option maxHeartbeats 2000000 in
theorem rhas_any (h : Hd) (kv : Value) (f t : Int) (w : World) :
    Calls Try.prog 43 #[ndV h kv, .int .i64 f, .int .i64 t] w fun e w' => e = .returned (.bool (hasB h f t)) ∧ Below w.heap.size w w' := by
  obtain ⟨zk, zn, zf, zr, zt, zb⟩ := h
  unfold ndV hasB
  simp only
  have hB0 : Below w.heap.size w (w.alloc (Obj.cells #[Value.string zk, Value.bool zn, Value.string zf, Value.int IntKind.i64 zr, Value.int IntKind.i64 zt, Value.int IntKind.i64 zb, kv] 24)) := (Below.refl _ _).alloc (Nat.le_refl _) _
  by_cases g1 : zr ≤ f
  · go_enter Try.func43, Try.ntmps43
    go_wp2
    all_goals
      go_ret
      exact ⟨ret_bool (by simp_all), hB0⟩
  · have g1' : f < zr := by omega
    go_enter Try.func43, Try.ntmps43
    go_wp2
    all_goals
      go_ret
      exact ⟨ret_bool (by simp; omega), hB0⟩
theorem own_one {W : World} {b B : Nat} (x : Int) (h : W.heap[b]? = some (.cells #[.int .i64 x] 3 (0, 0))) (hB : B ≤ b) : OwnI B [x] (.slice (some ⟨b, 0, none⟩) 1 1) W :=
  ⟨rfl, .inr ⟨b, 1, #[.int .i64 x], rfl, hB, h, Nat.le_refl _, by unfold maxLen; decide, rfl, rfl⟩⟩

set_option maxRecDepth 100000 in
set_option maxHeartbeats 4000000 in
theorem rat_any {A : Nat → Prop} : ∀ (n : Nat) (t0 : Nd) (v : Value) (f t : Int) (w : World), TAt A n t0 v w → cntN t0 ≤ 5000 →
    Calls Try.prog 28 #[v, .int .i64 f, .int .i64 t] w fun e w' => (∃ p pv, e = .returned pv ∧ OwnI w.heap.size p pv w' ∧ p.length ≤ cntN t0 ∧ ((hasB t0.h f t = true ∧ AtP f t t0 p) ∨ (hasB t0.h f t = false ∧ p = []))) ∧ Below w.heap.size w w'
  | 0, _, _, _, _, _, h, _ => h.elim
  | n + 1, t0, v, f, t, w, h, hc => by
    obtain ⟨ba, bc, rfl, hok, _, _, hlb, hsubs0⟩ := h
    have hsubs : KidsAt A n t0.kids ba w := hsubs0
    clear hsubs0 hok
    have ih := rat_any (A := A) n
    have hcn := cntN_mk t0
    have hh := rhas_any t0.h (.slice ba t0.kids.length bc) f t
    have HGO : Hid (∀ j (hj : j < t0.kids.length) p, hasB t0.kids[j].h f t = true → (∀ i (hi : i < t0.kids.length), i < j → hasB t0.kids[i].h f t = false) → AtP f t t0.kids[j] p → AtP f t t0 ((j : Int) :: p)) := fun j hj p h1 h2 h3 => .go t0 j hj p h1 h2 h3
    have HST : Hid ((∀ i (hi : i < t0.kids.length), hasB t0.kids[i].h f t = false) → AtP f t t0 []) := fun h1 => .stop t0 h1
    generalize hHB : hasB t0.h f t = HB at *
    have HHB : Hid (hasB t0.h f t = HB) := hHB
    generalize t0.kids = subs at *
    generalize t0.h = hd at *
    obtain ⟨zk, zn, zf, zr, zt, zb⟩ := hd
    unfold ndV at *
    simp only at *
    have hB0 : Below w.heap.size w (w.alloc (Obj.cells #[Value.string zk, Value.bool zn, Value.string zf, Value.int IntKind.i64 zr, Value.int IntKind.i64 zt, Value.int IntKind.i64 zb, Value.slice ba subs.length bc] 24)) := (Below.refl _ _).alloc (Nat.le_refl _) _
    have c6 : (w.alloc (Obj.cells #[Value.string zk, Value.bool zn, Value.string zf, Value.int IntKind.i64 zr, Value.int IntKind.i64 zt, Value.int IntKind.i64 zb, Value.slice ba subs.length bc] 24)).cell? ⟨w.heap.size, 6, none⟩ = some (.slice ba subs.length bc) := by simp
    have hz : w.heap.size < (w.alloc (Obj.cells #[Value.string zk, Value.bool zn, Value.string zf, Value.int IntKind.i64 zr, Value.int IntKind.i64 zt, Value.int IntKind.i64 zb, Value.slice ba subs.length bc] 24)).heap.size := by simp
    have hh1 := hh (w.alloc (Obj.cells #[Value.string zk, Value.bool zn, Value.string zf, Value.int IntKind.i64 zr, Value.int IntKind.i64 zt, Value.int IntKind.i64 zb, Value.slice ba subs.length bc] 24))
    clear hh
    go_enter Try.func28, Try.ntmps28
    go_wp2_with fail
    refine hh1.mono ?_
    rintro e w1 ⟨rfl, hb1⟩
    have hB1 : Below w.heap.size w w1 := below_next hB0 hb1
    have d6 := (hb1.cell (p := ⟨w.heap.size, 6, none⟩) hz).trans c6
    have hz1 : w.heap.size < w1.heap.size := Nat.lt_of_lt_of_le hz hb1.size
    have HK : Hid (KidsAt A n subs ba w1) := hsubs.next hB1
    clear hh1 hsubs c6 hz hb1 hHB
    cases HB with
    | false =>
      clear HGO HST HK ih
      go_wp2_with fail
      go_ret
      exact ⟨⟨[], _, rfl, World.ownsRow_nil _ _ _ _, Nat.zero_le _, by simp⟩, hB1⟩
    | true =>
      have HIH : Hid _ := ih
      clear ih
      obtain ⟨i0, hi, hz0, hz1', hz2⟩ := info_parts infoI
      go_wp2_with fail
      go_loopw [7] (fun c wr => ∃ j : Nat, c = .int .i64 j ∧ j ≤ subs.length ∧ Below w1.heap.size w1 wr ∧ Hid (∀ i (hi : i < subs.length), i < j → hasB subs[i].h f t = false)) (fun c _ => subs.length - (intOf c).toNat)
      case atStart => exact ⟨0, rfl, Nat.zero_le _, Below.refl _ _, fun i _ h => by omega⟩
      case round =>
        obtain ⟨j, rfl, hj, hB, HF⟩ := hrel
        have D6 := (hB.cell (p := ⟨w.heap.size, 6, none⟩) hz1).trans d6
        have hzr : w.heap.size < wr.heap.size := Nat.lt_of_lt_of_le hz1 hB.size
        by_cases hlt : j < subs.length
        · have k1 : (j : Int) < subs.length := by omega
          obtain ⟨b, off, ka, kc, rfl, _, hb, hr7, hT⟩ := HK.out.at hB hlt
          have hhk := rhas_any subs[j].h (.slice ka subs[j].kids.length kc) f t wr
          have hcj := cntL_at hlt
          have hrec := fun W (hb' : Below wr.heap.size wr W) => HIH.out subs[j] _ f t W (hT.next hb') (by omega)
          have HR7 : Hid (∀ W, Below wr.heap.size wr W → Row7 b (off + j * 7) subs[j].h (.slice ka subs[j].kids.length kc) W) := fun W hb' => hr7.but (D := fun _ => False) (But.of_next hb') hb (fun h => h)
          obtain ⟨e0, e1, e2, e3, e4, e5, e6⟩ := hr7
          cases hsb : hasB subs[j].h f t with
          | true =>
            have HG : Hid (∀ p, AtP f t subs[j] p → AtP f t t0 ((j : Int) :: p)) := fun p hp => HGO.out j hlt p hsb HF.out hp
            have HREC : Hid (∀ W, Below wr.heap.size wr W → Calls Try.prog 28 #[ndV subs[j].h (.slice ka subs[j].kids.length kc), .int .i64 f, .int .i64 t] W fun e w' => (∃ p pv, e = .returned pv ∧ OwnI W.heap.size p pv w' ∧ p.length ≤ cntN subs[j] ∧ AtP f t subs[j] p) ∧ Below W.heap.size W w') := fun W hb' => (hrec W hb').mono fun e w' ⟨⟨p, pv, q1, q2, q4, q3⟩, q5⟩ => by
              rcases q3 with ⟨_, q3⟩ | ⟨q3, _⟩
              · exact ⟨⟨p, pv, q1, q2, q4, q3⟩, q5⟩
              · rw [hsb] at q3; cases q3
            rw [hsb] at hhk
            have hcj2 : cntN subs[j] ≤ 5000 := by omega
            have hcj3 : cntN subs[j] + 1 ≤ cntN t0 := by omega
            generalize subs[j] = y at *
            generalize y.h = sh at *
            generalize y.kids.length = sk at *
            obtain ⟨xk, xn, xf, xr, xt, xb⟩ := sh
            unfold ndV at *
            simp only at *
            clear HF HGO HST HK HIH hT hrec hsb
            go_wp2_with fail
            refine hhk.mono ?_
            rintro e w2 ⟨rfl, hb2⟩
            have D62 := (hb2.cell (p := ⟨w.heap.size, 6, none⟩) hzr).trans D6
            have hbz : Below w2.heap.size w2 (w2.alloc (Obj.cells #[.int .i64 j] 3)) := (Below.refl _ _).alloc (Nat.le_refl _) _
            have hB2z : Below wr.heap.size wr (w2.alloc (Obj.cells #[.int .i64 j] 3)) := hb2.trans (hbz.mono hb2.size)
            have hrc := HREC.out _ hB2z
            have D63 := (hbz.cell (p := ⟨w.heap.size, 6, none⟩) (Nat.lt_of_lt_of_le hzr hb2.size)).trans D62
            obtain ⟨p0, p1, p2, p3, p4, p5, p6⟩ := HR7.out _ hB2z
            have hown0 : OwnI w1.heap.size [(j : Int)] (.slice (some ⟨w2.heap.size, 0, none⟩) 1 1) (w2.alloc (Obj.cells #[.int .i64 j] 3)) := own_one _ (World.alloc_heap_new w2 _) (by have := hB.size; have := hb2.size; omega)
            clear hhk HREC HR7 e0 e1 e2 e3 e4 e5 e6
            go_wp2_with fail
            refine hrc.mono ?_
            rintro e w3 ⟨⟨p, pv, rfl, hop, hpl, hat⟩, hb3⟩
            obtain ⟨pa, pc, hpv, hrow⟩ := RowI.of_own hop
            obtain ⟨_, _, hpv2, hpn, hpc⟩ := own_shape hop
            subst hpv
            cases hpv2
            have hown := ownsRow_next hown0 hb3
            have HAT : Hid (AtP f t t0 ((j : Int) :: p)) := HG.out p hat
            have hB3 : Below w.heap.size w w3 := below_next hB1 (hB.trans ((hB2z.trans (hb3.mono hB2z.size)).mono hB.size))
            have hb13 : Below w1.heap.size w1 w3 := hB.trans ((hB2z.trans (hb3.mono hB2z.size)).mono hB.size)
            have hs13 := hb13.size
            have hpl0 : p = [] → pa = none ∨ True := fun _ => .inr trivial
            clear hrc hown0 hop hat HG p0 p1 p2 p3 p4 p5 p6 D6 D62
            go_wp2_with (at_builtin; refine wpList_append_any rfl _ _ 35 rfl w1.heap.size 3 i0 _ 1 8 Try.underlying35 hi hz0 hz1' hz2 rfl (by decide) _ _ _ rfl hown pa p.length pc (p.map encI) rfl (fun e => ⟨by have := hpn e; omega, hpn e⟩) (by simp) (fun ad ea q u hq => ?_) (fun u hu => ?_) (by unfold maxLen; simp; omega) (by simp; omega) (by omega) ?_)
            · rw [List.getElem?_map] at hq
              cases hq2 : p[q]? with
              | none => rw [hq2] at hq; cases hq
              | some y2 =>
                rw [hq2] at hq
                obtain ⟨b9, o9, e9, _, c9⟩ := hrow q y2 hq2
                rw [ea] at e9
                cases e9
                rw [add_plain, c9]
                exact hq
            · obtain ⟨y2, _, rfl⟩ := List.mem_map.1 hu; rfl
            · intro v' w4 ho hg
              have hB4 : Below w.heap.size w w4 := hB3.trans ((but_grown hg).below (by have := hB3.size; omega) (fun k _ h' => by have := (World.ownsRow.lt hown k h').1; omega))
              have HOW : Hid (OwnI w.heap.size ((j : Int) :: p) v' w4) := by
                show World.ownsRow _ _ _ _ _ _ _
                have := own_base ho (C := w.heap.size) (by omega)
                simpa [Nat.add_comm, encI] using this
              obtain ⟨ao5, cap5, hsv, _⟩ := own_shape HOW.out
              clear ho hg hown
              subst hsv
              go_wp2_with fail
              go_ret
              exact ⟨⟨(j : Int) :: p, _, rfl, HOW.out, by simp only [List.length_cons]; omega, by simpa using HAT.out⟩, hB4⟩
          | false =>
            have HF2 : Hid (∀ i (hi : i < subs.length), i < j + 1 → hasB subs[i].h f t = false) := fun i hi h => by
              by_cases e : i = j
              · subst e; exact hsb
              · exact HF.out i hi (by omega)
            rw [hsb] at hhk
            generalize subs[j].h = sh at *
            generalize subs[j].kids.length = sk at *
            obtain ⟨xk, xn, xf, xr, xt, xb⟩ := sh
            unfold ndV at *
            simp only at *
            clear HF HGO HST HK HIH hT hrec hsb HR7
            go_wp2_with fail
            refine hhk.mono ?_
            rintro e w2 ⟨rfl, hb2⟩
            clear hhk
            go_wp2_with fail
            exact ⟨⟨j + 1, by go_num, by omega, below_next hB hb2, HF2⟩, by simp [intOf]; omega⟩
        · have k1 : ¬ (j : Int) < subs.length := by omega
          have HAT : Hid (AtP f t t0 []) := HST.out (fun i hi => HF.out i hi (by omega))
          clear HF HGO HST HK HIH
          go_wp2_with fail
          go_ret
          exact ⟨⟨[], _, rfl, World.ownsRow_nil _ _ _ _, Nat.zero_le _, by simpa using HAT.out⟩, below_next hB1 hB⟩
end Go.Proofs.Ytjcakejokkjnlaa
