/- has; slices.Concat over two rows of numbers; told. -/
import Derived.Test.YtmkkjjhlppagpaaCBase
import Derived.Shelf.Spec.SlicesGrow
import Derived.Shelf.Lay
import Derived.Ground.Names8Prog
namespace Go.Proofs.Ytmkkjjhlppagpaa
open Go.RowKit Go.Shelf

/-- A row of numbers that is read. -/
def SlP (l : List Int) (v : Value) (W : World) : Prop := ∃ ao c, v = .slice ao l.length c ∧ RowI l ao W ∧ (ao = none → c = 0) ∧ l.length ≤ c ∧ c ≤ 9223372036854775807
theorem SlP.next {l : List Int} {v : Value} {W W' : World} (h : SlP l v W) (hb : Below W.heap.size W W') : SlP l v W' := by
  obtain ⟨ao, c, e, h1, h2⟩ := h
  exact ⟨ao, c, e, h1.next hb, h2⟩
theorem SlP.of_own {B : Nat} {l : List Int} {v : Value} {W : World} (h : OwnI B l v W) : SlP l v W := by
  obtain ⟨ao, cap, e, h1⟩ := RowI.of_own h
  obtain ⟨ao', cap', e', h2, h3⟩ := own_shape h
  rw [e] at e'
  injection e' with q1 q2 q3
  subst q1 q3
  refine ⟨ao, cap, e, h1, h2, h3, ?_⟩
  rcases h.2 with ⟨rfl, hn⟩ | ⟨g, cap, cur, rfl, hB, hg, hle, hmx, _⟩
  · injection e with _ _ e3; omega
  · injection e with _ _ e3; unfold maxLen at hmx; omega
theorem SlP.nil (W : World) : SlP [] (.slice none 0 0) W := ⟨none, 0, rfl, fun i x hx => by simp at hx, fun _ => rfl, Nat.le_refl _, by omega⟩

set_option maxRecDepth 100000 in
set_option maxHeartbeats 2000000 in
theorem has_any (h : Hd) (ka : Option Addr) (kl kc : Nat) (i : Int) (w : World) (_hkl : kl ≤ 140737488351232) :
    Calls Try.prog 30 #[ndV h (.slice ka kl kc), .int .i64 i] w fun e w' => e = .returned (.bool (decide (0 ≤ i ∧ i < kl))) ∧ Below w.heap.size w w' := by
  obtain ⟨zk, zn, zf, zr, zt, zb⟩ := h
  unfold ndV
  simp only
  have hB0 : Below w.heap.size w (w.alloc (Obj.cells #[Value.string zk, Value.bool zn, Value.string zf, Value.int IntKind.i64 zr, Value.int IntKind.i64 zt, Value.int IntKind.i64 zb, Value.slice ka kl kc] 24)) := (Below.refl _ _).alloc (Nat.le_refl _) _
  by_cases g0 : 0 ≤ i
  · by_cases g1 : i < kl
    · go_enter Try.func30, Try.ntmps30
      go_wp2
      all_goals
        go_ret
        exact ⟨ret_bool (by simp [g0, g1]), hB0⟩
    · go_enter Try.func30, Try.ntmps30
      go_wp2
      all_goals
        go_ret
        exact ⟨ret_bool (by simp [g1]), hB0⟩
  · have g2 : i < 0 := by omega
    go_enter Try.func30, Try.ntmps30
    go_wp2
    all_goals
      go_ret
      exact ⟨ret_bool (by simp; omega), hB0⟩

shelf_lay_g Lays8.n4 Nm8 4 at Try 46 as Try.growI

theorem grow_any (n : Nat) (w : World) (hn : n ≤ 20000) :
    Calls Try.prog 46 #[.slice none 0 0, .int .i64 n] w fun e w' => (∃ v, e = .returned v ∧ OwnI w.heap.size [] v w') ∧ Below w.heap.size w w' := by
  obtain ⟨i0, hi, hz0, hz1, hz2⟩ := info_parts infoI
  by_cases h0 : n = 0
  · subst h0
    refine (Any8.slices_Grow_room Try.growI none 0 0 0 w (Nat.le_refl _) (by omega) (by omega) (Nat.le_refl _)).mono ?_
    rintro e w1 ⟨rfl, rfl⟩
    exact ⟨⟨_, rfl, World.ownsRow_nil _ _ _ _⟩, Below.refl _ _⟩
  · refine (Any8.slices_Grow_grow Try.growI i0 _ hi hz0 (by rw [hz1]; decide) none 0 0 n [] w (Nat.le_refl _) (by omega) (by rw [hz2]; omega) (by omega) (by rw [hz1]; rfl) (fun _ => rfl) (fun a h => by cases h)).mono ?_
    rintro e w1 ⟨rfl, rfl⟩
    have hsz := w.drew.heap.size
    refine ⟨⟨_, rfl, ?_⟩, (Below.refl _ _).drew.alloc (by simp) _⟩
    refine World.ownsRow_made (w := w.drew) _ _ (Nat.le_refl _) ?_ ?_
    · exact grownCap_le_maxLen w (0 + n) 0 _ (by unfold maxLen; omega)
    · simp only [Nat.zero_add, Nat.sub_zero, Builtin.zeroCells, Value.cells]
      generalize Try.growI_ren.t 25 = T
      have := grownCap_ge w n 0 T
      simp
      omega

set_option maxRecDepth 100000 in
set_option maxHeartbeats 4000000 in
theorem concat_any (l m : List Int) (lv mv : Value) (b : Nat) (w : World) (hl : SlP l lv w) (hm : SlP m mv w) (h0 : w.cell? ⟨b, 0, none⟩ = some lv) (h1 : w.cell? ⟨b, 1, none⟩ = some mv) (hll : l.length ≤ 10000) (hml : m.length ≤ 10000) :
    Calls Try.prog 41 #[.slice (some ⟨b, 0, none⟩) 2 2] w fun e w' => (∃ v, e = .returned v ∧ OwnI w.heap.size (l ++ m) v w') ∧ Below w.heap.size w w' := by
  obtain ⟨la, lc, rfl, hlr, hln, hlc⟩ := hl
  obtain ⟨ma, mc, rfl, hmr, hmn, hmc⟩ := hm
  have hb : b < w.heap.size := World.block_lt_of_cell? _ _ h0
  have HR : Hid (RowI l la w ∧ RowI m ma w ∧ (la = none → lc = 0) ∧ (ma = none → mc = 0) ∧ l.length ≤ lc ∧ m.length ≤ mc) := ⟨hlr, hmr, hln, hmn, hlc.1, hmc.1⟩
  have HC : Hid (∀ W, Below w.heap.size w W → W.cell? ⟨b, 0, none⟩ = some (.slice la l.length lc) ∧ W.cell? ⟨b, 1, none⟩ = some (.slice ma m.length mc)) := fun W hB => ⟨(hB.cell (p := ⟨b, 0, none⟩) hb).trans h0, (hB.cell (p := ⟨b, 1, none⟩) hb).trans h1⟩
  obtain ⟨i0, hi, hz0, hz1', hz2⟩ := info_parts infoI
  have hg := grow_any (l.length + m.length) w (by omega)
  have hps : ((l.length + m.length : Nat) : Int) = (l.length : Int) + (m.length : Int) := by omega
  rw [hps] at hg
  have w1 : IntKind.i64.wrap ((0 : Int) + (l.length : Int)) = l.length := by rw [IntWalk.i64_in _ (by omega)]; omega
  have w2 : IntKind.i64.wrap ((l.length : Int) + (m.length : Int)) = (l.length : Int) + (m.length : Int) := IntWalk.i64_in _ (by omega)
  clear hlr hmr hln hmn hlc hmc hps
  go_enter Try.func41, Try.ntmps41
  go_wp2_with fail
  go_loopw [3, 11] (fun s c wr => ∃ (j : Nat), c = .int .i64 j ∧ j ≤ 2 ∧ wr = w ∧ s = .int .i64 (if j = 0 then 0 else if j = 1 then (l.length : Int) else (l.length : Int) + (m.length : Int))) (fun _ c _ => 2 - (intOf c).toNat)
  case atStart => exact ⟨0, rfl, by omega, rfl, rfl⟩
  case round =>
    obtain ⟨j, rfl, hj, hwr, rfl⟩ := hrel
    obtain rfl : w = wr := hwr.symm
    clear hwr
    match j, hj with
    | 0, _ =>
      simp only [if_pos]
      have k1 : ¬ (l.length : Int) < 0 := by omega
      go_wp2_with fail
      exact ⟨⟨1, rfl, by omega, trivial, rfl⟩, by simp [intOf]⟩
    | 1, _ =>
      simp
      have k1 : ¬ (l.length : Int) + (m.length : Int) < 0 := by omega
      go_wp2_with fail
      exact ⟨⟨_, _, _, ⟨2, rfl, by omega, rfl⟩, rfl, rfl, rfl⟩, by simp [intOf]⟩
    | 2, _ =>
      simp
      go_wp2_with fail
      refine hg.mono ?_
      rintro e w3 ⟨⟨v, rfl, hv⟩, hb3⟩
      have HV : Hid (OwnI w.heap.size [] v w3) := hv
      clear hg hv h0 h1 w1 w2
      go_wp2_with fail
      go_loopw [6, 27] (fun s c wx => ∃ (j : Nat), c = .int .i64 j ∧ j ≤ 2 ∧ Below w.heap.size w wx ∧ Hid (OwnI w.heap.size (if j = 0 then [] else if j = 1 then l else l ++ m) s wx)) (fun _ c _ => 2 - (intOf c).toNat)
      case atStart => exact ⟨0, rfl, by omega, hb3, HV.out⟩
      case round =>
        obtain ⟨j, rfl, hj, hB, HO⟩ := hrel
        obtain ⟨c0, c1⟩ := HC.out wr hB
        have hbs := hB.size
        obtain ⟨r1, r2, r3, r4, r5, r6⟩ := HR.out
        have HN : Hid (RowI l la wr ∧ RowI m ma wr) := ⟨r1.next hB, r2.next hB⟩
        have news : ∀ (x : List Int) (xa : Option Addr), RowI x xa wr → ∀ ad, xa = some ad → ∀ (k : Nat) u, (x.map encI)[k]? = some u → wr.cell? (ad.add k) = some u := fun x xa hr ad ha k u hu => by
          rw [List.getElem?_map] at hu
          cases hq2 : x[k]? with
          | none => rw [hq2] at hu; cases hu
          | some y2 =>
            rw [hq2] at hu
            obtain ⟨b9, o9, e9, _, c9⟩ := hr k y2 hq2
            rw [ha] at e9
            cases e9
            rw [add_plain, c9]
            exact hu
        have HW : Hid _ := news
        have hx0 : la = none → l.length = 0 ∧ lc = 0 := fun e => ⟨by have := r3 e; omega, r3 e⟩
        have hx1 : ma = none → m.length = 0 ∧ mc = 0 := fun e => ⟨by have := r4 e; omega, r4 e⟩
        clear r1 r2 r3 r4 r5 r6 news
        match j, hj with
        | 0, _ =>
          have hown := HO.out
          simp only [if_pos] at hown
          clear HO
          go_wp2_with (at_builtin; refine wpList_append_any rfl _ _ 25 rfl w.heap.size 3 i0 _ 1 8 Try.underlying25 hi hz0 hz1' hz2 rfl (by decide) _ _ _ rfl hown la l.length lc (l.map encI) rfl hx0 (by simp) (HW.out l la HN.out.1) (fun u hu => ?_) (by unfold maxLen; (try simp only [List.length_nil, Nat.zero_add]); omega) (by (try simp only [List.length_nil, Nat.zero_add]); omega) hbs ?_)
          · obtain ⟨y2, _, rfl⟩ := List.mem_map.1 hu; rfl
          · intro v' w4 ho hg4
            have HE : Hid (Below w.heap.size w w4 ∧ OwnI w.heap.size l v' w4) := ⟨hB.grown hg4 hbs (fun k e => (World.ownsRow.lt hown k e).1), by simpa [OwnI] using ho⟩
            clear hown ho hg4 c0 c1
            go_wp2_with fail
            exact ⟨⟨1, rfl, by omega, HE.out.1, HE.out.2⟩, by simp [intOf]⟩
        | 1, _ =>
          have hown := HO.out
          simp at hown
          clear HO
          go_wp2_with (at_builtin; refine wpList_append_any rfl _ _ 25 rfl w.heap.size 3 i0 _ 1 8 Try.underlying25 hi hz0 hz1' hz2 rfl (by decide) _ _ _ rfl hown ma m.length mc (m.map encI) rfl hx1 (by simp) (HW.out m ma HN.out.2) (fun u hu => ?_) (by unfold maxLen; (try simp only [List.length_nil, Nat.zero_add]); omega) (by (try simp only [List.length_nil, Nat.zero_add]); omega) hbs ?_)
          · obtain ⟨y2, _, rfl⟩ := List.mem_map.1 hu; rfl
          · intro v' w4 ho hg4
            have HE : Hid (Below w.heap.size w w4 ∧ OwnI w.heap.size (l ++ m) v' w4) := ⟨hB.grown hg4 hbs (fun k e => (World.ownsRow.lt hown k e).1), by simpa [OwnI] using ho⟩
            clear hown ho hg4 c0 c1
            go_wp2_with fail
            exact ⟨⟨2, rfl, by omega, HE.out.1, HE.out.2⟩, by simp [intOf]⟩
        | 2, _ =>
          have hown := HO.out
          simp at hown
          have HE : Hid _ := hown
          clear HO hown
          go_wp2_with fail
          go_ret
          exact ⟨⟨_, rfl, HE.out⟩, hB⟩

set_option maxRecDepth 100000 in
set_option maxHeartbeats 2000000 in
theorem told_any (l m : List Int) (lv mv : Value) (w : World) (hl : SlP l lv w) (hm : SlP m mv w) (hll : l.length ≤ 10000) (hml : m.length ≤ 10000) :
    Calls Try.prog 31 #[lv, mv] w fun e w' => (∃ v, e = .returned v ∧ OwnI w.heap.size (l ++ m) v w') ∧ Below w.heap.size w w' := by
  have hB0 : Below w.heap.size w (w.alloc (Obj.cells #[lv, mv] 25)) := (Below.refl _ _).alloc (Nat.le_refl _) _
  have hc := concat_any l m lv mv w.heap.size (w.alloc (Obj.cells #[lv, mv] 25)) (hl.next hB0) (hm.next hB0) (by simp) (by simp) hll hml
  have HS : Hid (w.heap.size ≤ (w.alloc (Obj.cells #[lv, mv] 25)).heap.size) := hB0.size
  have HB : Hid _ := hB0
  clear hB0
  obtain ⟨la, lc, rfl, _, _, _⟩ := hl
  obtain ⟨ma, mc, rfl, _, _, _⟩ := hm
  go_enter Try.func31, Try.ntmps31
  go_wp2_with fail
  refine hc.mono ?_
  rintro e w3 ⟨⟨v, rfl, hv⟩, hb3⟩
  have HE : Hid (OwnI w.heap.size (l ++ m) v w3 ∧ Below w.heap.size w w3) := ⟨own_base hv HS.out, HB.out.trans (hb3.mono HS.out)⟩
  clear hc hv hb3
  go_wp2_with fail
  go_ret
  exact ⟨⟨_, rfl, HE.out.1⟩, HE.out.2⟩
end Go.Proofs.Ytmkkjjhlppagpaa
