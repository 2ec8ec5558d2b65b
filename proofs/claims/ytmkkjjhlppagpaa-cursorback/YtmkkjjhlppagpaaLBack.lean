/- CursorBack: the law, for every tree and path. -/
import Derived.Test.YtmkkjjhlppagpaaLInts2
import Derived.Test.YtmkkjjhlppagpaaRGo
namespace Go.Proofs.Ytmkkjjhlppagpaa
open Go.RowKit

theorem own_cells {B : Nat} {l : List Int} {v : Value} {W : World} (h : OwnI B l v W) (hl : l ≠ []) : ∃ g cap, v = .slice (some ⟨g, 0, none⟩) l.length cap ∧ B ≤ g ∧ g < W.heap.size ∧ (∀ i, i < l.length → ∃ x, W.cell? ⟨g, i, none⟩ = some x) ∧ (∀ o, W.frozen? ⟨g, o, none⟩ = false) ∧ ∃ cur, W.heap[g]? = some (.cells cur 3 (0, 0)) := by
  rcases h.2 with ⟨rfl, hn⟩ | ⟨g, cap, cur, rfl, hB, hg, hle, hmx, hcs, htk⟩
  · exact absurd (List.eq_nil_of_length_eq_zero hn) hl
  · refine ⟨g, cap, rfl, hB, (Array.getElem?_eq_some_iff.1 hg).1, fun i hi => ?_, fun o => by simp [World.frozen?, hg], cur, hg⟩
    have hi' : i < cur.size := by omega
    exact ⟨cur[i], by simp [World.cell?, hg, hi']⟩
theorem down_back {t : Nd} {p q : List Int} (h : downN t p = some q) : q = p ++ [0] ∧ upN t q = some p := by
  unfold downN at h
  cases hx : findN t p with
  | none => rw [hx] at h; cases h
  | some x =>
    rw [hx] at h
    simp only at h
    split at h
    · rename_i h0
      obtain rfl := Option.some.inj h
      refine ⟨rfl, ?_⟩
      have h1 : (findN t (p ++ [0])).isSome = true := by rw [findN_snoc_some, hx]; exact h0
      unfold upN
      rw [if_pos ⟨h1, by simp⟩, List.dropLast_concat]
    · cases h
theorem down_len {t : Nd} {p q : List Int} (h : downN t p = some q) : q.length ≤ cntN t + 1 := by
  have h0 := down_back h
  unfold downN at h
  cases hx : findN t p with
  | none => rw [hx] at h; cases h
  | some x =>
    have := findN_len p t x hx
    rw [h0.1]
    simp
    omega
theorem right_back {t : Nd} {p q : List Int} (h : asideN t p 1 = some q) : q ≠ [] ∧ asideN t q (-1) = some p := by
  by_cases h0 : p = []
  · subst h0; cases h
  · obtain ⟨r, i, rfl⟩ := snoc_of p h0
    rw [asideN_snoc] at h
    cases hx : findN t r with
    | none => rw [hx] at h; cases h
    | some x =>
      rw [hx] at h
      simp only at h
      split at h
      · rename_i hc
        obtain rfl := Option.some.inj h
        refine ⟨by simp, ?_⟩
        rw [asideN_snoc, hx]
        simp only
        rw [show i + 1 + -1 = i by omega, if_pos ⟨hc.2, hc.1⟩]
      · cases h
theorem asideN_len {t : Nd} {p q : List Int} {d : Int} (h : asideN t p d = some q) : q.length = p.length ∧ q.length ≤ cntN t := by
  by_cases h0 : p = []
  · subst h0; cases h
  · obtain ⟨r, i, rfl⟩ := snoc_of p h0
    rw [asideN_snoc] at h
    cases hx : findN t r with
    | none => rw [hx] at h; cases h
    | some x =>
      rw [hx] at h
      simp only at h
      split at h
      · rename_i hc
        obtain rfl := Option.some.inj h
        have := findN_len r t x hx
        have := (hasI_iff.1 hc.1).2
        have := cntL_len x.kids
        have := cntN_mk x
        simp
        omega
      · cases h

set_option maxRecDepth 100000 in
set_option maxHeartbeats 8000000 in
theorem lback_any {A : Nat → Prop} (n : Nat) (t : Nd) (v : Value) (p : List Int) (pv : Value) (w : World) (h : TAt A n t v w) (hp : SlP p pv w) (hp8 : p.length * 8 ≤ 140737488351232) :
    Calls Try.prog 6 #[v, pv] w fun e w' => e = .returned (.bool true) ∧ Below w.heap.size w w' := by
  have hpl : p.length ≤ 140737488351232 := by omega
  obtain ⟨ba, bc, rfl, _⟩ := h.val
  obtain ⟨W0, hW0⟩ : ∃ W0, W0 = w.alloc (Obj.cells #[.string t.h.kind, .bool t.h.named, .string t.h.field, .int .i64 t.h.frm, .int .i64 t.h.to, .int .i64 t.h.bad, .slice ba t.kids.length bc] 24) := ⟨_, rfl⟩
  have hB0 : Below w.heap.size w W0 := by rw [hW0]; exact (Below.refl _ _).alloc (Nat.le_refl _) _
  have hb0 : W0.heap[w.heap.size]? = some (.cells #[.string t.h.kind, .bool t.h.named, .string t.h.field, .int .i64 t.h.frm, .int .i64 t.h.to, .int .i64 t.h.bad, .slice ba t.kids.length bc] 24 (0, 0)) := by rw [hW0]; exact World.alloc_heap_new w _
  have hsz : w.heap.size < W0.heap.size := by rw [hW0]; simp
  have HB : Hid (Below w.heap.size w W0) := hB0
  have HT : Hid (∀ W, Below W0.heap.size W0 W → TAt A n t (ndV t.h (.slice ba t.kids.length bc)) W) := fun W hW => (h.next hB0).next hW
  have HR : Hid (∀ W, Below W0.heap.size W0 W → W.heap[w.heap.size]? = some (.cells #[.string t.h.kind, .bool t.h.named, .string t.h.field, .int .i64 t.h.frm, .int .i64 t.h.to, .int .i64 t.h.bad, .slice ba t.kids.length bc] 24 (0, 0))) := fun W hW => (hW.block _ hsz).trans hb0
  have hsm := small_any n t _ 800 W0 (h.next hB0) (by decide) (by decide)
  by_cases hc : cntN t ≤ 800
  case neg =>
    have hv : smallV (cntN t) 800 = -1 := by unfold smallV; rw [if_neg (by omega)]
    rw [hv] at hsm
    have HA : Hid (∀ W, _) := awake_any
    obtain ⟨pa, pc, rfl, _⟩ := hp
    clear h hB0 hb0 hsz HT HR
    rw [hW0] at hsm
    unfold ndV at *
    go_enter Try.func6, Try.ntmps6
    go_wp2_with fail
    refine hsm.mono ?_
    rw [← hW0]
    rintro e w1 ⟨rfl, hb1⟩
    have hA := HA.out w1
    have HB1 : Hid (Below w.heap.size w w1) := below_next HB.out hb1
    clear hsm hW0 hb1
    go_wp2_with fail
    refine hA.mono ?_
    rintro e w2 ⟨rfl, hb2⟩
    have HB2 : Hid (Below w.heap.size w w2) := below_next HB1.out hb2
    clear hA hb2 HB1
    go_wp2_with fail
    go_ret
    exact ⟨rfl, HB2.out⟩
  have hv : smallV (cntN t) 800 = 800 - (cntN t : Int) := by unfold smallV; rw [if_pos (by omega)]
  rw [hv] at hsm
  obtain ⟨lf, hlf⟩ : ∃ lf : Int, 800 - (cntN t : Int) = lf := ⟨_, rfl⟩
  have hlf0 : ¬ lf < 0 := by omega
  rw [hlf] at hsm
  have hc5 : cntN t ≤ 5000 := by omega
  have HP : Hid (∀ W, Below W0.heap.size W0 W → SlP p pv W) := fun W hW => (hp.next hB0).next hW
  have Hfd : Hid (∀ W, Below W0.heap.size W0 W → Calls Try.prog 10 #[ndV t.h (.slice ba t.kids.length bc), pv] W fun e w' => GivesP W.heap.size (downN t p) e w' ∧ Below W.heap.size W w') := fun W hW => down_any n t _ p pv W (HT.out W hW) hc5 (HP.out W hW) hpl
  have Hfr : Hid (∀ W, Below W0.heap.size W0 W → Calls Try.prog 15 #[ndV t.h (.slice ba t.kids.length bc), pv] W fun e w' => GivesP W.heap.size (asideN t p 1) e w' ∧ Below W.heap.size W w') := fun W hW => right_any n t _ p pv W (HT.out W hW) hc5 (HP.out W hW) hpl
  have Hbd : Hid (∀ q qv W, downN t p = some q → Below W0.heap.size W0 W → SlP q qv W → Calls Try.prog 13 #[ndV t.h (.slice ba t.kids.length bc), qv] W fun e w' => GivesP W.heap.size (upN t q) e w' ∧ Below W.heap.size W w') := fun q qv W hq hW hs => up_any n t _ q qv W (HT.out W hW) hc5 hs (by have := down_len hq; omega)
  have Hbr : Hid (∀ q qv W, asideN t p 1 = some q → Below W0.heap.size W0 W → SlP q qv W → Calls Try.prog 17 #[ndV t.h (.slice ba t.kids.length bc), qv] W fun e w' => GivesP W.heap.size (asideN t q (-1)) e w' ∧ Below W.heap.size W w') := fun q qv W hq hW hs => left_any n t _ q qv W (HT.out W hW) hc5 hs (by have := asideN_len hq; omega)
  have HQd : Hid (∀ q, downN t p = some q → q ≠ [] ∧ upN t q = some p) := fun q hq => ⟨by rw [(down_back hq).1]; simp, (down_back hq).2⟩
  have HQr : Hid (∀ q, asideN t p 1 = some q → q ≠ [] ∧ asideN t q (-1) = some p) := fun q hq => right_back hq
  have HQL : Hid (∀ q, downN t p = some q → q.length ≤ 6000) := fun q hq => by have := down_len hq; omega
  have HA : Hid (∀ W, _) := awake_any
  have hps := hp.next hB0
  obtain ⟨pa, pc, rfl, hrow, hpn, hpc⟩ := hp
  obtain ⟨i0, hi, hz0, hz1', hz2⟩ := info_parts infoI
  have HU : Hid (∀ u ∈ p.map encI, u.oneCell' = true) := fun u hu => by obtain ⟨y2, _, rfl⟩ := List.mem_map.1 hu; rfl
  have hc1 : pa = none → p.length = 0 ∧ pc = 0 := fun e => ⟨by have := hpn e; omega, hpn e⟩
  have hn1 : (p.map encI).length = p.length * 1 := by simp
  have HNW : Hid (∀ W, Below W0.heap.size W0 W → ∀ ad, pa = some ad → ∀ (k : Nat) u, (p.map encI)[k]? = some u → W.cell? (ad.add k) = some u) := fun W hW => news_of ((hrow.next hB0).next hW)
  clear h hB0 hb0 hsz HT hc hc5 hlf hv hps hrow hpn
  generalize t.h = hd at *
  generalize t.kids.length = kl at *
  obtain ⟨zk, zn, zf, zr, zt, zb⟩ := hd
  rw [hW0] at hsm
  unfold ndV at *
  simp only at *
  go_enter Try.func6, Try.ntmps6
  go_wp2_with fail
  refine hsm.mono ?_
  rw [← hW0]
  rintro e w1 ⟨rfl, hb1⟩
  clear hsm hW0
  have HW1 : Hid (Below W0.heap.size W0 w1) := hb1
  have hB2 : Below w1.heap.size w1 (w1.alloc (Obj.cells #[] 3)) := (Below.refl _ _).alloc (Nat.le_refl _) _
  have hmade : (w1.alloc (Obj.cells #[] 3)).ownsRow w1.heap.size 3 1 (.slice (some ⟨w1.heap.size, 0, none⟩) 0 0) 0 [] := World.ownsRow_made w1 #[] 0 (Nat.le_refl _) (by unfold maxLen; omega) rfl
  have hnw := HNW.out _ (below_next hb1 hB2)
  have HB2 : Hid (Below W0.heap.size W0 (w1.alloc (Obj.cells #[] 3)) ∧ Below w1.heap.size w1 (w1.alloc (Obj.cells #[] 3))) := ⟨below_next hb1 hB2, hB2⟩
  have hbs : w1.heap.size ≤ (w1.alloc (Obj.cells #[] 3)).heap.size := hB2.size
  clear hb1 hB2 HNW
  go_wp2_with (at_builtin; refine wpList_append_any rfl _ _ 25 rfl w1.heap.size 3 i0 _ 1 8 Try.underlying25 hi hz0 hz1' hz2 rfl (by decide) _ _ _ rfl hmade pa p.length pc (p.map encI) rfl hc1 hn1 hnw HU.out (by unfold maxLen; omega) (by omega) hbs ?_)
  intro ov w2 ho hg
  have how : OwnI w1.heap.size p ov w2 := by simpa [OwnI] using ho
  have HW : Hid (Below W0.heap.size W0 w2) := HW1.out.trans ((HB2.out.2.grown hg hbs (fun k e => (World.ownsRow.lt hmade k e).1)).mono HW1.out.size)
  have HWA : Hid (SlP p ov w2 ∧ ∀ k, ov.ownBlock = some k → k < w2.heap.size) := ⟨SlP.of_own how, fun k hk => (World.ownsRow.lt how k hk).2⟩
  clear ho hg how hmade hnw HB2 HW1 hbs HU hc1 hn1
  obtain ⟨v0, v1, v2, v3, v4, v5, v6⟩ := cells7_at (HR.out w2 HW.out)
  have hx := Hfd.out w2 HW.out
  go_wp2_with fail
  refine hx.mono ?_
  rintro e wad ⟨⟨xv, rfl, hxo⟩, hb⟩
  have HWa : Hid (Below W0.heap.size W0 wad) := below_next HW.out hb
  have HS1 : Hid (w2.heap.size ≤ wad.heap.size) := hb.size
  have HWS : Hid (SlP p ov wad ∧ ∀ k, ov.ownBlock = some k → k < w2.heap.size) := ⟨HWA.out.1.next hb, HWA.out.2⟩
  clear hx hb v0 v1 v2 v3 v4 v5 v6
  cases hd : downN t p with
  | none =>
    simp only [Option.isSome_none]
    clear hxo
    have HW : Hid (Below W0.heap.size W0 wad) := HWa.out
    have HWA : Hid (SlP p ov wad ∧ ∀ k, ov.ownBlock = some k → k < wad.heap.size) := ⟨HWS.out.1, fun k hk => by have := HWS.out.2 k hk; have := HS1.out; omega⟩
    clear HWa HWS HS1
    obtain ⟨v0, v1, v2, v3, v4, v5, v6⟩ := cells7_at (HR.out wad HW.out)
    have hx := Hfr.out wad HW.out
    go_wp2_with fail
    refine hx.mono ?_
    rintro e war ⟨⟨xv, rfl, hxo⟩, hb⟩
    have HWa : Hid (Below W0.heap.size W0 war) := below_next HW.out hb
    have HS1 : Hid (wad.heap.size ≤ war.heap.size) := hb.size
    have HWS : Hid (SlP p ov war ∧ ∀ k, ov.ownBlock = some k → k < wad.heap.size) := ⟨HWA.out.1.next hb, HWA.out.2⟩
    clear hx hb v0 v1 v2 v3 v4 v5 v6
    cases hr : asideN t p 1 with
    | none =>
      simp only [Option.isSome_none]
      clear hxo
      have HW : Hid (Below W0.heap.size W0 war) := HWa.out
      have HWA : Hid (SlP p ov war ∧ ∀ k, ov.ownBlock = some k → k < war.heap.size) := ⟨HWS.out.1, fun k hk => by have := HWS.out.2 k hk; have := HS1.out; omega⟩
      clear HWa HWS HS1
      have hin := ints_is p p _ _ war (HP.out war HW.out) HWA.out.1
      rw [decide_eq_true rfl] at hin
      go_wp2_with fail
      refine hin.mono ?_
      rintro e w8 ⟨rfl, hb⟩
      have HW8 : Hid (Below W0.heap.size W0 w8) := below_next HW.out hb
      clear hin hb
      have hA := HA.out w8
      go_wp2_with fail
      refine hA.mono ?_
      rintro e w9 ⟨rfl, hb⟩
      have HW9 : Hid (Below w.heap.size w w9) := HB.out.trans ((below_next HW8.out hb).mono HB.out.size)
      clear hA hb
      go_wp2_with fail
      go_ret
      exact ⟨rfl, HW9.out⟩
    | some qq =>
      rw [hr] at hxo
      simp only [Option.isSome_some, Option.getD_some] at hxo ⊢
      obtain ⟨hq0, hqb⟩ := HQr.out qq hr
      obtain ⟨g, cap, rfl, hgB, hgl, hcel, hfz, hgi⟩ := own_cells hxo hq0
      have HG : Hid (wad.heap.size ≤ g) := hgB
      have hup := Hbr.out qq _ war hr HWa.out (SlP.of_own hxo)
      rw [hqb] at hup
      obtain ⟨v0, v1, v2, v3, v4, v5, v6⟩ := cells7_at (HR.out war HWa.out)
      have HGI : Hid (∀ W, Below war.heap.size war W → (∀ i, i < qq.length → ∃ x, W.cell? ⟨g, i, none⟩ = some x) ∧ (∀ o, W.frozen? ⟨g, o, none⟩ = false) ∧ ∃ cur, W.heap[g]? = some (.cells cur 3 (0, 0))) := fun W hW => by
        obtain ⟨cur, hc⟩ := hgi
        have hc2 := (hW.block g hgl).trans hc
        exact ⟨fun i hi => by obtain ⟨x, hx⟩ := hcel i hi; exact ⟨x, (hW.cell (p := ⟨g, i, none⟩) hgl).trans hx⟩, fun o => by simp [World.frozen?, hc2], cur, hc2⟩
      clear hxo hcel hfz hgi
      go_wp2_with fail
      refine hup.mono ?_
      rintro e wbr ⟨⟨uv, rfl, huo⟩, hb⟩
      have HWb : Hid (Below W0.heap.size W0 wbr ∧ Below war.heap.size war wbr) := ⟨below_next HWa.out hb, hb⟩
      have hin := ints_is p p uv _ wbr (SlP.of_own huo) (HP.out wbr (below_next HWa.out hb))
      rw [decide_eq_true rfl] at hin
      clear hup huo hb v0 v1 v2 v3 v4 v5 v6
      simp only [Option.isSome_some]
      go_wp2_with fail
      refine hin.mono ?_
      rintro e wcr ⟨rfl, hb⟩
      have HWc : Hid (Below W0.heap.size W0 wcr ∧ Below war.heap.size war wcr) := ⟨below_next HWb.out.1 hb, below_next HWb.out.2 hb⟩
      clear hin hb
      obtain ⟨hcel, hfz, _⟩ := HGI.out wcr HWc.out.2
      have hq1 : 0 < qq.length := List.length_pos_iff.2 hq0
      obtain ⟨x7, hx7⟩ := hcel 0 hq1
      generalize qq.length = ql1 at *
      have k2 : (0 : Int) < (ql1 : Int) := by omega
      have ff := hfz 0
      clear hcel hfz
      have HEND : Hid (Below W0.heap.size W0 (wcr.setCell ⟨g, 0, none⟩ (.int .i64 77)) ∧ SlP p ov (wcr.setCell ⟨g, 0, none⟩ (.int .i64 77)) ∧ ∀ k, ov.ownBlock = some k → k < (wcr.setCell ⟨g, 0, none⟩ (.int .i64 77)).heap.size) := by
        have hbt : But (fun k => k = g) wcr (wcr.setCell ⟨g, 0, none⟩ (.int .i64 77)) := (But.refl _ _).setCell g 0 _ rfl
        have h1 := HW.out.size
        have h2 := HWc.out.1.size
        have h3 := HWc.out.2.size
        have h4 := HS1.out
        have hgB := HG.out
        refine ⟨HWc.out.1.trans (hbt.below h2 (fun k _ e => by omega)), (HWS.out.1.next HWc.out.2).but hbt (fun k hk e => by have := HWS.out.2 k hk; omega), fun k hk => ?_⟩
        have := HWS.out.2 k hk
        simp
        omega
      clear HWa HWS HWb HGI HG HS1
      obtain ⟨v0, v1, v2, v3, v4, v5, v6⟩ := cells7_at (HR.out _ HEND.out.1)
      go_wp2_with fail
      clear v0 v1 v2 v3 v4 v5 v6
      generalize wcr.setCell ⟨g, 0, none⟩ (.int .i64 77) = wdr at *
      have HW : Hid (Below W0.heap.size W0 wdr) := HEND.out.1
      have HWA : Hid (SlP p ov wdr ∧ ∀ k, ov.ownBlock = some k → k < wdr.heap.size) := ⟨HEND.out.2.1, HEND.out.2.2⟩
      clear HEND HWc
      have hin := ints_is p p _ _ wdr (HP.out wdr HW.out) HWA.out.1
      rw [decide_eq_true rfl] at hin
      go_wp2_with fail
      refine hin.mono ?_
      rintro e w8 ⟨rfl, hb⟩
      have HW8 : Hid (Below W0.heap.size W0 w8) := below_next HW.out hb
      clear hin hb
      have hA := HA.out w8
      go_wp2_with fail
      refine hA.mono ?_
      rintro e w9 ⟨rfl, hb⟩
      have HW9 : Hid (Below w.heap.size w w9) := HB.out.trans ((below_next HW8.out hb).mono HB.out.size)
      clear hA hb
      go_wp2_with fail
      go_ret
      exact ⟨rfl, HW9.out⟩
  | some qq =>
    rw [hd] at hxo
    simp only [Option.isSome_some, Option.getD_some] at hxo ⊢
    obtain ⟨hq0, hqb⟩ := HQd.out qq hd
    obtain ⟨g, cap, rfl, hgB, hgl, hcel, hfz, hgi⟩ := own_cells hxo hq0
    have HG : Hid (w2.heap.size ≤ g) := hgB
    have hup := Hbd.out qq _ wad hd HWa.out (SlP.of_own hxo)
    rw [hqb] at hup
    obtain ⟨v0, v1, v2, v3, v4, v5, v6⟩ := cells7_at (HR.out wad HWa.out)
    have HGI : Hid (∀ W, Below wad.heap.size wad W → (∀ i, i < qq.length → ∃ x, W.cell? ⟨g, i, none⟩ = some x) ∧ (∀ o, W.frozen? ⟨g, o, none⟩ = false) ∧ ∃ cur, W.heap[g]? = some (.cells cur 3 (0, 0))) := fun W hW => by
      obtain ⟨cur, hc⟩ := hgi
      have hc2 := (hW.block g hgl).trans hc
      exact ⟨fun i hi => by obtain ⟨x, hx⟩ := hcel i hi; exact ⟨x, (hW.cell (p := ⟨g, i, none⟩) hgl).trans hx⟩, fun o => by simp [World.frozen?, hc2], cur, hc2⟩
    clear hxo hcel hfz hgi
    go_wp2_with fail
    refine hup.mono ?_
    rintro e wbd ⟨⟨uv, rfl, huo⟩, hb⟩
    have HWb : Hid (Below W0.heap.size W0 wbd ∧ Below wad.heap.size wad wbd) := ⟨below_next HWa.out hb, hb⟩
    have hin := ints_is p p uv _ wbd (SlP.of_own huo) (HP.out wbd (below_next HWa.out hb))
    rw [decide_eq_true rfl] at hin
    clear hup huo hb v0 v1 v2 v3 v4 v5 v6
    simp only [Option.isSome_some]
    go_wp2_with fail
    refine hin.mono ?_
    rintro e wcd ⟨rfl, hb⟩
    have HWc : Hid (Below W0.heap.size W0 wcd ∧ Below wad.heap.size wad wcd) := ⟨below_next HWb.out.1 hb, below_next HWb.out.2 hb⟩
    clear hin hb
    obtain ⟨hcel, hfz, _⟩ := HGI.out wcd HWc.out.2
    have hq1 : 0 < qq.length := List.length_pos_iff.2 hq0
    obtain ⟨ql, hql⟩ : ∃ ql, qq.length = ql + 1 := ⟨qq.length - 1, by omega⟩
    obtain ⟨x7, hx7⟩ := hcel ql (by omega)
    have hqb5 := HQL.out qq hd
    generalize qq.length = ql1 at *
    have k1 : IntKind.i64.wrap ((ql1 : Int) - 1) = (ql : Int) := by rw [IntWalk.i64_in _ (by omega)]; omega
    have k2 : (ql : Int) < (ql1 : Int) := by omega
    have HQ1 : Hid (ql1 = ql + 1) := hql
    clear hql
    have ff := hfz ql
    clear hcel hfz
    have HEND : Hid (Below W0.heap.size W0 (wcd.setCell ⟨g, ql, none⟩ (.int .i64 77)) ∧ SlP p ov (wcd.setCell ⟨g, ql, none⟩ (.int .i64 77)) ∧ ∀ k, ov.ownBlock = some k → k < (wcd.setCell ⟨g, ql, none⟩ (.int .i64 77)).heap.size) := by
      have hbt : But (fun k => k = g) wcd (wcd.setCell ⟨g, ql, none⟩ (.int .i64 77)) := (But.refl _ _).setCell g ql _ rfl
      have h1 := HW.out.size
      have h2 := HWc.out.1.size
      have h3 := HWc.out.2.size
      have h4 := HS1.out
      have hgB := HG.out
      refine ⟨HWc.out.1.trans (hbt.below h2 (fun k _ e => by omega)), (HWS.out.1.next HWc.out.2).but hbt (fun k hk e => by have := HWS.out.2 k hk; omega), fun k hk => ?_⟩
      have := HWS.out.2 k hk
      simp
      omega
    clear HWa HWS HWb HGI HG HS1
    obtain ⟨v0, v1, v2, v3, v4, v5, v6⟩ := cells7_at (HR.out _ HEND.out.1)
    go_wp2_with fail
    clear v0 v1 v2 v3 v4 v5 v6
    generalize wcd.setCell ⟨g, ql, none⟩ (.int .i64 77) = wdd at *
    have HW : Hid (Below W0.heap.size W0 wdd) := HEND.out.1
    have HWA : Hid (SlP p ov wdd ∧ ∀ k, ov.ownBlock = some k → k < wdd.heap.size) := ⟨HEND.out.2.1, HEND.out.2.2⟩
    clear HEND HWc
    obtain ⟨v0, v1, v2, v3, v4, v5, v6⟩ := cells7_at (HR.out wdd HW.out)
    have hx := Hfr.out wdd HW.out
    go_wp2_with fail
    refine hx.mono ?_
    rintro e war ⟨⟨xv, rfl, hxo⟩, hb⟩
    have HWa : Hid (Below W0.heap.size W0 war) := below_next HW.out hb
    have HS1 : Hid (wdd.heap.size ≤ war.heap.size) := hb.size
    have HWS : Hid (SlP p ov war ∧ ∀ k, ov.ownBlock = some k → k < wdd.heap.size) := ⟨HWA.out.1.next hb, HWA.out.2⟩
    clear hx hb v0 v1 v2 v3 v4 v5 v6
    cases hr : asideN t p 1 with
    | none =>
      simp only [Option.isSome_none]
      clear hxo
      have HW : Hid (Below W0.heap.size W0 war) := HWa.out
      have HWA : Hid (SlP p ov war ∧ ∀ k, ov.ownBlock = some k → k < war.heap.size) := ⟨HWS.out.1, fun k hk => by have := HWS.out.2 k hk; have := HS1.out; omega⟩
      clear HWa HWS HS1
      have hin := ints_is p p _ _ war (HP.out war HW.out) HWA.out.1
      rw [decide_eq_true rfl] at hin
      go_wp2_with fail
      refine hin.mono ?_
      rintro e w8 ⟨rfl, hb⟩
      have HW8 : Hid (Below W0.heap.size W0 w8) := below_next HW.out hb
      clear hin hb
      have hA := HA.out w8
      go_wp2_with fail
      refine hA.mono ?_
      rintro e w9 ⟨rfl, hb⟩
      have HW9 : Hid (Below w.heap.size w w9) := HB.out.trans ((below_next HW8.out hb).mono HB.out.size)
      clear hA hb
      go_wp2_with fail
      go_ret
      exact ⟨rfl, HW9.out⟩
    | some qq =>
      rw [hr] at hxo
      simp only [Option.isSome_some, Option.getD_some] at hxo ⊢
      obtain ⟨hq0, hqb⟩ := HQr.out qq hr
      obtain ⟨g, cap, rfl, hgB, hgl, hcel, hfz, hgi⟩ := own_cells hxo hq0
      have HG : Hid (wdd.heap.size ≤ g) := hgB
      have hup := Hbr.out qq _ war hr HWa.out (SlP.of_own hxo)
      rw [hqb] at hup
      obtain ⟨v0, v1, v2, v3, v4, v5, v6⟩ := cells7_at (HR.out war HWa.out)
      have HGI : Hid (∀ W, Below war.heap.size war W → (∀ i, i < qq.length → ∃ x, W.cell? ⟨g, i, none⟩ = some x) ∧ (∀ o, W.frozen? ⟨g, o, none⟩ = false) ∧ ∃ cur, W.heap[g]? = some (.cells cur 3 (0, 0))) := fun W hW => by
        obtain ⟨cur, hc⟩ := hgi
        have hc2 := (hW.block g hgl).trans hc
        exact ⟨fun i hi => by obtain ⟨x, hx⟩ := hcel i hi; exact ⟨x, (hW.cell (p := ⟨g, i, none⟩) hgl).trans hx⟩, fun o => by simp [World.frozen?, hc2], cur, hc2⟩
      clear hxo hcel hfz hgi
      go_wp2_with fail
      refine hup.mono ?_
      rintro e wbr ⟨⟨uv, rfl, huo⟩, hb⟩
      have HWb : Hid (Below W0.heap.size W0 wbr ∧ Below war.heap.size war wbr) := ⟨below_next HWa.out hb, hb⟩
      have hin := ints_is p p uv _ wbr (SlP.of_own huo) (HP.out wbr (below_next HWa.out hb))
      rw [decide_eq_true rfl] at hin
      clear hup huo hb v0 v1 v2 v3 v4 v5 v6
      simp only [Option.isSome_some]
      go_wp2_with fail
      refine hin.mono ?_
      rintro e wcr ⟨rfl, hb⟩
      have HWc : Hid (Below W0.heap.size W0 wcr ∧ Below war.heap.size war wcr) := ⟨below_next HWb.out.1 hb, below_next HWb.out.2 hb⟩
      clear hin hb
      obtain ⟨hcel, hfz, _⟩ := HGI.out wcr HWc.out.2
      have hq1 : 0 < qq.length := List.length_pos_iff.2 hq0
      obtain ⟨x7, hx7⟩ := hcel 0 hq1
      generalize qq.length = ql1 at *
      have k2 : (0 : Int) < (ql1 : Int) := by omega
      have ff := hfz 0
      clear hcel hfz
      have HEND : Hid (Below W0.heap.size W0 (wcr.setCell ⟨g, 0, none⟩ (.int .i64 77)) ∧ SlP p ov (wcr.setCell ⟨g, 0, none⟩ (.int .i64 77)) ∧ ∀ k, ov.ownBlock = some k → k < (wcr.setCell ⟨g, 0, none⟩ (.int .i64 77)).heap.size) := by
        have hbt : But (fun k => k = g) wcr (wcr.setCell ⟨g, 0, none⟩ (.int .i64 77)) := (But.refl _ _).setCell g 0 _ rfl
        have h1 := HW.out.size
        have h2 := HWc.out.1.size
        have h3 := HWc.out.2.size
        have h4 := HS1.out
        have hgB := HG.out
        refine ⟨HWc.out.1.trans (hbt.below h2 (fun k _ e => by omega)), (HWS.out.1.next HWc.out.2).but hbt (fun k hk e => by have := HWS.out.2 k hk; omega), fun k hk => ?_⟩
        have := HWS.out.2 k hk
        simp
        omega
      clear HWa HWS HWb HGI HG HS1
      obtain ⟨v0, v1, v2, v3, v4, v5, v6⟩ := cells7_at (HR.out _ HEND.out.1)
      go_wp2_with fail
      clear v0 v1 v2 v3 v4 v5 v6
      generalize wcr.setCell ⟨g, 0, none⟩ (.int .i64 77) = wdr at *
      have HW : Hid (Below W0.heap.size W0 wdr) := HEND.out.1
      have HWA : Hid (SlP p ov wdr ∧ ∀ k, ov.ownBlock = some k → k < wdr.heap.size) := ⟨HEND.out.2.1, HEND.out.2.2⟩
      clear HEND HWc
      have hin := ints_is p p _ _ wdr (HP.out wdr HW.out) HWA.out.1
      rw [decide_eq_true rfl] at hin
      go_wp2_with fail
      refine hin.mono ?_
      rintro e w8 ⟨rfl, hb⟩
      have HW8 : Hid (Below W0.heap.size W0 w8) := below_next HW.out hb
      clear hin hb
      have hA := HA.out w8
      go_wp2_with fail
      refine hA.mono ?_
      rintro e w9 ⟨rfl, hb⟩
      have HW9 : Hid (Below w.heap.size w w9) := HB.out.trans ((below_next HW8.out hb).mono HB.out.size)
      clear hA hb
      go_wp2_with fail
      go_ret
      exact ⟨rfl, HW9.out⟩
end Go.Proofs.Ytmkkjjhlppagpaa
