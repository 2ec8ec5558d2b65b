/- Classes of states: rounds. -/
import Derived.Test.YtdalomibilicfaaRoundMath
import Derived.Test.YtdalomibilicfaaRangeV
import Derived.Sort.LoopGhostIn
namespace Go.Proofs.Ytdalomibilicfaa
open Go.RowKit Go.Shelf
attribute [local go_sem] Oper.semAt_some

def encH (h : Hy) : Array Value := #[lastV h]
def okH (A : Nat → Prop) (h : Hy) (W : World) : Prop := ∀ y ∈ h, SlI y.2 y.1 W ∧ ∀ ad n c, y.1 = .slice (some ad) n c → A ad.block
/-- What is read only. -/
def FxR (w : World) (v : Value) (Bl : Nat) (V : World) : Prop := Below w.heap.size w V ∧ V.heap[Bl]? = some (Obj.cells #[v] 22)
def allH (l : List Ds) (hs : List Hy) (W : World) : Prop := ∃ H, hs = initsH H ∧ ChH l H ∧ H ≠ [] ∧ Cls l H.length (lastC H) ∧ ∀ y ∈ H, SlI y.2 y.1 W
def pfH (l : List Ds) (hs : List Hy) : Prop := ∃ H, hs = initsH H ∧ ChH l H ∧ H.length ≤ cntP (meetL [(-1 : Int)] (l.map Ds.acc)) + 1
theorem SlI.block {l : List Int} {v : Value} {W W' : World} (h : SlI l v W) {D : Nat → Prop} (hb : But D W W') (hd : ∀ ad n c, v = .slice (some ad) n c → ¬ D ad.block) : SlI l v W' := by
  obtain ⟨ao, cap, h0, h1, h2⟩ := h
  refine ⟨ao, cap, h0, fun i x hi => ?_, h2⟩
  obtain ⟨b, off, e, hb1, hc⟩ := h1 i x hi
  exact ⟨b, off, e, Nat.lt_of_lt_of_le hb1 hb.size, (hb.cell (p := ⟨b, off + i, none⟩) hb1 (hd ⟨b, off, none⟩ _ _ (by rw [h0, e]))).trans hc⟩
theorem SlI.loop {l : List Int} {v : Value} {W W' : World} (h : SlI l v W) {k : Nat} {r : Loop} (hk : W.heap[k]? = some (.loop r)) (hb : But (fun j => j = k) W W') : SlI l v W' := by
  obtain ⟨ao, cap, h0, h1, h2⟩ := h
  refine ⟨ao, cap, h0, fun i x hi => ?_, h2⟩
  obtain ⟨b, off, e, hb1, hc⟩ := h1 i x hi
  refine ⟨b, off, e, Nat.lt_of_lt_of_le hb1 hb.size, (hb.cell (p := ⟨b, off + i, none⟩) hb1 (fun hd => ?_)).trans hc⟩
  simp only at hd
  subst hd
  simp [World.cell?, hk] at hc

set_option maxRecDepth 100000 in
set_option maxHeartbeats 800000 in
theorem rounds_any (v : Value) (hv : ∃ a n c, v = .slice a n c) (w : World) : Calls Try.prog 29 #[v] w fun e w' => e = .returned (.func (.func 44) #[] #[.pointer (some ⟨w.heap.size, 0, none⟩)]) ∧ w' = w.alloc (Obj.cells #[v] 22) := by
  obtain ⟨va, vn, vc, rfl⟩ := hv
  go_enter Try.func29, Try.ntmps29
  go_wp2_with fail
  go_ret
  exact ⟨rfl, rfl⟩

set_option maxRecDepth 100000 in
set_option maxHeartbeats 3200000 in
theorem rounds_gives (n : Nat) (l : List Ds) (v : Value) (Bl : Nat) (w W : World) (hl : SlD l v w) (hf : fitD l) (hn : l.length ≤ 10000) (har : ∀ s ∈ l, s.arcs.length ≤ 100000) :
    GivesT n Try.prog 44 #[.pointer (some ⟨Bl, 0, none⟩)] encH (allH l) okH (pfH l) (fun _ => False) (FxR w v Bl) W := by
  intro yl J St hF hJ
  show CallsIn Fence.wide n Try.prog 44 #[.func (.yield yl) #[] #[], .pointer (some ⟨Bl, 0, none⟩)] W _
  have HF : Hid (FeedsT (n - 1) Try.prog yl encH okH (pfH l) (FxR w v Bl) J St) := hF
  have HJ : Hid (J (fun _ => False) [] W) := hJ
  have fx0 := hF.fx _ _ _ hJ
  clear hF hJ
  have HL : Hid (∀ V, Below w.heap.size w V → SlD l v V) := fun V hV => hl.next hV
  have C1 := byAccept_any l v W (HL.out _ fx0.1) (by omega)
  have HRF : Hid (∀ (k : Nat) (c : List Int) (cv : Value) (V : World), Below w.heap.size w V → SlI c cv V → Cls l k c → Calls Try.prog 47 #[v, cv] V fun e w' => ∃ nv, e = .returned nv ∧ OwnI V.heap.size (refL l c) nv w' ∧ Below V.heap.size V w') := fun k c cv V hV hc hC => refined_any l c v cv V (hl.next hV) hc hC.len hn (hf.all har) (hC.small hn)
  have HCL : Hid (∀ k c, Cls l k c → Cls l (k + 1) (refL l c)) := fun k c h => refL_cls hf hn h
  have HC0 : Hid (Cls l 0 (meetL [(-1 : Int)] (l.map Ds.acc))) := cls_first rfl
  have HNE : Hid (l ≠ []) := hf.some
  obtain ⟨va, vc, rfl, _⟩ := hl
  have c1 : W.cell? ⟨Bl, 0, none⟩ = some (.slice va l.length vc) := by rw [Lib.cell_of_heap fx0.2]; rfl
  have hBl : Bl < W.heap.size := blk_lt fx0.2
  clear fx0 hf har
  refine callsIn_of_wp Try.func44 rfl trivial ?_ rfl
  simp only [Try.ntmps44, List.size_toArray, List.length_cons, List.length_nil, Nat.reduceAdd, Nat.reduceSub, Array.replicate_succ, Array.replicate_zero, List.push_toArray, List.append_toArray, List.nil_append, List.cons_append]
  gi_wp2_with fail
  refine ⟨trivial, fun h => (by cases h), (callsIn_wide.2 C1).mono ?_⟩
  rintro e w1 ⟨cv, rfl, hO, hB⟩
  have HS : Hid (J (fun k => W.heap.size ≤ k ∧ k < w1.heap.size) [] w1 ∧ OwnI W.heap.size (meetL [(-1 : Int)] (l.map Ds.acc)) cv w1) := ⟨HF.out.less _ _ _ _ (HF.out.new _ _ _ _ HJ.out hB) (fun k hk => .inr hk), hO⟩
  obtain ⟨ca, cc, rfl⟩ := slice_of_ownK hO
  have hcl : (meetL [(-1 : Int)] (l.map Ds.acc)).length = l.length := by rw [meetL_len]; simp
  rw [hcl] at HS ⊢
  clear C1 hO hB c1 HJ hcl
  gi_wp2_with fail
  gi_loopg [3, 4] (2 * cntP (meetL [(-1 : Int)] (l.map Ds.acc)) + 1) (fun m av cv wr => ∃ (H : Hy) (c : List Int) (A : Nat → Prop) (aa ca : Option Addr) (an ac cn cc : Nat), av = .slice aa an ac ∧ cv = .slice ca cn cc ∧ Hid (an = (lastC H).length ∧ cn = c.length ∧ lastV H = .slice aa an ac ∧ m = 2 * cntP c + (if c = lastC H then 0 else 1) ∧ ChH l H ∧ Cls l H.length c ∧ J A (initsH H) wr ∧ okH A H wr ∧ SlI c (.slice ca cn cc) wr ∧ SlI (lastC H) (.slice aa an ac) wr ∧ ∀ ad n c, (Value.slice ca cn cc) = .slice (some ad) n c → A ad.block) ∧ Hid (H.length + cntP c + (if c = lastC H then 0 else 1) ≤ cntP (meetL [(-1 : Int)] (l.map Ds.acc)) + 1))
  case atStart =>
    have h0 := HC0.out
    have hne : ¬ meetL [(-1 : Int)] (l.map Ds.acc) = lastC [] := fun h => HNE.out (by
      have h9 := congrArg List.length h
      rw [meetL_len] at h9
      simp [lastC] at h9
      exact h9)
    refine ⟨[], _, _, none, ca, 0, 0, _, cc, rfl, rfl, ⟨rfl, ?_, rfl, by rw [if_neg hne], fun i y hy => (by simp at hy), h0, HS.out.1, fun y hy => (by simp at hy), ?_, ?_, fun ad n' c' e => ?_⟩, by show _ ≤ _; rw [if_neg hne]; simp⟩
    · rw [meetL_len]; simp
    · exact sli_own HS.out.2 (fun y hy => by have := h0.small hn y hy; unfold i64B; omega)
    · exact ⟨none, 0, rfl, RowAt.nil _ _ _, fun _ => rfl, Nat.le_refl _, fun x hx => (by simp [lastC] at hx)⟩
    · have := World.ownsRow.lt HS.out.2 ad.block (by cases e; rfl)
      exact this
  case round =>
    clear HS HC0
    obtain ⟨H, c, A, aa, ca, an, ac, cn, cc, rfl, rfl, HX, HBd⟩ := hrel
    obtain ⟨rfl, rfl, x3, x4, x5, x6, x7, x8, x9, x10, x11⟩ := HX.out
    have fx := HF.out.fx _ _ _ x7
    have cl : wr.cell? ⟨Bl, 0, none⟩ = some (.slice va l.length vc) := by rw [Lib.cell_of_heap fx.2]; rfl
    have C2 := equalI_any c (lastC H) _ _ wr x9 x10 (by rw [x6.len]; omega)
    have HX2 : Hid (lastV H = .slice aa (lastC H).length ac ∧ gk = 2 * cntP c + (if c = lastC H then 0 else 1) ∧ ChH l H ∧ Cls l H.length c ∧ J A (initsH H) wr ∧ okH A H wr ∧ SlI c (.slice ca c.length cc) wr ∧ ∀ ad n' c', (Value.slice ca c.length cc) = .slice (some ad) n' c' → A ad.block) := ⟨x3, x4, x5, x6, x7, x8, x9, x11⟩
    have HFX : Hid (Below w.heap.size w wr) := fx.1
    clear HX x3 x4 x5 x6 x7 x8 x9 x10 x11 fx
    by_cases he : c = lastC H
    · have dd : decide (c = lastC H) = true := decide_eq_true he
      rw [dd] at C2
      clear dd
      have HE : Hid (∀ n', ∃ xs, allH l xs (wr.drewN n') ∧ J (fun _ => False) xs (wr.drewN n')) := fun n' => by
        obtain ⟨y1, y2, y3, y4, y5, y6, y7, y8⟩ := HX2.out
        refine ⟨initsH H, ⟨H, rfl, y3, fun h => ?_, by rw [← he]; exact y4, fun y hy => ((y6 y hy).1).next (below_drewN (Below.refl _ _) n')⟩, HF.out.less _ _ _ _ (HF.out.turn _ _ _ _ y5 ((But.refl _ _).drewN n')) (fun _ h => h.elim)⟩
        have h9 := y4.len
        rw [he, h] at h9
        simp [lastC] at h9
        exact HNE.out (List.eq_nil_of_length_eq_zero h9.symm)
      clear HX2 HF HFX HL HRF HCL HNE he
      gi_wp2_with fail
      refine ⟨trivial, fun h => (by cases h), (callsIn_wide.2 C2).mono ?_⟩
      rintro e W3 ⟨rfl, n', rfl⟩
      clear C2
      gi_wp2
      go_end0
      exact ⟨⟨_, rfl⟩, .inl (HE.out n')⟩
    have dd : decide (c = lastC H) = false := decide_eq_false he
    rw [dd] at C2
    clear dd
    gi_wp2_with fail
    refine ⟨trivial, fun h => (by cases h), (callsIn_wide.2 C2).mono ?_⟩
    rintro e W3 ⟨rfl, n', rfl⟩
    clear C2
    have HJ3 : Hid (J A (initsH H) (wr.drewN n') ∧ okH A (H ++ [(.slice ca c.length cc, c)]) (wr.drewN n') ∧ pfH l (initsH H ++ [H ++ [(.slice ca c.length cc, c)]])) := by
      obtain ⟨y1, y2, y3, y4, y5, y6, y7, y8⟩ := HX2.out
      have bd : Below wr.heap.size wr (wr.drewN n') := below_drewN (Below.refl _ _) n'
      refine ⟨HF.out.turn _ _ _ _ y5 ((But.refl _ _).drewN n'), fun y hy => ?_, ⟨H ++ [(.slice ca c.length cc, c)], (initsH_snoc _ _).symm, y3.snoc y4, by have := HBd.out; rw [if_neg he] at this; simp; omega⟩⟩
      rcases List.mem_append.1 hy with hy | hy
      · exact ⟨(y6 y hy).1.next bd, (y6 y hy).2⟩
      · simp at hy; subst hy; exact ⟨y7.next bd, y8⟩
    have HFX3 : Hid (Below w.heap.size w (wr.drewN n')) := below_drewN HFX.out n'
    have HBe : Hid (H.length + cntP c ≤ cntP (meetL [(-1 : Int)] (l.map Ds.acc))) := by show _ ≤ _; have := HBd.out; rw [if_neg he] at this; omega
    have hG : Hid (gk = 2 * cntP c + 1 ∧ ChH l (H ++ [(.slice ca c.length cc, c)]) ∧ Cls l H.length c) := by
      obtain ⟨y1, y2, y3, y4, y5, y6, y7, y8⟩ := HX2.out
      exact ⟨by rw [y2, if_neg he], y3.snoc y4, y4⟩
    clear HX2 HFX he
    generalize wr.drewN n' = w5 at *
    obtain ⟨fn, tmps, assign, body, hyl, hR⟩ := yield_any (m' := n - 1) (HF.out.yield A (initsH H) (H ++ [(.slice ca c.length cc, c)]) _ HJ3.out.1 HJ3.out.2.1 HJ3.out.2.2)
    unfold encH at hyl
    rw [(lastV_snoc _ _).1] at hyl
    simp only at hyl
    gi_wp2
    refine ⟨fun h => (by cases h), hR.mono ?_⟩
    rintro e W6 (⟨rfl, hJ6, hB6⟩ | ⟨rfl, hSt, _⟩)
    case inr =>
      have HE : Hid (St (fun _ => False) W6) := HF.out.sless _ _ _ hSt (fun _ h => h.elim)
      clear hR hyl hSt HF HJ3 HFX3 hG HL HRF HCL HNE
      gi_wp2
      refine bodyPost_ret (results_none rfl _ _ _) rfl ?_
      exact ⟨⟨_, rfl⟩, .inr HE.out⟩
    have fx6 := HF.out.fx _ _ _ hJ6
    have cl6 : W6.cell? ⟨Bl, 0, none⟩ = some (.slice va l.length vc) := by rw [Lib.cell_of_heap fx6.2]; rfl
    have ok6 : okH A (H ++ [(.slice ca c.length cc, c)]) W6 := fun y hy => ⟨(HJ3.out.2.1 y hy).1.block hB6 (fun ad n' c' e h => h ((HJ3.out.2.1 y hy).2 ad n' c' e)), (HJ3.out.2.1 y hy).2⟩
    have C7 := HRF.out H.length c (.slice ca c.length cc) W6 fx6.1 (ok6 (.slice ca c.length cc, c) (by simp)).1 hG.out.2.2
    have HJ6 : Hid (J A (initsH (H ++ [(.slice ca c.length cc, c)])) W6 ∧ okH A (H ++ [(.slice ca c.length cc, c)]) W6) := ⟨by rw [initsH_snoc]; exact hJ6, ok6⟩
    clear hR hyl hJ6 hB6 HJ3 fx6 ok6 cl HFX3 HRF
    gi_wp2_with fail
    refine ⟨trivial, fun h => (by cases h), (callsIn_wide.2 C7).mono ?_⟩
    rintro e W8 ⟨nv, rfl, hO8, hB8⟩
    clear C7 cl6
    obtain ⟨na, nc, rfl⟩ := slice_of_ownK hO8
    have HE : Hid (∃ (A' : Nat → Prop), J A' (initsH (H ++ [(.slice ca c.length cc, c)])) W8 ∧ okH A' (H ++ [(.slice ca c.length cc, c)]) W8 ∧ SlI (refL l c) (.slice na (refL l c).length nc) W8 ∧ (∀ ad n' c', (Value.slice na (refL l c).length nc) = .slice (some ad) n' c' → A' ad.block) ∧ Cls l (H.length + 1) (refL l c) ∧ 2 * cntP (refL l c) + (if refL l c = c then 0 else 1) < gk ∧ H.length + 1 + cntP (refL l c) + (if refL l c = c then 0 else 1) ≤ cntP (meetL [(-1 : Int)] (l.map Ds.acc)) + 1) := by
      obtain ⟨g1, g2, g3⟩ := hG.out
      obtain ⟨j1, j2⟩ := HJ6.out
      have hc8 := HCL.out _ _ g3
      refine ⟨_, HF.out.new _ _ _ _ j1 hB8, fun y hy => ⟨(j2 y hy).1.next hB8, fun ad n' c' e => .inl ((j2 y hy).2 ad n' c' e)⟩, sli_own hO8 (fun y hy => by have := hc8.small hn y hy; unfold i64B; omega), fun ad n' c' e => .inr (World.ownsRow.lt hO8 ad.block (by cases e; rfl)), hc8, ?_⟩
      have hbe := HBe.out
      rw [g1]
      by_cases h : refL l c = c
      · rw [if_pos h, h]; omega
      · rw [if_neg h]
        have := cls_less g3 hc8 h
        omega
    have HG2 : Hid (ChH l (H ++ [(.slice ca c.length cc, c)])) := hG.out.2.1
    clear hG HJ6 hO8 hB8 HF HCL HL HNE
    gi_wp2
    gi_roundg (2 * cntP (refL l c) + (if refL l c = c then 0 else 1))
    case rel =>
      obtain ⟨A', q1, q2, q3, q4, q5, q6, q7⟩ := HE.out
      obtain ⟨z1, z2⟩ := lastV_snoc H (.slice ca c.length cc, c)
      refine ⟨H ++ [(.slice ca c.length cc, c)], refL l c, A', ca, na, c.length, cc, (refL l c).length, nc, rfl, rfl, ⟨by rw [z2], rfl, by rw [z1], by rw [z2], HG2.out, by simpa using q5, q1, q2, q3, ?_, q4⟩, by show _ ≤ _; rw [z2, List.length_append]; exact q7⟩
      rw [z2]
      exact (q2 (.slice ca c.length cc, c) (by simp)).1
    case measure => exact HE.out.choose_spec.2.2.2.2.2.1
end Go.Proofs.Ytdalomibilicfaa
