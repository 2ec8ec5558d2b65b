/- Norm of the document: the normal form of all bytes of a row of ranges. -/
import Derived.Test.YtdkgeeimhjffdaaRefMath
import Derived.Deep.RegionHeld3
import Derived.Deep.DrawnRows
namespace Go.Proofs.Ytdkgeeimhjffdaa
open Go.RowKit Go.Shelf
attribute [local go_sem ↓] Go.wp_at_zero Go.wp_at_succ

def nonE (r : Rg) : Bool := decide (max r.1 0 < r.2)
def cutR (r : Rg) : Rg := (max r.1 0, r.2)

/-- All ways of a region end in one place. -/
theorem wp_to {P : Program} {c : Code} {a : Act} {w : World} {Q : Exit → Act → World → Prop} (a1 : Act) (w1 : World) (h : c.wp P (fun e a' W' => e = .normal ∧ a' = a1 ∧ W' = w1) a w) (hq : Q .normal a1 w1) : c.wp P Q a w :=
  wp_mono h (by rintro e a' W' ⟨rfl, rfl, rfl⟩; exact hq)

theorem rn_step {es ss : List Rg} {j k : Nat} {r0 r1 m0 : Int} (hI : Srt ss ∧ (∀ x, hasL ss x = hasL (es.take j) x) ∧ ss.length = (es.take j).countP nonE) (hst : es.take (j + 1) = es.take j ++ [(r0, r1)]) (hm : max r0 0 = m0) (he : m0 < r1) (hk : k ≤ ss.length)
    (h1 : ∀ b ∈ ss.drop k, m0 < b.1) (h2 : ∀ b ∈ ss.take k, b.1 ≤ m0) : Srt (insR ss (m0, r1) k) ∧ (∀ x, hasL (insR ss (m0, r1) k) x = hasL (es.take (j + 1)) x) ∧ (insR ss (m0, r1) k).length = (es.take (j + 1)).countP nonE := by
  refine ⟨insR_srt hI.1 ⟨by simp only; omega, he⟩ (fun b hb => by have := h1 b hb; simp only; omega) h2, fun x => ?_, ?_⟩
  · rw [insR_has, hst, hasL_append, hasL_cons, hasL_nil, Bool.or_false, hI.2.1]
    congr 1
    rw [Bool.eq_iff_iff, decide_eq_true_eq, decide_eq_true_eq]
    simp only
    omega
  · rw [insR_len hk, hst, List.countP_append, hI.2.2]
    have : nonE (r0, r1) = true := by unfold nonE; simp only; rw [decide_eq_true (by omega)]
    simp [this]
theorem rn_swap {B g' c' m : Nat} {ss : List Rg} {x s : Rg} {W5 : World} (hml : m < ss.length) (hs : ss[m]'hml = s) (h : OwnR B (insR ss x (m + 1)) (.slice (some ⟨g', 0, none⟩) (insR ss x (m + 1)).length c') W5) :
    OwnR B (insR ss x m) (.slice (some ⟨g', 0, none⟩) (ss.length + 1) c') ((((W5.setCell ⟨g', (m + 1) * 2, none⟩ (.int .i64 s.1)).setCell ⟨g', (m + 1) * 2 + 1, none⟩ (.int .i64 s.2)).setCell ⟨g', m * 2, none⟩ (.int .i64 x.1)).setCell ⟨g', m * 2 + 1, none⟩ (.int .i64 x.2)).drew := by
  have hl : (insR ss x (m + 1)).length = ss.length + 1 := insR_len (by omega)
  have h1 := h.set (m + 1) s (by omega)
  have h2 : OwnR B ((insR ss x (m + 1)).set (m + 1) s) (.slice (some ⟨g', 0, none⟩) ((insR ss x (m + 1)).set (m + 1) s).length c') ((W5.setCell ⟨g', (m + 1) * 2, none⟩ (.int .i64 s.1)).setCell ⟨g', (m + 1) * 2 + 1, none⟩ (.int .i64 s.2)) := by
    rw [List.length_set]; exact h1
  have h3 := h2.set m x (by rw [List.length_set]; omega)
  rw [List.length_set, hl, ← hs, insR_swap hml] at h3
  rw [hs] at h3
  exact World.ownsRow.drew h3

set_option maxRecDepth 100000 in
set_option maxHeartbeats 4000000 in
theorem rnorm_any (es : List Rg) (ao : Option Addr) (cap : Nat) (w : World) (hc : RgAt es ao w) (ho : ∀ r ∈ es, RgOk r) (hl : es.length ≤ 1000000) :
    Calls Try.prog 12 #[.slice ao es.length cap] w fun e w' => GivesSet True e w w' (fun x => hasL es x) (es.countP nonE) := by
  obtain ⟨i0, hi, hz0, hz1, hz2⟩ := info_parts info29
  go_enter Try.func12, Try.ntmps12
  go_wp2
  go_loopw [3, 4] (fun s i wr => ∃ (j : Nat) (ss : List Rg), i = .int .i64 j ∧ j ≤ es.length ∧ OwnR w.heap.size ss s wr ∧ Srt ss ∧ (∀ x, hasL ss x = hasL (es.take j) x) ∧ ss.length = (es.take j).countP nonE ∧ Below w.heap.size w wr) (fun _ i _ => es.length - (intOf i).toNat)
  case atStart => exact ⟨0, [], rfl, Nat.zero_le _, OwnR.nil _ _, ⟨by simp, by simp⟩, by simp, by simp, Below.refl _ _⟩
  case round =>
    obtain ⟨j, ss, rfl, hj, hO, hS, hH, hL, B1⟩ := hrel
    by_cases hlt : j < es.length
    · obtain ⟨b, off, rfl, c0, c1⟩ := hc.at B1 hlt
      have hok := ho _ (List.getElem_mem hlt)
      have hbl : b < wr.heap.size := World.block_lt_of_cell? _ _ c0
      have HST : Hid (es.take (j + 1) = es.take j ++ [es[j]]) := List.take_succ_eq_append_getElem hlt
      generalize es[j] = r at *
      obtain ⟨r0, r1⟩ := r
      simp only at c0 c1
      have hlen : ss.length ≤ 1000000 := by have := List.countP_le_length (p := nonE) (l := es.take j); simp at this; omega
      obtain ⟨so, sc, rfl, hSa, _⟩ := OwnR.at_ hO
      obtain ⟨m0, hm0⟩ : ∃ m0, max r0 0 = m0 := ⟨_, rfl⟩
      have HM : Hid (max r0 0 = m0) := hm0
      have hm1 : 0 ≤ m0 := by omega
      have HI : Hid (Srt ss ∧ (∀ x, hasL ss x = hasL (es.take j) x) ∧ ss.length = (es.take j).countP nonE) := ⟨hS, hH, hL⟩
      have HC : Hid (RgAt es (some ⟨b, off, none⟩) w ∧ ∀ r ∈ es, RgOk r) := ⟨hc, ho⟩
      clear hS hH hL hc ho hSa
      go_wp2
      apply wp_to (w1 := (wr.alloc (Obj.cells #[Value.int IntKind.i64 m0, Value.int IntKind.i64 r1] 29)).drew)
      · go_region_held3 (fun w' => w'.cell? ⟨b, off + j * 2, none⟩ = some (.int .i64 r0) ∧ w'.cell? ⟨b, off + j * 2 + 1, none⟩ = some (.int .i64 r1)) (go_keep) (fail)
        all_goals exact ⟨rfl, rfl, rfl⟩
      have hz : (wr.alloc (Obj.cells #[Value.int IntKind.i64 m0, Value.int IntKind.i64 r1] 29)).drew.heap.size = wr.heap.size + 1 := by show (wr.alloc _).heap.size = _; simp
      have d0 : (wr.alloc (Obj.cells #[Value.int IntKind.i64 m0, Value.int IntKind.i64 r1] 29)).drew.cell? ⟨wr.heap.size, 0, none⟩ = some (.int .i64 m0) := by show (wr.alloc _).cell? _ = _; simp
      have d1 : (wr.alloc (Obj.cells #[Value.int IntKind.i64 m0, Value.int IntKind.i64 r1] 29)).drew.cell? ⟨wr.heap.size, 1, none⟩ = some (.int .i64 r1) := by show (wr.alloc _).cell? _ = _; simp
      have hO1 : OwnR w.heap.size ss (.slice so ss.length sc) (wr.alloc (Obj.cells #[Value.int IntKind.i64 m0, Value.int IntKind.i64 r1] 29)).drew := (World.ownsRow.alloc hO _).drew
      replace B1 : Below w.heap.size w (wr.alloc (Obj.cells #[Value.int IntKind.i64 m0, Value.int IntKind.i64 r1] 29)).drew := (B1.alloc B1.size _).drew
      clear hO c0 c1 hbl hm0
      have HZ : Hid ((wr.alloc (Obj.cells #[Value.int IntKind.i64 m0, Value.int IntKind.i64 r1] 29)).drew.heap.size = wr.heap.size + 1) := hz
      clear hz
      generalize (wr.alloc (Obj.cells #[Value.int IntKind.i64 m0, Value.int IntKind.i64 r1] 29)).drew = W1 at *
      generalize wr.heap.size = z at *
      by_cases he : r1 ≤ m0
      · go_wp2
        have hh : ∀ x, hasL (es.take (j + 1)) x = hasL (es.take j) x := fun x => by
          rw [HST.out, hasL_append, hasL_cons, hasL_nil, decide_eq_false (by have := HM.out; simp only; omega)]
          simp
        have hcn : (es.take (j + 1)).countP nonE = (es.take j).countP nonE := by
          rw [HST.out, List.countP_append]
          have : nonE (r0, r1) = false := by have := HM.out; unfold nonE; simp only; rw [decide_eq_false (by omega)]
          simp [this]
        exact ⟨⟨j + 1, ss, by go_num, by omega, hO1, HI.out.1, fun x => by rw [hh]; exact HI.out.2.1 x, by rw [hcn]; exact HI.out.2.2, B1⟩, by simp [intOf]; omega⟩
      · have hsz : w.heap.size ≤ W1.heap.size := B1.size
        go_wp2_with (at_builtin; refine wpList_append_own _ rfl _ _ 22 rfl w.heap.size 29 i0 _ 2 16 Try.underlying22 hi hz0 hz1 hz2 rfl (by decide) _ _ _ rfl (World.ownsRow.alloc hO1 _) ⟨W1.heap.size, 0, none⟩ 1 1 (encR (m0, r1)) rfl rfl (cells2 _ _ _) (encR_one _) (by unfold maxLen; omega) (by omega) (by simp; omega) ?_)
        intro v' w2 hown' hgrow _
        obtain ⟨g', c', rfl⟩ := ownsRow_succ hown'
        have hO2 : OwnR w.heap.size (insR ss (m0, r1) ss.length) (.slice (some ⟨g', 0, none⟩) (ss.length + 1) c') w2 := by rw [insR_end]; exact OwnR.snoc hown'
        have B2 : Below w.heap.size w w2 := (B1.alloc B1.size _).grown hgrow (by simp; omega) (fun k e => by exact (World.ownsRow.lt hO1 k e).1)
        clear hown' hgrow hO1 B1 d0 d1
        go_wp2
        go_loopw [6] (fun k wr2 => ∃ m : Nat, k = .int .i64 m ∧ m ≤ ss.length ∧ OwnR w.heap.size (insR ss (m0, r1) m) (.slice (some ⟨g', 0, none⟩) (ss.length + 1) c') wr2 ∧ (∀ b ∈ ss.drop m, m0 < b.1) ∧ Below w.heap.size w wr2) (fun k _ => (intOf k).toNat)
        case atStart => exact ⟨ss.length, by go_num, Nat.le_refl _, hO2, by simp, B2⟩
        case round =>
          clear hO2 B2
          obtain ⟨m, rfl, hm, hO2, hgt, B2⟩ := hrel
          cases m with
          | zero =>
            have HR := rn_step HI.out HST.out HM.out he (Nat.zero_le _) hgt (by simp)
            have HRR : Hid (Srt (insR ss (m0, r1) 0) ∧ (∀ x, hasL (insR ss (m0, r1) 0) x = hasL (es.take (j + 1)) x) ∧ (insR ss (m0, r1) 0).length = (es.take (j + 1)).countP nonE) := HR
            clear HR hgt
            go_wp2
            go_quiet (fail)
            go_wp2
            exact ⟨⟨j + 1, insR ss (m0, r1) 0, by go_num, by omega, hO2, HRR.out.1, HRR.out.2.1, HRR.out.2.2, below_drewN B2 _⟩, by simp [intOf]; omega⟩
          | succ m =>
            have hml : m < ss.length := by omega
            obtain ⟨s, hs⟩ : ∃ s, ss[m]'hml = s := ⟨_, rfl⟩
            have q1 := OwnR.at_ hO2
            have hlr : (insR ss (m0, r1) (m + 1)).length = ss.length + 1 := insR_len hm
            obtain ⟨ao', cp', hv', hRg, _⟩ := q1
            simp only [Value.slice.injEq] at hv'
            obtain ⟨rfl, _, rfl⟩ := hv'
            obtain ⟨b1, o1, hb1, _, e0, e1⟩ := hRg (m + 1) (m0, r1) (insR_at ss _ hm)
            cases hb1
            obtain ⟨b2, o2, hb2, _, e2, e3⟩ := hRg m s (by rw [insR_ahead ss _ hml, hs])
            cases hb2
            simp only [Nat.zero_add] at e0 e1 e2 e3
            have k1 : (0 : Int) < (m : Int) + 1 := by omega
            have k2 : decide ((0 : Int) < (m : Int) + 1) = true := decide_eq_true k1
            obtain ⟨s0, s1⟩ := s
            simp only at e2 e3
            have hmm : m ≤ 1000000 := by omega
            have hO3 : OwnR w.heap.size (insR ss (m0, r1) (m + 1)) (.slice (some ⟨g', 0, none⟩) (insR ss (m0, r1) (m + 1)).length c') wr := by rw [hlr]; exact hO2
            have f0 : wr.frozen? ⟨g', (m + 1) * 2, none⟩ = false := World.ownsRow.frozenAt hO3 _
            have f1 : wr.frozen? ⟨g', (m + 1) * 2 + 1, none⟩ = false := World.ownsRow.frozenAt hO3 _
            have f2 : wr.frozen? ⟨g', m * 2, none⟩ = false := World.ownsRow.frozenAt hO3 _
            have f3 : wr.frozen? ⟨g', m * 2 + 1, none⟩ = false := World.ownsRow.frozenAt hO3 _
            have hgb := (World.ownsRow.lt hO3 g' rfl).1
            have HO3 : Hid (OwnR w.heap.size (insR ss (m0, r1) (m + 1)) (.slice (some ⟨g', 0, none⟩) (insR ss (m0, r1) (m + 1)).length c') wr) := hO3
            have HLR : Hid ((insR ss (m0, r1) (m + 1)).length = ss.length + 1) := hlr
            have HG : Hid (∀ b ∈ ss.drop (m + 1), m0 < b.1) := hgt
            have HS : Hid (ss[m]'hml = (s0, s1)) := hs
            clear hO2 hO3 hlr hRg hgt hs
            by_cases hcmp : m0 < s0
            · have hcm2 : decide (m0 < s0) = true := by simpa using hcmp
              go_wp2
              go_quiet (fail)
              go_wp2
              have e0' : (wr.drewN nq).cell? ⟨g', (m + 1) * 2, none⟩ = some (.int .i64 m0) := e0
              have e1' : (wr.drewN nq).cell? ⟨g', (m + 1) * 2 + 1, none⟩ = some (.int .i64 r1) := e1
              have e2' : (wr.drewN nq).cell? ⟨g', m * 2, none⟩ = some (.int .i64 s0) := e2
              have e3' : (wr.drewN nq).cell? ⟨g', m * 2 + 1, none⟩ = some (.int .i64 s1) := e3
              have f0' : (wr.drewN nq).frozen? ⟨g', (m + 1) * 2, none⟩ = false := f0
              have f1' : (wr.drewN nq).frozen? ⟨g', (m + 1) * 2 + 1, none⟩ = false := f1
              have f2' : (wr.drewN nq).frozen? ⟨g', m * 2, none⟩ = false := f2
              have f3' : (wr.drewN nq).frozen? ⟨g', m * 2 + 1, none⟩ = false := f3
              have HO4 : Hid (OwnR w.heap.size (insR ss (m0, r1) (m + 1)) (.slice (some ⟨g', 0, none⟩) (insR ss (m0, r1) (m + 1)).length c') (wr.drewN nq)) := HO3.out
              have B4 := below_drewN B2 nq
              clear e0 e1 e2 e3 f0 f1 f2 f3 HO3 B2
              generalize wr.drewN nq = W5 at *
              have hO6 := rn_swap hml HS.out HO4.out
              have B6 : Below w.heap.size w ((((W5.setCell ⟨g', (m + 1) * 2, none⟩ (.int .i64 s0)).setCell ⟨g', (m + 1) * 2 + 1, none⟩ (.int .i64 s1)).setCell ⟨g', m * 2, none⟩ (.int .i64 m0)).setCell ⟨g', m * 2 + 1, none⟩ (.int .i64 r1)).drew :=
                ((((B4.setCell hgb _).setCell hgb _).setCell hgb _).setCell hgb _).drew
              have HG2 : Hid (∀ b ∈ ss.drop m, m0 < b.1) := fun b hb => by
                rw [List.drop_eq_getElem_cons hml, HS.out] at hb
                rcases List.mem_cons.1 hb with rfl | hb
                · exact hcmp
                · exact HG.out b hb
              have HO6 : Hid (OwnR w.heap.size (insR ss (m0, r1) m) (.slice (some ⟨g', 0, none⟩) (ss.length + 1) c') ((((W5.setCell ⟨g', (m + 1) * 2, none⟩ (.int .i64 s0)).setCell ⟨g', (m + 1) * 2 + 1, none⟩ (.int .i64 s1)).setCell ⟨g', m * 2, none⟩ (.int .i64 m0)).setCell ⟨g', m * 2 + 1, none⟩ (.int .i64 r1)).drew) := hO6
              have HB6 : Hid (Below w.heap.size w ((((W5.setCell ⟨g', (m + 1) * 2, none⟩ (.int .i64 s0)).setCell ⟨g', (m + 1) * 2 + 1, none⟩ (.int .i64 s1)).setCell ⟨g', m * 2, none⟩ (.int .i64 m0)).setCell ⟨g', m * 2 + 1, none⟩ (.int .i64 r1)).drew) := B6
              clear hO6 B6 HO4 B4
              go_big_region
              all_goals go_wp2
              all_goals exact ⟨⟨m, by go_num, by omega, HO6.out, HG2.out, HB6.out⟩, by simp [intOf]⟩
            · have hcm2 : decide (m0 < s0) = false := by simpa using hcmp
              have HR := rn_step HI.out HST.out HM.out he hm HG.out (srt_take_le (x := (m0, r1)) HI.out.1 hml (by rw [HS.out]; simp only; omega))
              have HRR : Hid (Srt (insR ss (m0, r1) (m + 1)) ∧ (∀ x, hasL (insR ss (m0, r1) (m + 1)) x = hasL (es.take (j + 1)) x) ∧ (insR ss (m0, r1) (m + 1)).length = (es.take (j + 1)).countP nonE) := HR
              clear HR
              go_wp2
              go_quiet (fail)
              go_wp2
              exact ⟨⟨j + 1, insR ss (m0, r1) (m + 1), by go_num, by omega, HO3.out, HRR.out.1, HRR.out.2.1, HRR.out.2.2, below_drewN B2 _⟩, by simp [intOf]; omega⟩
    · have hT : es.take j = es := List.take_of_length_le (by omega)
      rw [hT] at hH hL
      obtain ⟨so, sc, rfl, hSa, _⟩ := OwnR.at_ hO
      have HF : Hid (Srt ss ∧ (∀ x, hasL ss x = hasL es x) ∧ ss.length = es.countP nonE ∧ ∀ r ∈ es, RgOk r) := ⟨hS, hH, hL, ho⟩
      have hlen : ss.length ≤ 1000000 := by have := List.countP_le_length (p := nonE) (l := es); omega
      have HB1 : Hid (Below w.heap.size w wr) := B1
      have hsz : w.heap.size ≤ wr.heap.size := B1.size
      clear hS hH hL ho hc hO hT B1
      generalize wr = Wp at *
      go_wp2
      go_loopw [7, 8] (fun o i wr2 => ∃ (k : Nat) (out : List Rg), i = .int .i64 k ∧ k ≤ ss.length ∧ OwnR Wp.heap.size out o wr2 ∧ Fit out ∧ (∀ x, hasL out x = hasL (ss.take k) x) ∧ (∀ r ∈ out, ∀ s ∈ ss.drop k, r.1 ≤ s.1) ∧ out.length ≤ k ∧ Below Wp.heap.size Wp wr2) (fun _ i _ => ss.length - (intOf i).toNat)
      case atStart => exact ⟨0, [], rfl, Nat.zero_le _, OwnR.nil _ _, Fit.nil, by simp, by simp, by simp, Below.refl _ _⟩
      case round =>
        obtain ⟨k, out, rfl, hk, hO, hFo, hHo, hLe, hLn, B3⟩ := hrel
        by_cases hlt : k < ss.length
        · obtain ⟨b2, off2, rfl, c0, c1⟩ := hSa.at B3 hlt
          have hs0 := HF.out.1.1 _ (List.getElem_mem hlt)
          have hstk : ss.take (k + 1) = ss.take k ++ [ss[k]] ∧ ss.drop k = ss[k] :: ss.drop (k + 1) := ⟨List.take_succ_eq_append_getElem hlt, List.drop_eq_getElem_cons hlt⟩
          have hsrt : ∀ s ∈ ss.drop (k + 1), ss[k].1 ≤ s.1 := fun s hs => by
            have h1 := HF.out.1.2
            rw [← List.take_append_drop k ss, hstk.2] at h1
            exact (List.pairwise_cons.1 (List.pairwise_append.1 h1).2.1).1 s hs
          have hbl : b2 < Wp.heap.size := by obtain ⟨b', o', h1, h2, _⟩ := hSa k _ (List.getElem?_eq_getElem hlt); cases h1; exact h2
          generalize ss[k] = s at *
          obtain ⟨s0, s1⟩ := s
          simp only at c0 c1 hs0 hsrt
          -- what an append does
          have HPU : Hid ((∀ r ∈ out, r.2 < s0) → Fit (out ++ [(s0, s1)]) ∧ (∀ x, hasL (out ++ [(s0, s1)]) x = hasL (ss.take (k + 1)) x) ∧ (∀ r ∈ out ++ [(s0, s1)], ∀ s ∈ ss.drop (k + 1), r.1 ≤ s.1) ∧ (out ++ [(s0, s1)]).length ≤ k + 1) := fun h => by
            refine ⟨out_push hFo hs0 h, fun x => ?_, fun r hr s hs => ?_, by simp; omega⟩
            · rw [hstk.1, hasL_append, hasL_append, hHo]
            · rcases List.mem_append.1 hr with hr | hr
              · exact hLe r hr s (by rw [hstk.2]; simp [hs])
              · simp at hr; subst hr; exact hsrt s hs
          obtain ⟨oo, oc, rfl, hOa, hog⟩ := OwnR.at_ hO
          have hsz3 : Wp.heap.size ≤ wr.heap.size := B3.size
          have hno : out.length ≤ 1000000 := by omega
          obtain rfl | ⟨o, q, rfl⟩ : out = [] ∨ ∃ o q, out = o ++ [q] := by
            rcases List.eq_nil_or_concat out with h | ⟨o, q, h⟩
            · exact .inl h
            · exact .inr ⟨o, q, by rw [h, List.concat_eq_append]⟩
          · have HP := HPU.out (by simp)
            have HPP : Hid (Fit ([] ++ [(s0, s1)]) ∧ (∀ x, hasL ([] ++ [(s0, s1)]) x = hasL (ss.take (k + 1)) x) ∧ (∀ r ∈ [] ++ [(s0, s1)], ∀ s ∈ ss.drop (k + 1), r.1 ≤ s.1) ∧ ([] ++ [(s0, s1)]).length ≤ k + 1) := HP
            have HW : Hid (RgAt ss (some ⟨b2, off2, none⟩) Wp) := hSa
            clear HP HPU hFo hHo hLe hOa hog hsrt hstk hSa
            go_wp2
            go_quiet (fail)
            have hO5 : OwnR Wp.heap.size [] _ (wr.drewN nq) := hO
            have d0 : (wr.drewN nq).cell? ⟨b2, off2 + k * 2, none⟩ = some (.int .i64 s0) := c0
            have d1 : (wr.drewN nq).cell? ⟨b2, off2 + k * 2 + 1, none⟩ = some (.int .i64 s1) := c1
            have B5 := below_drewN B3 nq
            have hsz5 : Wp.heap.size ≤ (wr.drewN nq).heap.size := hsz3
            clear hO c0 c1 B3 hsz3
            generalize wr.drewN nq = W5 at *
            go_wp2_with (at_builtin; refine wpList_append_own _ rfl _ _ 22 rfl Wp.heap.size 29 i0 _ 2 16 Try.underlying22 hi hz0 hz1 hz2 rfl (by decide) _ _ _ rfl (World.ownsRow.alloc hO5 _) ⟨W5.heap.size, 0, none⟩ 1 1 (encR (s0, s1)) rfl rfl (cells2 _ _ _) (encR_one _) (by unfold maxLen; omega) (by omega) (by simp; omega) ?_)
            intro v' w2 hown' hgrow _
            obtain ⟨g', c', rfl⟩ := ownsRow_succ hown'
            have hO6 : OwnR Wp.heap.size [(s0, s1)] (.slice (some ⟨g', 0, none⟩) (0 + 1) c') w2 := by unfold OwnR; simpa using hown'
            have B6 : Below Wp.heap.size Wp w2 := (B5.alloc hsz5 _).grown hgrow (by simp; omega) (fun k e => by exact (World.ownsRow.lt hO5 k e).1)
            have HO6 : Hid (OwnR Wp.heap.size [(s0, s1)] (.slice (some ⟨g', 0, none⟩) (0 + 1) c') w2) := hO6
            clear hown' hgrow hO5 B5 d0 d1 hO6
            go_wp2
            exact ⟨⟨k + 1, [(s0, s1)], by go_num, by omega, by simpa using HO6.out, HPP.out.1, HPP.out.2.1, HPP.out.2.2.1, HPP.out.2.2.2, B6⟩, by simp [intOf]; omega⟩
          · obtain ⟨q0, q1⟩ := q
            obtain ⟨g, cp, hg, hgB, hgf⟩ : ∃ g, ∃ cp : Nat, oo = some ⟨g, 0, none⟩ ∧ Wp.heap.size ≤ g ∧ ∀ j, wr.frozen? ⟨g, j, none⟩ = false := by
              rcases hog with rfl | ⟨g, rfl, h1, _, _⟩
              · obtain ⟨b', o', h, _⟩ := hOa o.length (q0, q1) (by simp)
                cases h
              · exact ⟨g, 0, rfl, h1, fun j => World.ownsRow.frozenAt hO j⟩
            subst hg
            obtain ⟨b', o', h, _, e0, e1⟩ := hOa o.length (q0, q1) (by simp)
            cases h
            simp only [Nat.zero_add] at e0 e1
            have hlo : (o ++ [(q0, q1)]).length = o.length + 1 := by simp
            have hq := hFo.1 (q0, q1) (by simp)
            have hqs : q0 ≤ s0 := hLe (q0, q1) (by simp) (s0, s1) (by rw [hstk.2]; simp)
            have k1 : (0 : Int) < (o.length : Int) + 1 := by omega
            have k2 : decide ((0 : Int) < (o.length : Int) + 1) = true := decide_eq_true k1
            have hlo2 : o.length ≤ 1000000 := by omega
            have HW : Hid (RgAt ss (some ⟨b2, off2, none⟩) Wp) := hSa
            have HLO : Hid ((o ++ [(q0, q1)]).length = o.length + 1) := hlo
            have hf1 := hgf (o.length * 2 + 1)
            by_cases hcmp : s0 ≤ q1
            · have hcm2 : decide (s0 ≤ q1) = true := by simpa using hcmp
              obtain ⟨M, hM⟩ : ∃ M, max q1 s1 = M := ⟨_, rfl⟩
              obtain ⟨j1, j2⟩ := out_join hFo (s := (s0, s1)) hqs hcmp
              simp only [hM] at j1 j2
              have HJ : Hid (Fit (o ++ [(q0, M)]) ∧ (∀ x, hasL (o ++ [(q0, M)]) x = hasL (ss.take (k + 1)) x) ∧ (∀ r ∈ o ++ [(q0, M)], ∀ s ∈ ss.drop (k + 1), r.1 ≤ s.1) ∧ (o ++ [(q0, M)]).length ≤ k + 1) := by
                refine ⟨j1, fun x => ?_, fun r hr s hs => ?_, by simp; omega⟩
                · rw [j2, hHo, hstk.1, hasL_append, hasL_cons, hasL_nil, Bool.or_false]
                · have hs2 : s ∈ ss.drop k := by rw [hstk.2]; simp [hs]
                  rcases List.mem_append.1 hr with hr | hr
                  · exact hLe r (by simp [hr]) s hs2
                  · simp at hr; subst hr; exact hLe (q0, q1) (by simp) s hs2
              have hset : (o ++ [(q0, q1)]).set o.length ((o ++ [(q0, q1)])[o.length]'(by simp) |>.1, M) = o ++ [(q0, M)] := by simp
              have hO4 := OwnR.set1 hO o.length M (by simp)
              rw [hset] at hO4
              have HO4 : Hid (OwnR Wp.heap.size (o ++ [(q0, M)]) (.slice (some ⟨g, 0, none⟩) (o ++ [(q0, q1)]).length oc) (wr.setCell ⟨g, o.length * 2 + 1, none⟩ (.int .i64 M))) := hO4
              have HB4 : Hid (Below Wp.heap.size Wp (wr.setCell ⟨g, o.length * 2 + 1, none⟩ (.int .i64 M))) := B3.setCell hgB _
              clear HPU hFo hHo hLe hOa hog hsrt hstk hSa hO hO4 hset j1 j2 hgf
              rw [hlo]
              go_wp2
              go_quiet (fail)
              go_wp2
              have d0 : (wr.drewN nq).cell? ⟨b2, off2 + k * 2, none⟩ = some (.int .i64 s0) := c0
              have d1 : (wr.drewN nq).cell? ⟨b2, off2 + k * 2 + 1, none⟩ = some (.int .i64 s1) := c1
              have d2 : (wr.drewN nq).cell? ⟨g, o.length * 2, none⟩ = some (.int .i64 q0) := e0
              have d3 : (wr.drewN nq).cell? ⟨g, o.length * 2 + 1, none⟩ = some (.int .i64 q1) := e1
              have d4 : (wr.drewN nq).frozen? ⟨g, o.length * 2 + 1, none⟩ = false := hf1
              have HO5 : Hid (OwnR Wp.heap.size (o ++ [(q0, M)]) (.slice (some ⟨g, 0, none⟩) (o ++ [(q0, q1)]).length oc) ((wr.drewN nq).setCell ⟨g, o.length * 2 + 1, none⟩ (.int .i64 M)).drew) := HO4.out
              have HB5 : Hid (Below Wp.heap.size Wp ((wr.drewN nq).setCell ⟨g, o.length * 2 + 1, none⟩ (.int .i64 M)).drew) := ((below_drewN B3 nq).setCell hgB _).drew
              clear c0 c1 e0 e1 hf1 HO4 HB4 B3
              generalize wr.drewN nq = W5 at *
              go_big_region
              all_goals go_wp2
              all_goals exact ⟨⟨k + 1, o ++ [(q0, M)], by go_num, by omega, by have := HO5.out; first | exact this | (rw [HLO.out] at this; exact this), HJ.out.1, HJ.out.2.1, HJ.out.2.2.1, HJ.out.2.2.2, HB5.out⟩, by simp [intOf]; omega⟩
            · have hcm2 : decide (s0 ≤ q1) = false := by simpa using hcmp
              have HPP : Hid (Fit (o ++ [(q0, q1)] ++ [(s0, s1)]) ∧ (∀ x, hasL (o ++ [(q0, q1)] ++ [(s0, s1)]) x = hasL (ss.take (k + 1)) x) ∧ (∀ r ∈ o ++ [(q0, q1)] ++ [(s0, s1)], ∀ s ∈ ss.drop (k + 1), r.1 ≤ s.1) ∧ (o ++ [(q0, q1)] ++ [(s0, s1)]).length ≤ k + 1) := HPU.out (out_all hFo (by show q1 < s0; omega))
              have HO9 : Hid (OwnR Wp.heap.size (o ++ [(q0, q1)]) (.slice (some ⟨g, 0, none⟩) (o ++ [(q0, q1)]).length oc) wr) := hO
              clear HPU hFo hHo hLe hOa hog hsrt hstk hSa hgf hO
              rw [hlo]
              go_wp2
              go_quiet (fail)
              have hO : OwnR Wp.heap.size (o ++ [(q0, q1)]) (.slice (some ⟨g, 0, none⟩) (o ++ [(q0, q1)]).length oc) wr := HO9.out
              clear HO9 e0 e1 hf1
              have hO5 : OwnR Wp.heap.size (o ++ [(q0, q1)]) (.slice (some ⟨g, 0, none⟩) (o ++ [(q0, q1)]).length oc) (wr.drewN nq) := hO
              have d0 : (wr.drewN nq).cell? ⟨b2, off2 + k * 2, none⟩ = some (.int .i64 s0) := c0
              have d1 : (wr.drewN nq).cell? ⟨b2, off2 + k * 2 + 1, none⟩ = some (.int .i64 s1) := c1
              have B5 := below_drewN B3 nq
              have hsz5 : Wp.heap.size ≤ (wr.drewN nq).heap.size := hsz3
              clear hO c0 c1 B3 hsz3
              generalize wr.drewN nq = W5 at *
              have hO7 : W5.ownsRow Wp.heap.size 29 2 (.slice (some ⟨g, 0, none⟩) (o.length + 1) oc) (o.length + 1) ((o ++ [(q0, q1)]).flatMap encR) := by have := hO5; unfold OwnR at this; rwa [HLO.out] at this
              go_wp2_with (at_builtin; refine wpList_append_own _ rfl _ _ 22 rfl Wp.heap.size 29 i0 _ 2 16 Try.underlying22 hi hz0 hz1 hz2 rfl (by decide) _ _ _ rfl (World.ownsRow.alloc hO7 _) ⟨W5.heap.size, 0, none⟩ 1 1 (encR (s0, s1)) rfl rfl (cells2 _ _ _) (encR_one _) (by unfold maxLen; omega) (by omega) (by simp; omega) ?_)
              intro v' w2 hown' hgrow _
              obtain ⟨g', c', rfl⟩ := ownsRow_succ hown'
              have hO6 : OwnR Wp.heap.size (o ++ [(q0, q1)] ++ [(s0, s1)]) (.slice (some ⟨g', 0, none⟩) ((o ++ [(q0, q1)]).length + 1) c') w2 := OwnR.snoc (by rw [HLO.out, List.flatMap_append, List.flatMap_cons, List.flatMap_nil, List.append_nil, List.append_assoc]; exact hown')
              have B6 : Below Wp.heap.size Wp w2 := (B5.alloc hsz5 _).grown hgrow (by simp; omega) (fun k e => by exact (World.ownsRow.lt hO5 k e).1)
              have HO6 : Hid (OwnR Wp.heap.size (o ++ [(q0, q1)] ++ [(s0, s1)]) (.slice (some ⟨g', 0, none⟩) ((o ++ [(q0, q1)]).length + 1) c') w2) := hO6
              clear hown' hgrow hO5 B5 d0 d1 hO6
              go_wp2
              exact ⟨⟨k + 1, o ++ [(q0, q1)] ++ [(s0, s1)], by go_num, by omega, by simpa using HO6.out, HPP.out.1, HPP.out.2.1, HPP.out.2.2.1, HPP.out.2.2.2, B6⟩, by simp [intOf]; omega⟩
        · have HE : Hid (∀ x, hasL out x = hasL es x) := fun x => by rw [hHo, List.take_of_length_le (by omega), HF.out.2.1]
          obtain ⟨oo, oc, rfl, hOa, _⟩ := OwnR.at_ hO
          have hB : Below w.heap.size w wr := HB1.out.trans (B3.mono HB1.out.size)
          have hle2 : out.length ≤ es.countP nonE := by have := HF.out.2.2.1; omega
          have hok2 : ∀ r ∈ out, RgOk r := ok_of (b := []) (p := fun x _ => x) hFo rfl HE.out HF.out.2.2.2 (by simp)
          have HX : Hid (RgAt out oo wr ∧ Fit out ∧ (∀ r ∈ out, RgOk r) ∧ out.length ≤ es.countP nonE) := ⟨hOa, hFo, hok2, hle2⟩
          clear hO hOa hFo hHo hLe hok2 hSa
          go_wp2
          go_ret
          exact ⟨trivial, oo, oc, out, rfl, HX.out.1, hB, HX.out.2.1, HX.out.2.2.1, HE.out, HX.out.2.2.2⟩

set_option maxHeartbeats 400000 in
/-- Fit of the document: is it its own normal form? -/
theorem rfit_any (es : List Rg) (ao : Option Addr) (cap : Nat) (w : World) (hc : RgAt es ao w) (ho : ∀ r ∈ es, RgOk r) (hl : es.length ≤ 1000000) :
    Calls Try.prog 14 #[.slice ao es.length cap] w fun e w' => e = .returned (.bool (fitB (-1) es)) ∧ Below w.heap.size w w' := by
  go_enter Try.func14, Try.ntmps14
  go_wp2_with fail
  refine (rnorm_any es ao cap w hc ho hl).mono ?_
  rintro e w1 ⟨_, ro, rc, rs, rfl, h1, B1, h3, h4, h5, h6⟩
  have hll : rs.length ≤ 1000000 := by have := List.countP_le_length (p := nonE) (l := es); omega
  have hs := same_any es rs ao ro cap rc w1 (hc.next B1) h1 hl hll
  have heq : decide (es = rs) = fitB (-1) es := by
    rw [Bool.eq_iff_iff, decide_eq_true_eq, fitB_fit]
    exact ⟨fun h => by rw [h]; exact h3, fun h => fit_unique h h3 fun x => (h5 x).symm⟩
  rw [heq] at hs
  clear heq h1 h3 h4 h5 h6 hc ho
  go_wp2_with fail
  refine hs.mono ?_
  rintro e w2 ⟨rfl, hb⟩
  replace B1 := below_then B1 hb B1.size
  go_wp2
  go_ret
  exact ⟨rfl, B1⟩
end Go.Proofs.Ytdkgeeimhjffdaa
