/- Texts joined: RNext, RSeen, RRun, SeenMath. -/
import Derived.Test.YtdalomibilicfaaDSmall
import Derived.Test.YtdalomibilicfaaJDSeen
import Derived.Test.YtdalomibilicfaaJRFit
/- Machines in one state: the document's Next. -/
namespace Go.Proofs.Ytdalomibilicfaa
open Go.RowKit

set_option maxRecDepth 100000 in
set_option maxHeartbeats 1600000 in
theorem rnext_any (d : List Ds) (v : Value) (n : Nat) (c : Int) (w : World) (hl : SlD d v w) (hn : n < d.length) (h0 : 0 ≤ c) (h1 : c ≤ 255) :
    Calls Try.prog 27 #[.agg #[v], .int .i64 n, .int .u8 c] w fun e w' => e = .returned (.int .i64 (ledD d n c)) ∧ Below w.heap.size w w' := by
  have B0 := below_box w v 24
  have hl2 := hl.next B0
  obtain ⟨da, dc, rfl, _⟩ := hl
  obtain ⟨_, _, e0, hal, _, _, hlb⟩ := hl2
  cases e0
  obtain ⟨b2, o2, u, rfl, hb2, q0, q1, hA, _⟩ := hal.at (Below.refl _ _) hn
  have HV : Hid (ledD d n c = nextA d[n].arcs c) := by show _ = _; unfold ledD; rw [(arcsD_mem hn).1]
  have c0 : (w.alloc (Obj.cells #[.slice (some ⟨b2, o2, none⟩) d.length dc] 24)).cell? ⟨w.heap.size, 0, none⟩ = some (.slice (some ⟨b2, o2, none⟩) d.length dc) := by simp
  generalize d[n].arcs = l at *
  clear hal
  go_enter Try.func27, Try.ntmps27
  obtain ⟨xa, xc, rfl, hr, _, _, hxl⟩ := hA
  go_wp2_with fail
  generalize w.alloc (Obj.cells #[.slice (some ⟨b2, o2, none⟩) d.length dc] 24) = w0 at *
  go_loopw [8] (fun iv wr => ∃ (j : Nat), iv = .int .i64 j ∧ j ≤ l.length ∧ Hid (nextA l c = nextA (l.drop j) c) ∧ wr = w0) (fun i _ => l.length - (intOf i).toNat)
  case atStart => exact ⟨0, rfl, Nat.zero_le _, by show _ = _; simp, rfl⟩
  case round =>
  obtain ⟨j, rfl, hj, HF, rfl⟩ := hrel
  by_cases hlt : j < l.length
  case neg =>
    obtain rfl : j = l.length := by omega
    have HE : Hid (ledD d n c = -1) := by show _ = _; rw [HV.out, HF.out, List.drop_of_length_le (Nat.le_refl _)]; rfl
    have d0 : decide ((l.length : Int) < l.length) = false := decide_eq_false (by omega)
    clear HF HV hr
    go_wp2_with fail
    go_ret
    exact ⟨by rw [HE.out]; rfl, B0⟩
  have d0 : decide ((j : Int) < l.length) = true := decide_eq_true (by omega)
  obtain ⟨b3, o3, rfl, hb3, r0, r1, r2, _⟩ := hr.at (Below.refl _ _) hlt
  have HF2 : Hid (ledD d n c = if l[j].lo ≤ c ∧ c ≤ l[j].hi then l[j].tg else nextA (l.drop (j + 1)) c) := by
    show _ = _
    rw [HV.out, HF.out, List.drop_eq_getElem_cons hlt]
    unfold nextA
    by_cases h : l[j].lo ≤ c ∧ c ≤ l[j].hi
    · rw [arcOf, if_pos h, if_pos h]
    · rw [arcOf, if_neg h, if_neg h]
  have HF3 : Hid (¬ (l[j].lo ≤ c ∧ c ≤ l[j].hi) → nextA l c = nextA (l.drop (j + 1)) c) := fun h => by
    rw [HF.out, List.drop_eq_getElem_cons hlt]
    unfold nextA
    rw [arcOf, if_neg h]
  generalize l[j] = x at *
  obtain ⟨lo, hi, tg⟩ := x
  simp only at *
  clear HF hr
  by_cases h2 : lo ≤ c
  · have d2 : decide (lo ≤ c) = true := decide_eq_true h2
    by_cases h3 : c ≤ hi
    · have d3 : decide (c ≤ hi) = true := decide_eq_true h3
      have HE : Hid (ledD d n c = tg) := by show _ = _; rw [HF2.out, if_pos ⟨h2, h3⟩]
      clear HF2 HF3 HV
      go_wp2_with fail
      go_ret
      exact ⟨by rw [HE.out]; rfl, B0⟩
    · have d3 : decide (c ≤ hi) = false := decide_eq_false h3
      have HE : Hid (nextA l c = nextA (l.drop (j + 1)) c) := HF3.out (fun h => h3 h.2)
      clear HF2 HF3
      go_wp2_with fail
      exact ⟨⟨j + 1, by go_num, by omega, HE, trivial⟩, by simp [intOf]; omega⟩
  · have d2 : decide (lo ≤ c) = false := decide_eq_false h2
    have HE : Hid (nextA l c = nextA (l.drop (j + 1)) c) := HF3.out (fun h => h2 h.1)
    clear HF2 HF3
    go_wp2_with fail
    exact ⟨⟨j + 1, by go_num, by omega, HE, trivial⟩, by simp [intOf]; omega⟩
end Go.Proofs.Ytdalomibilicfaa
/- Machines in one state: the document's Seen. -/
namespace Go.Proofs.Ytdalomibilicfaa
open Go.RowKit Go.Shelf

theorem led_in {d : List Ds} (f : fitD d) {q : Nat} (hq : q < d.length) (c : Int) (h : 0 ≤ ledD d q c) : ∃ k : Nat, ledD d q c = k ∧ k < d.length := by
  unfold ledD nextA at h ⊢
  cases hx : arcOf (arcsD d q) c with
  | none => rw [hx] at h; simp at h
  | some x =>
    have := (f.at hq).2 x (arcOf_mem hx).1
    exact ⟨x.tg.toNat, by simp only; omega, by omega⟩
def seenR (d : List Ds) : Int → Nat → List Int → Int
  | _, k, [] => k
  | q, k, c :: w => if ledD d q c < 0 then k + 1 else seenR d (ledD d q c) (k + 1) w
theorem fold_last {L : List (Int × Int)} (h : L ≠ []) (a b : Int) : L.foldl (fun _ x => x.1) a = L.foldl (fun _ x => x.1) b := by
  cases L with
  | nil => exact absurd rfl h
  | cons x L => rfl
theorem isD_nat {d : List Ds} {q : Nat} (h : q < d.length) : isD d q = true := by unfold isD; exact decide_eq_true ⟨by omega, by omega⟩
theorem isD_neg {d : List Ds} {q : Int} (h : q < 0) : isD d q = false := by unfold isD; exact decide_eq_false (by omega)
theorem seenR_eq {d : List Ds} (f : fitD d) : ∀ (w : List Int) (q : Nat) (k : Nat), q < d.length → (if farL (alongL d q k w) + 1 ≤ k + w.length then farL (alongL d q k w) + 1 else ((k + w.length : Nat) : Int)) = seenR d q k w
  | [], q, k, hq => by
    unfold alongL seenR farL
    rw [if_pos (isD_nat hq)]
    simp
    intro _; omega
  | c :: w, q, k, hq => by
    unfold alongL seenR
    rw [if_pos (isD_nat hq)]
    by_cases h : ledD d q c < 0
    · rw [if_pos h, alongL_none (isD_neg h)]
      unfold farL
      simp
      intro _; omega
    · rw [if_neg h]
      obtain ⟨r, hr, hr2⟩ := led_in f hq c (by omega)
      rw [hr]
      have ih := seenR_eq f w r (k + 1) hr2
      obtain ⟨t, ht⟩ := alongL_head (isD_nat hr2) (k + 1) w
      have e : farL (((k : Int), (q : Int)) :: alongL d r (k + 1) w) = farL (alongL d r (k + 1) w) := by
        unfold farL
        rw [List.foldl_cons]
        exact fold_last (by rw [ht]; simp) _ _
      rw [e, ← ih, List.length_cons]
      have e2 : ((k + (w.length + 1) : Nat) : Int) = ((k + 1 + w.length : Nat) : Int) := by omega
      simp only [e2]
      have e3 : ((k : Int) + ((w.length + 1 : Nat) : Int)) = (((k + 1 : Nat) : Int) + w.length) := by omega
      rw [e3]
theorem seenD_eq {d : List Ds} (f : fitD d) (w : List Int) : seenD d w = seenR d 0 0 w := by
  have h : 0 < d.length := List.length_pos_iff.2 f.some
  have := seenR_eq f w 0 0 h
  unfold seenD
  simpa using this

set_option maxRecDepth 100000 in
set_option maxHeartbeats 1600000 in
theorem rseen_any (d : List Ds) (v : Value) (s : ByteArray) (w : World) (hl : SlD d v w) (hf : fitD d) (hs : s.size ≤ 1000000) :
    Calls Try.prog 17 #[.agg #[v], .string s] w fun e w' => e = .returned (.int .i64 (seenD d (bsZ s))) ∧ Below w.heap.size w w' := by
  have HQ : Hid (seenD d (bsZ s) = seenR d 0 0 (bsZ s)) := seenD_eq hf _
  have HFI : Hid (fitD d) := hf
  have hpos : 0 < d.length := List.length_pos_iff.2 hf.some
  have HL : Hid (∀ W, Below w.heap.size w W → SlD d v W) := fun W hb => hl.next hb
  obtain ⟨la, lc, rfl, _, _, _, hlb⟩ := hl
  have B0 := below_box w (.slice la d.length lc) 24
  have b0 : (w.alloc (Obj.cells #[.slice la d.length lc] 24)).heap[w.heap.size]? = some (Obj.cells #[.slice la d.length lc] 24) := heap_alloc_new _ _
  rw [HQ.out]
  clear HQ hf
  go_enter Try.func17, Try.ntmps17
  go_wp2_with fail
  generalize w.alloc (Obj.cells #[.slice la d.length lc] 24) = w0 at *
  have hz := blk_lt b0
  have HT : Hid (∀ W, Below w0.heap.size w0 W → W.cell? ⟨w.heap.size, 0, none⟩ = some (.slice la d.length lc) ∧ SlD d (.slice la d.length lc) W ∧ Below w.heap.size w W) := fun W hW => ⟨(hW.cell (p := ⟨w.heap.size, 0, none⟩) hz).trans (by rw [Lib.cell_of_heap b0]; rfl), HL.out W (B0.trans (hW.mono B0.size)), B0.trans (hW.mono B0.size)⟩
  clear B0 b0 HL
  go_loopw [5, 6] (fun qv kv wr => ∃ (q j : Nat), qv = .int .i64 q ∧ kv = .int .i64 j ∧ j ≤ s.size ∧ q < d.length ∧ Hid (seenR d 0 0 (bsZ s) = seenR d q j ((bsZ s).drop j)) ∧ Below w0.heap.size w0 wr) (fun _ k _ => s.size - (intOf k).toNat)
  case atStart => exact ⟨0, 0, rfl, rfl, Nat.zero_le _, hpos, by show _ = _; simp, Below.refl _ _⟩
  case round =>
  obtain ⟨q, j, rfl, rfl, hj, hq, HX, BR⟩ := hrel
  obtain ⟨c0, hsl, QB⟩ := HT.out wr BR
  by_cases hjs : j < s.size
  case neg =>
    obtain rfl : j = s.size := by omega
    have HE : Hid (seenR d 0 0 (bsZ s) = s.size) := by show _ = _; rw [HX.out, List.drop_of_length_le (by rw [bsZ_len]; omega)]; rfl
    have d0 : decide ((s.size : Int) < s.size) = false := decide_eq_false (by omega)
    clear HX HT hsl HFI
    go_wp2_with fail
    go_ret
    exact ⟨by rw [HE.out]; rfl, QB⟩
  have d0 : decide ((j : Int) < s.size) = true := decide_eq_true (by omega)
  obtain ⟨c, hc⟩ : ∃ c : Int, (bsZ s)[j]? = some c := ⟨_, List.getElem?_eq_getElem (by rw [bsZ_len]; exact hjs)⟩
  have hcb : 0 ≤ c ∧ c ≤ 255 := bsZ_byte hc
  have i0 : ∀ W, (Instr.index 9 (.string s) (.int .i64 (j : Int))).run Try.prog W = .ok (.int .u8 c) W := fun W => by
    rw [run_index_string W _ _ _ _ Try.underlying9, dif_pos ⟨by omega, by omega⟩]
    unfold bsZ at hc
    rw [List.getElem?_map, List.getElem?_eq_getElem (show j < s.data.toList.length by rw [Array.length_toList]; exact hjs)] at hc
    simp only [Option.map_some, Option.some.injEq] at hc
    subst hc; rfl
  have HX2 : Hid (seenR d 0 0 (bsZ s) = if ledD d q c < 0 then (j : Int) + 1 else seenR d (ledD d q c) (j + 1) ((bsZ s).drop (j + 1))) := by
    show _ = _
    have hj' : j < (bsZ s).length := by rw [bsZ_len]; exact hjs
    rw [List.getElem?_eq_getElem hj'] at hc
    rw [HX.out, List.drop_eq_getElem_cons hj', Option.some.inj hc, seenR]
  have HLI : Hid (0 ≤ ledD d q c → ∃ k : Nat, ledD d q c = k ∧ k < d.length) := led_in HFI.out hq c
  have HBD : Hid (Below wr.heap.size wr wr.drew) := below_drewN (Below.refl _ _) 1
  have HC := rnext_any d (.slice la d.length lc) q c wr.drew (hsl.next HBD.out) hq hcb.1 hcb.2
  have HS1 : Hid (∀ V, Below wr.heap.size wr V → V.cell? ⟨w.heap.size, 0, none⟩ = some (.slice la d.length lc) ∧ Below w0.heap.size w0 V ∧ Below w.heap.size w V) := fun V hV => ⟨(hV.cell (p := ⟨w.heap.size, 0, none⟩) (World.block_lt_of_cell? _ _ c0)).trans c0, BR.trans (hV.mono BR.size), QB.trans (hV.mono QB.size)⟩
  clear HX hc HT hsl HFI
  generalize ledD d q c = r at *
  go_upto_region 5 with fail
  have HS : wr.drew.cell? ⟨w.heap.size, 0, none⟩ = some (.slice la d.length lc) := c0
  clear c0 BR QB
  refine wp_region_L (fun W => W.cell? ⟨w.heap.size, 0, none⟩ = some (.slice la d.length lc)) 7 (by kernel_rfl) 7 rfl ?_
  refine wpAnyL_take' (i := 0) (v := ?_) (oi := { dst := some 13, op := Op.load 24 (Operand.tmp 2), type := 24, pos := "ref.go:245", after := #[], guard := none }) rfl (by kernel_rfl) (by kernel_rfl) (by kernel_rfl) (by kernel_rfl) rfl (fun _ _ _ h => h) (Or.inl ⟨by rfl, ?_⟩) HS ?_
  rotate_left
  · intro W hSW
    go_simp
    try with_reducible rfl
  simp only [Act.put, List.setIfInBounds_toArray, List.set_cons_zero, List.set_cons_succ]
  refine wpAnyL_take' (i := 1) (v := ?_) (oi := { dst := some 14, op := Op.move (Operand.tmp 5), type := 3, pos := "ref.go:245", after := #[], guard := none }) rfl (by kernel_rfl) (by kernel_rfl) (by kernel_rfl) (by kernel_rfl) rfl (fun _ _ _ h => h) (Or.inl ⟨by rfl, ?_⟩) HS ?_
  rotate_left
  · intro W hSW
    go_simp
    try with_reducible rfl
  simp only [Act.put, List.setIfInBounds_toArray, List.set_cons_zero, List.set_cons_succ]
  refine wpAnyL_take' (i := 2) (v := ?_) (oi := { dst := some 15, op := Op.move (Operand.tmp 1), type := 9, pos := "ref.go:245", after := #[], guard := none }) rfl (by kernel_rfl) (by kernel_rfl) (by kernel_rfl) (by kernel_rfl) rfl (fun _ _ _ h => h) (Or.inl ⟨by rfl, ?_⟩) HS ?_
  rotate_left
  · intro W hSW
    go_simp
    try with_reducible rfl
  simp only [Act.put, List.setIfInBounds_toArray, List.set_cons_zero, List.set_cons_succ]
  refine wpAnyL_take' (i := 3) (v := ?_) (oi := { dst := some 16, op := Op.move (Operand.tmp 6), type := 3, pos := "ref.go:245", after := #[], guard := none }) rfl (by kernel_rfl) (by kernel_rfl) (by kernel_rfl) (by kernel_rfl) rfl (fun _ _ _ h => h) (Or.inl ⟨by rfl, ?_⟩) HS ?_
  rotate_left
  · intro W hSW
    go_simp
    try with_reducible rfl
  simp only [Act.put, List.setIfInBounds_toArray, List.set_cons_zero, List.set_cons_succ]
  refine wpAnyL_take' (i := 4) (v := ?_) (oi := { dst := some 17, op := Op.index 9 (Operand.tmp 15) (Operand.tmp 16), type := 5, pos := "ref.go:245", after := #[{ on := 2, ground := Ground.data }, { on := 3, ground := Ground.data }], guard := none }) rfl (by kernel_rfl) (by kernel_rfl) (by kernel_rfl) (by kernel_rfl) rfl (fun _ _ _ h => h) (Or.inl ⟨by rfl, ?_⟩) HS ?_
  rotate_left
  · intro W hSW
    go_simp
    try with_reducible rfl
  simp only [Act.put, List.setIfInBounds_toArray, List.set_cons_zero, List.set_cons_succ]
  refine wpAnyL_one' (i := 5) (o := { dst := some 18, op := Op.call { callee := Callee.value (Operand.func 27), args := #[Operand.tmp 13, Operand.tmp 14, Operand.tmp 17], argTypes := #[24, 3, 5] }, type := 3, pos := "ref.go:245", after := #[{ on := 0, ground := Ground.data }, { on := 1, ground := Ground.data }, { on := 4, ground := Ground.data }], guard := none }) (by kernel_rfl) rfl rfl (fun K hK => ?_)
  go_simp
  refine (HC).mono ?_
  rintro e w4 ⟨rfl, hb4⟩
  refine hK.out _ _ (fun _ => (HS1.out _ (HBD.out.trans (hb4.mono HBD.out.size))).1) ?_
  clear hK
  obtain ⟨HS2, B4, Q4⟩ := HS1.out _ (HBD.out.trans (hb4.mono HBD.out.size))
  clear HS hb4 HS1 HBD HC
  refine wpAnyL_take' (i := 6) (v := ?_) (oi := { dst := some 5, op := Op.assign (Operand.tmp 18), type := 3, pos := "ref.go:245", after := #[{ on := 5, ground := Ground.data }, { on := 5, ground := Ground.chain }, { on := 0, ground := Ground.phase }, { on := 1, ground := Ground.phase }, { on := 2, ground := Ground.phase }, { on := 3, ground := Ground.phase }, { on := 4, ground := Ground.phase }, { on := 5, ground := Ground.phase }], guard := none }) rfl (by kernel_rfl) (by kernel_rfl) (by kernel_rfl) (by kernel_rfl) rfl (fun _ _ _ h => h) (Or.inl ⟨by rfl, ?_⟩) HS2 ?_
  rotate_left
  · intro W hSW
    go_simp
    try with_reducible rfl
  simp only [Act.put, List.setIfInBounds_toArray, List.set_cons_zero, List.set_cons_succ]
  refine wpAnyL_done (by kernel_rfl) ?_ _
  by_cases hr : r < 0
  · have d1 : decide (r < 0) = true := decide_eq_true hr
    have HE : Hid (seenR d 0 0 (bsZ s) = (j : Int) + 1) := by show _ = _; rw [HX2.out, if_pos hr]
    clear HX2 HLI
    go_wp2_with fail
    go_ret
    exact ⟨by rw [HE.out]; rfl, Q4⟩
  · have d1 : decide (r < 0) = false := decide_eq_false hr
    obtain ⟨k, rfl, hk⟩ := HLI.out (by omega)
    have HE : Hid (seenR d 0 0 (bsZ s) = seenR d k (j + 1) ((bsZ s).drop (j + 1))) := by show _ = _; rw [HX2.out, if_neg hr]
    clear HX2 HLI
    go_wp2_with fail
    exact ⟨⟨k, j + 1, rfl, by go_num, by omega, hk, HE, B4⟩, by simp [intOf]; omega⟩
end Go.Proofs.Ytdalomibilicfaa
/- Machines in one state: the document's Run. -/
namespace Go.Proofs.Ytdalomibilicfaa
open Go.RowKit Go.Shelf

def runR (d : List Ds) : Int → Nat → Int × Int → List Int → Int × Int
  | _, _, p, [] => p
  | q, k, p, c :: w => if ledD d q c < 0 then p else runR d (ledD d q c) (k + 1) (if accD d (ledD d q c) ≥ 0 then ((k : Int) + 1, accD d (ledD d q c)) else p) w
theorem acc_ge {d : List Ds} (f : fitD d) {q : Nat} (hq : q < d.length) : -1 ≤ accD d q := by
  rw [(arcsD_mem hq).2]; exact f.acc _ (List.getElem_mem hq)
theorem runR_eq {d : List Ds} (f : fitD d) : ∀ (w : List Int) (q : Nat) (k : Nat) (p : Int × Int), q < d.length → ∃ t, alongL d q k w = ((k : Int), (q : Int)) :: t ∧ t.foldl (stepR d) p = runR d q k p w
  | [], q, k, p, hq => ⟨[], by unfold alongL; rw [if_pos (isD_nat hq)], rfl⟩
  | c :: w, q, k, p, hq => by
    refine ⟨alongL d (ledD d q c) (k + 1) w, by rw [alongL, if_pos (isD_nat hq)], ?_⟩
    unfold runR
    by_cases h : ledD d q c < 0
    · rw [if_pos h, alongL_none (isD_neg h)]; rfl
    · rw [if_neg h]
      obtain ⟨r, hr, hr2⟩ := led_in f hq c (by omega)
      rw [hr]
      obtain ⟨t, ht, ih⟩ := runR_eq f w r (k + 1) (if accD d r ≥ 0 then ((k : Int) + 1, accD d r) else p) hr2
      rw [ht, List.foldl_cons, ← ih]
      congr 1
      have := acc_ge f hr2
      unfold stepR
      by_cases ha : accD d r = -1
      · rw [if_pos ha, if_neg (by omega)]
      · rw [if_neg ha, if_pos (by omega)]
        simp
theorem runD_eq {d : List Ds} (f : fitD d) (w : List Int) : runD d w = runR d 0 0 (0, accD d 0) w := by
  have h : 0 < d.length := List.length_pos_iff.2 f.some
  obtain ⟨t, ht, ih⟩ := runR_eq f w 0 0 (0, accD d 0) h
  unfold runD runL
  have e : alongL d 0 0 w = ((0 : Int), (0 : Int)) :: t := by simpa using ht
  rw [e, List.foldl_cons]
  have e2 : stepR d (0, -1) ((0 : Int), (0 : Int)) = (0, accD d 0) := by
    unfold stepR
    by_cases ha : accD d 0 = -1
    · rw [if_pos ha, ha]
    · rw [if_neg ha]
  rw [e2]
  simpa using ih

set_option maxRecDepth 100000 in
set_option maxHeartbeats 1600000 in
theorem rrun_any (d : List Ds) (v : Value) (s : ByteArray) (w : World) (hl : SlD d v w) (hf : fitD d) (hs : s.size ≤ 1000000) :
    Calls Try.prog 11 #[.agg #[v], .string s] w fun e w' => e = .returned (.tuple #[.int .i64 (runD d (bsZ s)).1, .int .i64 (runD d (bsZ s)).2]) ∧ Below w.heap.size w w' := by
  have HQ : Hid (runD d (bsZ s) = runR d 0 0 (0, accD d 0) (bsZ s)) := runD_eq hf _
  have HFI : Hid (fitD d) := hf
  have hpos : 0 < d.length := List.length_pos_iff.2 hf.some
  have HL : Hid (∀ W, Below w.heap.size w W → SlD d v W) := fun W hb => hl.next hb
  have hl1 := hl.next (below_box w v 24)
  obtain ⟨la, lc, rfl, _, _, _, hlb⟩ := hl
  have B0 := below_box w (.slice la d.length lc) 24
  have b0 : (w.alloc (Obj.cells #[.slice la d.length lc] 24)).heap[w.heap.size]? = some (Obj.cells #[.slice la d.length lc] 24) := heap_alloc_new _ _
  have c00 : (w.alloc (Obj.cells #[.slice la d.length lc] 24)).cell? ⟨w.heap.size, 0, none⟩ = some (.slice la d.length lc) := by simp
  obtain ⟨_, _, e0, hal0, _⟩ := hl1
  cases e0
  obtain ⟨b1, o1, u1, rfl, hb1, _, z1, _⟩ := hal0.at (Below.refl _ _) hpos
  have HA0 : Hid (accD d 0 = d[0].acc) := (arcsD_mem hpos).2
  rw [HQ.out, HA0.out]
  generalize d[0].acc = a0 at *
  clear HQ hf hal0
  rw [Nat.zero_mul, Nat.add_zero] at z1
  go_enter Try.func11, Try.ntmps11
  go_wp2_with fail
  generalize w.alloc (Obj.cells #[.slice (some ⟨b1, o1, none⟩) d.length lc] 24) = w0 at *
  have hz := blk_lt b0
  have HT : Hid (∀ W, Below w0.heap.size w0 W → W.cell? ⟨w.heap.size, 0, none⟩ = some (.slice (some ⟨b1, o1, none⟩) d.length lc) ∧ SlD d (.slice (some ⟨b1, o1, none⟩) d.length lc) W ∧ Below w.heap.size w W) := fun W hW => ⟨(hW.cell (p := ⟨w.heap.size, 0, none⟩) hz).trans (by rw [Lib.cell_of_heap b0]; rfl), HL.out W (B0.trans (hW.mono B0.size)), B0.trans (hW.mono B0.size)⟩
  clear B0 b0 HL c00 z1 HA0
  go_loopw [6, 7, 8, 9] (fun qv nv av kv wr => ∃ (q j : Nat) (p : Int × Int), qv = .int .i64 q ∧ nv = .int .i64 p.1 ∧ av = .int .i64 p.2 ∧ kv = .int .i64 j ∧ j ≤ s.size ∧ q < d.length ∧ Hid (runR d 0 0 (0, a0) (bsZ s) = runR d q j p ((bsZ s).drop j)) ∧ Below w0.heap.size w0 wr) (fun _ _ _ k _ => s.size - (intOf k).toNat)
  case atStart => exact ⟨0, 0, (0, a0), rfl, rfl, rfl, rfl, Nat.zero_le _, hpos, by show _ = _; simp, Below.refl _ _⟩
  case round =>
  obtain ⟨q, j, ⟨p1, p2⟩, rfl, rfl, rfl, rfl, hj, hq, HX, BR⟩ := hrel
  simp only at *
  obtain ⟨c0, hsl, QB⟩ := HT.out wr BR
  by_cases hjs : j < s.size
  case neg =>
    obtain rfl : j = s.size := by omega
    have HE : Hid (runR d 0 0 (0, a0) (bsZ s) = (p1, p2)) := by show _ = _; rw [HX.out, List.drop_of_length_le (by rw [bsZ_len]; omega)]; rfl
    have d0 : decide ((s.size : Int) < s.size) = false := decide_eq_false (by omega)
    clear HX HT hsl HFI
    go_wp2_with fail
    go_ret2
    exact ⟨by rw [HE.out]; rfl, QB⟩
  have d0 : decide ((j : Int) < s.size) = true := decide_eq_true (by omega)
  obtain ⟨c, hc⟩ : ∃ c : Int, (bsZ s)[j]? = some c := ⟨_, List.getElem?_eq_getElem (by rw [bsZ_len]; exact hjs)⟩
  have hcb : 0 ≤ c ∧ c ≤ 255 := bsZ_byte hc
  have i0 : ∀ W, (Instr.index 9 (.string s) (.int .i64 (j : Int))).run Try.prog W = .ok (.int .u8 c) W := fun W => by
    rw [run_index_string W _ _ _ _ Try.underlying9, dif_pos ⟨by omega, by omega⟩]
    unfold bsZ at hc
    rw [List.getElem?_map, List.getElem?_eq_getElem (show j < s.data.toList.length by rw [Array.length_toList]; exact hjs)] at hc
    simp only [Option.map_some, Option.some.injEq] at hc
    subst hc; rfl
  have HX2 : Hid (runR d 0 0 (0, a0) (bsZ s) = if ledD d q c < 0 then (p1, p2) else runR d (ledD d q c) (j + 1) (if accD d (ledD d q c) ≥ 0 then ((j : Int) + 1, accD d (ledD d q c)) else (p1, p2)) ((bsZ s).drop (j + 1))) := by
    show _ = _
    have hj' : j < (bsZ s).length := by rw [bsZ_len]; exact hjs
    rw [List.getElem?_eq_getElem hj'] at hc
    rw [HX.out, List.drop_eq_getElem_cons hj', Option.some.inj hc, runR]
  have HLI : Hid (0 ≤ ledD d q c → ∃ k : Nat, ledD d q c = k ∧ k < d.length) := led_in HFI.out hq c
  have HBD : Hid (Below wr.heap.size wr wr.drew) := below_drewN (Below.refl _ _) 1
  have HC := rnext_any d (.slice (some ⟨b1, o1, none⟩) d.length lc) q c wr.drew (hsl.next HBD.out) hq hcb.1 hcb.2
  have HS1 : Hid (∀ V, Below wr.heap.size wr V → V.cell? ⟨w.heap.size, 0, none⟩ = some (.slice (some ⟨b1, o1, none⟩) d.length lc) ∧ Below w0.heap.size w0 V ∧ Below w.heap.size w V ∧ SlD d (.slice (some ⟨b1, o1, none⟩) d.length lc) V) := fun V hV => ⟨(hV.cell (p := ⟨w.heap.size, 0, none⟩) (World.block_lt_of_cell? _ _ c0)).trans c0, BR.trans (hV.mono BR.size), QB.trans (hV.mono QB.size), hsl.next hV⟩
  clear HX hc HT HFI hsl
  generalize ledD d q c = r at *
  go_upto_region 7 with fail
  have HS : wr.drew.cell? ⟨w.heap.size, 0, none⟩ = some (.slice (some ⟨b1, o1, none⟩) d.length lc) := c0
  clear c0 BR QB
  refine wp_region_L (fun W => W.cell? ⟨w.heap.size, 0, none⟩ = some (.slice (some ⟨b1, o1, none⟩) d.length lc)) 7 (by kernel_rfl) 7 rfl ?_
  refine wpAnyL_take' (i := 0) (v := ?_) (oi := { dst := some 21, op := Op.load 24 (Operand.tmp 2), type := 24, pos := "ref.go:229", after := #[], guard := none }) rfl (by kernel_rfl) (by kernel_rfl) (by kernel_rfl) (by kernel_rfl) rfl (fun _ _ _ h => h) (Or.inl ⟨by rfl, ?_⟩) HS ?_
  rotate_left
  · intro W hSW
    go_simp
    try with_reducible rfl
  simp only [Act.put, List.setIfInBounds_toArray, List.set_cons_zero, List.set_cons_succ]
  refine wpAnyL_take' (i := 1) (v := ?_) (oi := { dst := some 22, op := Op.move (Operand.tmp 6), type := 3, pos := "ref.go:229", after := #[], guard := none }) rfl (by kernel_rfl) (by kernel_rfl) (by kernel_rfl) (by kernel_rfl) rfl (fun _ _ _ h => h) (Or.inl ⟨by rfl, ?_⟩) HS ?_
  rotate_left
  · intro W hSW
    go_simp
    try with_reducible rfl
  simp only [Act.put, List.setIfInBounds_toArray, List.set_cons_zero, List.set_cons_succ]
  refine wpAnyL_take' (i := 2) (v := ?_) (oi := { dst := some 23, op := Op.move (Operand.tmp 1), type := 9, pos := "ref.go:229", after := #[], guard := none }) rfl (by kernel_rfl) (by kernel_rfl) (by kernel_rfl) (by kernel_rfl) rfl (fun _ _ _ h => h) (Or.inl ⟨by rfl, ?_⟩) HS ?_
  rotate_left
  · intro W hSW
    go_simp
    try with_reducible rfl
  simp only [Act.put, List.setIfInBounds_toArray, List.set_cons_zero, List.set_cons_succ]
  refine wpAnyL_take' (i := 3) (v := ?_) (oi := { dst := some 24, op := Op.move (Operand.tmp 9), type := 3, pos := "ref.go:229", after := #[], guard := none }) rfl (by kernel_rfl) (by kernel_rfl) (by kernel_rfl) (by kernel_rfl) rfl (fun _ _ _ h => h) (Or.inl ⟨by rfl, ?_⟩) HS ?_
  rotate_left
  · intro W hSW
    go_simp
    try with_reducible rfl
  simp only [Act.put, List.setIfInBounds_toArray, List.set_cons_zero, List.set_cons_succ]
  refine wpAnyL_take' (i := 4) (v := ?_) (oi := { dst := some 25, op := Op.index 9 (Operand.tmp 23) (Operand.tmp 24), type := 5, pos := "ref.go:229", after := #[{ on := 2, ground := Ground.data }, { on := 3, ground := Ground.data }], guard := none }) rfl (by kernel_rfl) (by kernel_rfl) (by kernel_rfl) (by kernel_rfl) rfl (fun _ _ _ h => h) (Or.inl ⟨by rfl, ?_⟩) HS ?_
  rotate_left
  · intro W hSW
    go_simp
    try with_reducible rfl
  simp only [Act.put, List.setIfInBounds_toArray, List.set_cons_zero, List.set_cons_succ]
  refine wpAnyL_one' (i := 5) (o := { dst := some 26, op := Op.call { callee := Callee.value (Operand.func 27), args := #[Operand.tmp 21, Operand.tmp 22, Operand.tmp 25], argTypes := #[24, 3, 5] }, type := 3, pos := "ref.go:229", after := #[{ on := 0, ground := Ground.data }, { on := 1, ground := Ground.data }, { on := 4, ground := Ground.data }], guard := none }) (by kernel_rfl) rfl rfl (fun K hK => ?_)
  go_simp
  refine (HC).mono ?_
  rintro e w4 ⟨rfl, hb4⟩
  refine hK.out _ _ (fun _ => (HS1.out _ (HBD.out.trans (hb4.mono HBD.out.size))).1) ?_
  clear hK
  obtain ⟨HS2, B4, Q4, ⟨_, _, e4, hal4, _⟩⟩ := HS1.out _ (HBD.out.trans (hb4.mono HBD.out.size))
  cases e4
  clear HS hb4 HS1 HBD HC
  refine wpAnyL_take' (i := 6) (v := ?_) (oi := { dst := some 6, op := Op.assign (Operand.tmp 26), type := 3, pos := "ref.go:229", after := #[{ on := 5, ground := Ground.data }, { on := 5, ground := Ground.chain }, { on := 0, ground := Ground.phase }, { on := 1, ground := Ground.phase }, { on := 2, ground := Ground.phase }, { on := 3, ground := Ground.phase }, { on := 4, ground := Ground.phase }, { on := 5, ground := Ground.phase }], guard := none }) rfl (by kernel_rfl) (by kernel_rfl) (by kernel_rfl) (by kernel_rfl) rfl (fun _ _ _ h => h) (Or.inl ⟨by rfl, ?_⟩) HS2 ?_
  rotate_left
  · intro W hSW
    go_simp
    try with_reducible rfl
  simp only [Act.put, List.setIfInBounds_toArray, List.set_cons_zero, List.set_cons_succ]
  refine wpAnyL_done (by kernel_rfl) ?_ _
  by_cases hr : r < 0
  · have d1 : decide (r < 0) = true := decide_eq_true hr
    have HE : Hid (runR d 0 0 (0, a0) (bsZ s) = (p1, p2)) := by show _ = _; rw [HX2.out, if_pos hr]
    clear HX2 HLI hal4
    go_wp2_with fail
    go_ret2
    exact ⟨by rw [HE.out]; rfl, Q4⟩
  · have d1 : decide (r < 0) = false := decide_eq_false hr
    obtain ⟨k, rfl, hk⟩ := HLI.out (by omega)
    obtain ⟨_, _, u2, e5, hb5, _, y1, _⟩ := hal4.at (Below.refl _ _) hk
    cases e5
    have HAC : Hid (accD d k = d[k].acc) := (arcsD_mem hk).2
    have HX3 : Hid (runR d 0 0 (0, a0) (bsZ s) = runR d k (j + 1) (if d[k].acc ≥ 0 then ((j : Int) + 1, d[k].acc) else (p1, p2)) ((bsZ s).drop (j + 1))) := by show _ = _; rw [HX2.out, if_neg hr, HAC.out]
    generalize d[k].acc = ak at *
    clear HX2 HLI hal4 HAC
    by_cases ha : ak ≥ 0
    · have d2 : decide (ak ≥ 0) = true := decide_eq_true ha
      have HE : Hid (runR d 0 0 (0, a0) (bsZ s) = runR d k (j + 1) ((j : Int) + 1, ak) ((bsZ s).drop (j + 1))) := by show _ = _; rw [HX3.out, if_pos ha]
      clear HX3
      go_wp2_with fail
      exact ⟨⟨k, j + 1, (((j : Int) + 1), ak), rfl, rfl, rfl, by go_num, by omega, hk, HE, B4⟩, by simp [intOf]; omega⟩
    · have d2 : decide (ak ≥ 0) = false := decide_eq_false ha
      have HE : Hid (runR d 0 0 (0, a0) (bsZ s) = runR d k (j + 1) (p1, p2) ((bsZ s).drop (j + 1))) := by show _ = _; rw [HX3.out, if_neg ha]
      clear HX3
      go_wp2_with fail
      exact ⟨⟨k, j + 1, (p1, p2), rfl, rfl, rfl, by go_num, by omega, hk, HE, B4⟩, by simp [intOf]; omega⟩
end Go.Proofs.Ytdalomibilicfaa
/- Machines in one state: what stands behind what is looked at plays no part. -/
namespace Go.Proofs.Ytdalomibilicfaa
open Go.RowKit Go.Shelf

def diesR (d : List Ds) : Int → List Int → Bool
  | _, [] => false
  | q, c :: w => decide (ledD d q c < 0) || diesR d (ledD d q c) w
theorem seenR_ge (d : List Ds) : ∀ (w : List Int) (q : Int) (k : Nat), (k : Int) ≤ seenR d q k w ∧ seenR d q k w ≤ k + w.length
  | [], q, k => by unfold seenR; simp
  | c :: w, q, k => by
    unfold seenR
    have := seenR_ge d w (ledD d q c) (k + 1)
    rw [List.length_cons]
    split <;> omega
theorem seenR_live (d : List Ds) : ∀ (w : List Int) (q : Int) (k : Nat) (c : Int), diesR d q w = false → seenR d q k w = k + w.length ∧ seenR d q k (w ++ [c]) = k + w.length + 1
  | [], q, k, c, _ => by simp [seenR]
  | x :: w, q, k, c, h => by
    unfold diesR at h
    simp only [Bool.or_eq_false_iff, decide_eq_false_iff_not] at h
    have ih := seenR_live d w (ledD d q x) (k + 1) c h.2
    rw [List.cons_append, seenR, seenR, if_neg h.1, if_neg h.1, ih.1, ih.2, List.length_cons]
    constructor <;> omega
theorem runR_take (d : List Ds) : ∀ (w : List Int) (q : Int) (k : Nat) (p : Int × Int), runR d q k p (w.take (seenR d q k w - k).toNat) = runR d q k p w
  | [], q, k, p => by simp
  | c :: w, q, k, p => by
    by_cases h : ledD d q c < 0
    · rw [seenR, if_pos h, show (((k : Int) + 1 - k).toNat) = 1 by omega, List.take_succ_cons, runR, if_pos h, runR, if_pos h]
    · have g := seenR_ge d w (ledD d q c) (k + 1)
      rw [seenR, if_neg h, show ((seenR d (ledD d q c) (k + 1) w - k).toNat) = (seenR d (ledD d q c) (k + 1) w - ((k + 1 : Nat) : Int)).toNat + 1 by omega, List.take_succ_cons, runR, if_neg h, runR, if_neg h, runR_take d w _ (k + 1)]
theorem runR_app (d : List Ds) (t : List Int) : ∀ (w : List Int) (q : Int) (k : Nat) (p : Int × Int), diesR d q w = true → runR d q k p (w.take (seenR d q k w - k).toNat ++ t) = runR d q k p w
  | [], q, k, p, h => by simp [diesR] at h
  | c :: w, q, k, p, hd => by
    by_cases h : ledD d q c < 0
    · rw [seenR, if_pos h, show (((k : Int) + 1 - k).toNat) = 1 by omega, List.take_succ_cons, List.cons_append, runR, if_pos h, runR, if_pos h]
    · have g := seenR_ge d w (ledD d q c) (k + 1)
      unfold diesR at hd
      rw [decide_eq_false h, Bool.false_or] at hd
      rw [seenR, if_neg h, show ((seenR d (ledD d q c) (k + 1) w - k).toNat) = (seenR d (ledD d q c) (k + 1) w - ((k + 1 : Nat) : Int)).toNat + 1 by omega, List.take_succ_cons, List.cons_append, runR, if_neg h, runR, if_neg h, runR_app d t w _ (k + 1) _ hd]
/-- How many are looked at; those alone tell how far. -/
theorem seenD_le {d : List Ds} (f : fitD d) (w : List Int) : 0 ≤ seenD d w ∧ seenD d w ≤ w.length := by
  rw [seenD_eq f]
  have := seenR_ge d w 0 0
  omega
theorem runD_take {d : List Ds} (f : fitD d) (w : List Int) : runD d (w.take (seenD d w).toNat) = runD d w := by
  rw [runD_eq f, runD_eq f, seenD_eq f]
  have := runR_take d w 0 0 (0, accD d 0)
  simpa using this
theorem runD_app {d : List Ds} (f : fitD d) (w t : List Int) (h : seenD d w < w.length ∨ ∃ c, seenD d (w ++ [c]) ≤ seenD d w) : runD d (w.take (seenD d w).toNat ++ t) = runD d w := by
  have hd : diesR d 0 w = true := by
    cases hb : diesR d 0 w with
    | true => rfl
    | false =>
      exfalso
      rcases h with h | ⟨c, h⟩
      · have := (seenR_live d w 0 0 0 hb).1
        rw [seenD_eq f] at h
        omega
      · have := seenR_live d w 0 0 c hb
        rw [seenD_eq f, seenD_eq f] at h
        omega
  rw [runD_eq f, runD_eq f, seenD_eq f]
  have := runR_app d t w 0 0 (0, accD d 0) hd
  simpa using this
end Go.Proofs.Ytdalomibilicfaa
